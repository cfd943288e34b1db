/-
  RecordSame: two documents have one record, by one vocabulary and number, just if they are the same; whatever digests there are. No condition.
-/
import Derived.Test.YtkialijipcbgkaaPk45
import Derived.Test.YtkialijipcbgkaaPk43
import Derived.Test.YtkialijipcbgkaaPk21
namespace Go.Proofs.Ytkialijipcbgkaa.recordSame
open Go.ChangeShapes Go.WideShapes Go.ChangeAt Go.RowKit
open Go.ChangeMaps (open_string shut_string)
set_option linter.unusedVariables false

set_option maxHeartbeats 4000000 in
set_option maxRecDepth 100000 in
theorem walk (w : World) (v0 : Value) (l0 : List Vo.Pc) (h0 : Lv pK w w.heap.size v0 l0) (n1 : Nat) (b1 : Mt.B64 n1) (v2 : Value) (l2 : List Nat) (h2 : Lv yK w w.heap.size v2 l2) (v3 : Value) (l3 : List Nat) (h3 : Lv yK w w.heap.size v3 l3) :
    Calls Try.prog 10 #[.agg #[v0], .int .u64 (n1 : Nat), v2, v3] w (IsBool true w) := by
  have hz35 := rc_zeroV
  have hn35 := rc_n35
  have hb0 := rc_built0
  obtain ⟨N, hN⟩ : ∃ N, none35 = N := ⟨_, rfl⟩
  rw [hN] at hz35 hn35 hb0
  have HN0 : Hid (rcC Rc.zero (.slice none 0 0) = N) := hN
  clear hN
  obtain ⟨A2, c2', rfl, hd1, hd2, _, _⟩ := id h2
  have hl2 : l2.length ≤ 9223372036854775807 := by simp only [maxLen] at hd2; omega
  have H2 := Lib.hid h2
  have HI2 : I64 ((l2.length : Nat) : Int) := by unfold I64; omega
  clear hd1 hd2 h2
  obtain ⟨A3, c3', rfl, hd1, hd2, _, _⟩ := id h3
  have hl3 : l3.length ≤ 9223372036854775807 := by simp only [maxLen] at hd2; omega
  have H3 := Lib.hid h3
  have HI3 : I64 ((l3.length : Nat) : Int) := by unfold I64; omega
  clear hd1 hd2 h3
  have HN1 : Hid (n1 < 18446744073709551616) := by unfold Mt.B64 at b1; unfold Hid; omega
  clear b1
  by_cases hm : 500 < l0.length ∨ (300 < ((l2.length : Nat) : Int) ∧ ((l2.length : Nat) : Int) ≤ 4096)
  · skip
    have HM : Hid (decide (500 < l0.length ∨ (300 < ((l2.length : Nat) : Int) ∧ ((l2.length : Nat) : Int) ≤ 4096)) = true) := decide_eq_true hm
    clear hm
    obtain ⟨W, hW⟩ : ∃ X, w.alloc (.cells #[v0] 41) = X := ⟨_, rfl⟩
    obtain ⟨db, hsz, hbb⟩ := boxed hW
    have HB0 := Lib.hid hbb
    have Fv_0 := Lib.hid ((h0.below_ hbb (Nat.le_refl _)).mono_ hbb.size)
    have Fbox_0 : Hid (BoxAt W W.heap.size w.heap.size v0) := ⟨by omega, db⟩
    obtain ⟨A, c, rfl, hc1, hc2, _, _⟩ := h0
    have hl0 : l0.length ≤ 9223372036854775807 := by simp only [maxLen] at hc2; omega
    have dbox_0 := Fbox_0.out.2
    clear hc1 hc2 hbb hsz db
    go_enter Try.func10, Try.ntmps10
    have C1 := Lib.hid (rlong_any l0 _ ((l2.length : Nat) : Int) HI2 _ W Fv_0.out)
    rw [HM.out] at C1
    go_wp2_with (fail)
    refine (C1.out).mono ?_
    rintro e w1 ⟨rfl, b1⟩
    have HB1 := Lib.hid (HB0.out.trans (b1.mono HB0.out.size))
    have Fv_1 := Lib.hid ((Fv_0.out.below_ b1 (Nat.le_refl _)).mono_ b1.size)
    have Fbox_1 := Lib.hid ((Fbox_0.out.below_ b1 (Nat.le_refl _)).mono_ b1.size)
    have dbox_1 := Fbox_1.out.2
    clear C1 b1 HB0 Fv_0 Fbox_0 dbox_0
    clear Fv_1
    have C2 := Lib.hid (works_rc w1)
    go_wp2_with (fail)
    refine (C2.out).mono ?_
    rintro e w2 ⟨rfl, b2⟩
    have HB2 := Lib.hid (HB1.out.trans (b2.mono HB1.out.size))
    have Fbox_2 := Lib.hid ((Fbox_1.out.below_ b2 (Nat.le_refl _)).mono_ b2.size)
    have dbox_2 := Fbox_2.out.2
    clear C2 b2 HB1 Fbox_1 dbox_1
    go_wp2
    go_ret
    exact ⟨rfl, HB2.out⟩
  · skip
    have HM : Hid (decide (500 < l0.length ∨ (300 < ((l2.length : Nat) : Int) ∧ ((l2.length : Nat) : Int) ≤ 4096)) = false) := decide_eq_false hm
    clear hm
    by_cases hm : 500 < l0.length ∨ (300 < ((l3.length : Nat) : Int) ∧ ((l3.length : Nat) : Int) ≤ 4096)
    · skip
      have HM3 : Hid (decide (500 < l0.length ∨ (300 < ((l3.length : Nat) : Int) ∧ ((l3.length : Nat) : Int) ≤ 4096)) = true) := decide_eq_true hm
      clear hm
      obtain ⟨W, hW⟩ : ∃ X, w.alloc (.cells #[v0] 41) = X := ⟨_, rfl⟩
      obtain ⟨db, hsz, hbb⟩ := boxed hW
      have HB0 := Lib.hid hbb
      have Fv_0 := Lib.hid ((h0.below_ hbb (Nat.le_refl _)).mono_ hbb.size)
      have Fbox_0 : Hid (BoxAt W W.heap.size w.heap.size v0) := ⟨by omega, db⟩
      obtain ⟨A, c, rfl, hc1, hc2, _, _⟩ := h0
      have hl0 : l0.length ≤ 9223372036854775807 := by simp only [maxLen] at hc2; omega
      have dbox_0 := Fbox_0.out.2
      clear hc1 hc2 hbb hsz db
      go_enter Try.func10, Try.ntmps10
      have C1 := Lib.hid (rlong_any l0 _ ((l2.length : Nat) : Int) HI2 _ W Fv_0.out)
      rw [HM.out] at C1
      go_wp2_with (fail)
      refine (C1.out).mono ?_
      rintro e w1 ⟨rfl, b1⟩
      have HB1 := Lib.hid (HB0.out.trans (b1.mono HB0.out.size))
      have Fv_1 := Lib.hid ((Fv_0.out.below_ b1 (Nat.le_refl _)).mono_ b1.size)
      have Fbox_1 := Lib.hid ((Fbox_0.out.below_ b1 (Nat.le_refl _)).mono_ b1.size)
      have dbox_1 := Fbox_1.out.2
      clear C1 b1 HB0 Fv_0 Fbox_0 dbox_0
      have C2 := Lib.hid (rlong_any l0 _ ((l3.length : Nat) : Int) HI3 _ w1 Fv_1.out)
      rw [HM3.out] at C2
      go_wp2_with (fail)
      refine (C2.out).mono ?_
      rintro e w2 ⟨rfl, b2⟩
      have HB2 := Lib.hid (HB1.out.trans (b2.mono HB1.out.size))
      have Fv_2 := Lib.hid ((Fv_1.out.below_ b2 (Nat.le_refl _)).mono_ b2.size)
      have Fbox_2 := Lib.hid ((Fbox_1.out.below_ b2 (Nat.le_refl _)).mono_ b2.size)
      have dbox_2 := Fbox_2.out.2
      clear C2 b2 HB1 Fv_1 Fbox_1 dbox_1
      clear Fv_2
      have C3 := Lib.hid (works_rc w2)
      go_wp2_with (fail)
      refine (C3.out).mono ?_
      rintro e w3 ⟨rfl, b3⟩
      have HB3 := Lib.hid (HB2.out.trans (b3.mono HB2.out.size))
      have Fbox_3 := Lib.hid ((Fbox_2.out.below_ b3 (Nat.le_refl _)).mono_ b3.size)
      have dbox_3 := Fbox_3.out.2
      clear C3 b3 HB2 Fbox_2 dbox_2
      go_wp2
      go_ret
      exact ⟨rfl, HB3.out⟩
    · skip
      have HM3 : Hid (decide (500 < l0.length ∨ (300 < ((l3.length : Nat) : Int) ∧ ((l3.length : Nat) : Int) ≤ 4096)) = false) := decide_eq_false hm
      clear hm
      by_cases hgood : Vo.May l0 ∧ l2.length ≤ 4096 ∧ l3.length ≤ 4096
      · skip
        obtain ⟨hmay, hln2, hln3⟩ := hgood
        have hok : ∀ q ∈ l0, q.byte < 256 := fun q hq => (h0.ok_ q hq).1
        have HSE : Hid (decide ((⟨Sh.sum l2, n1, (l2.length : Nat), Bp.enc l0 l2⟩ : Rc.Rec) = ⟨Sh.sum l3, n1, (l3.length : Nat), Bp.enc l0 l3⟩) = decide (l2 = l3)) := by
          unfold Hid
          rw [decide_eq_decide]
          refine ⟨fun h => ?_, fun h => by rw [h]⟩
          simp only [Rc.Rec.mk.injEq] at h
          exact Rc.of_one hmay hok (fun q hq => H2.out.ok_ q hq) (fun q hq => H3.out.ok_ q hq) hln2 hln3 h.2.2.2
        have hof2 := Rc.ofE_ok (id := n1) hmay (b := l2) (by omega)
        have hof3 := Rc.ofE_ok (id := n1) hmay (b := l3) (by omega)
        obtain ⟨R2, hR⟩ : ∃ R, (⟨Sh.sum l2, n1, (l2.length : Nat), Bp.enc l0 l2⟩ : Rc.Rec) = R := ⟨_, rfl⟩
        obtain ⟨R3, hR'⟩ : ∃ R, (⟨Sh.sum l3, n1, (l3.length : Nat), Bp.enc l0 l3⟩ : Rc.Rec) = R := ⟨_, rfl⟩
        rw [hR] at hof2 HSE
        rw [hR'] at hof3 HSE
        obtain ⟨q, hqq⟩ : ∃ q, decide (l2 = l3) = q := ⟨_, rfl⟩
        rw [hqq] at HSE
        have HSM := HSE
        have HOF2 := Lib.hid hof2
        have HOF3 := Lib.hid hof3
        clear hmay hln2 hln3 hok hof2 hof3 hR hR' HSE
        obtain ⟨W, hW⟩ : ∃ X, w.alloc (.cells #[v0] 41) = X := ⟨_, rfl⟩
        obtain ⟨db, hsz, hbb⟩ := boxed hW
        have HB0 := Lib.hid hbb
        have Fv_0 := Lib.hid ((h0.below_ hbb (Nat.le_refl _)).mono_ hbb.size)
        have Fbox_0 : Hid (BoxAt W W.heap.size w.heap.size v0) := ⟨by omega, db⟩
        obtain ⟨A, c, rfl, hc1, hc2, _, _⟩ := h0
        have hl0 : l0.length ≤ 9223372036854775807 := by simp only [maxLen] at hc2; omega
        have dbox_0 := Fbox_0.out.2
        clear hc1 hc2 hbb hsz db
        have Fb_0 := Lib.hid ((H2.out.below_ HB0.out (Nat.le_refl _)).mono_ HB0.out.size)
        have Fc_0 := Lib.hid ((H3.out.below_ HB0.out (Nat.le_refl _)).mono_ HB0.out.size)
        go_enter Try.func10, Try.ntmps10
        have C1 := Lib.hid (rlong_any l0 _ ((l2.length : Nat) : Int) HI2 _ W Fv_0.out)
        rw [HM.out] at C1
        go_wp2_with (fail)
        refine (C1.out).mono ?_
        rintro e w1 ⟨rfl, b1⟩
        have HB1 := Lib.hid (HB0.out.trans (b1.mono HB0.out.size))
        have Fv_1 := Lib.hid ((Fv_0.out.below_ b1 (Nat.le_refl _)).mono_ b1.size)
        have Fbox_1 := Lib.hid ((Fbox_0.out.below_ b1 (Nat.le_refl _)).mono_ b1.size)
        have Fb_1 := Lib.hid ((Fb_0.out.below_ b1 (Nat.le_refl _)).mono_ b1.size)
        have Fc_1 := Lib.hid ((Fc_0.out.below_ b1 (Nat.le_refl _)).mono_ b1.size)
        have dbox_1 := Fbox_1.out.2
        clear C1 b1 HB0 Fv_0 Fbox_0 Fb_0 Fc_0 dbox_0
        have C2 := Lib.hid (rlong_any l0 _ ((l3.length : Nat) : Int) HI3 _ w1 Fv_1.out)
        rw [HM3.out] at C2
        go_wp2_with (fail)
        refine (C2.out).mono ?_
        rintro e w2 ⟨rfl, b2⟩
        have HB2 := Lib.hid (HB1.out.trans (b2.mono HB1.out.size))
        have Fv_2 := Lib.hid ((Fv_1.out.below_ b2 (Nat.le_refl _)).mono_ b2.size)
        have Fbox_2 := Lib.hid ((Fbox_1.out.below_ b2 (Nat.le_refl _)).mono_ b2.size)
        have Fb_2 := Lib.hid ((Fb_1.out.below_ b2 (Nat.le_refl _)).mono_ b2.size)
        have Fc_2 := Lib.hid ((Fc_1.out.below_ b2 (Nat.le_refl _)).mono_ b2.size)
        have dbox_2 := Fbox_2.out.2
        clear C2 b2 HB1 Fv_1 Fbox_1 Fb_1 Fc_1 dbox_1
        have C3 := Lib.hid (prcof_any l0 _ n1 l2 _ _ w2 Fv_2.out Fb_2.out HN1.out (Nat.le_refl _))
        rw [HOF2.out] at C3
        go_wp2_with (fail)
        refine (C3.out).mono ?_
        rintro e w3 ⟨A3, c3, rfl, f3, o3, b3⟩
        have HB3 := Lib.hid (HB2.out.trans (b3.mono HB2.out.size))
        have Fv_3 := Lib.hid ((Fv_2.out.below_ b3 (Nat.le_refl _)).mono_ b3.size)
        have Fbox_3 := Lib.hid ((Fbox_2.out.below_ b3 (Nat.le_refl _)).mono_ b3.size)
        have Fb_3 := Lib.hid ((Fb_2.out.below_ b3 (Nat.le_refl _)).mono_ b3.size)
        have Fc_3 := Lib.hid ((Fc_2.out.below_ b3 (Nat.le_refl _)).mono_ b3.size)
        have dbox_3 := Fbox_3.out.2
        have Fx_3 := Lib.hid (o3.form_)
        clear C3 b3 HB2 Fv_2 Fbox_2 Fb_2 Fc_2 dbox_2 o3
        have fit3 := Lib.hid f3
        obtain ⟨D3, hD3⟩ : ∃ C, rcC R2 (.slice A3 R2.toks.length c3) = C := ⟨_, rfl⟩
        obtain ⟨vs3, vo3, vz3⟩ := rc_val f3 hD3
        replace vz3 := Lib.hid vz3
        rw [hD3]
        replace hD3 := Lib.hid hD3
        clear f3
        obtain ⟨X3, hX3⟩ : ∃ X, (w3.alloc (.cells N 27)).setRow w3.heap.size D3 = X := ⟨_, rfl⟩
        obtain ⟨hxa3, hxb3⟩ := rc_stored hX3
        have b4 := hxb3
        have HB4 := Lib.hid (HB3.out.trans (b4.mono HB3.out.size))
        have Fv_4 := Lib.hid ((Fv_3.out.below_ b4 (Nat.le_refl _)).mono_ b4.size)
        have Fbox_4 := Lib.hid ((Fbox_3.out.below_ b4 (Nat.le_refl _)).mono_ b4.size)
        have Fb_4 := Lib.hid ((Fb_3.out.below_ b4 (Nat.le_refl _)).mono_ b4.size)
        have Fc_4 := Lib.hid ((Fc_3.out.below_ b4 (Nat.le_refl _)).mono_ b4.size)
        have Fx_4 := Lib.hid ((Fx_3.out.below_ b4 (Nat.le_refl _)).mono_ b4.size)
        have dbox_4 := Fbox_4.out.2
        clear b4 HB3 Fv_3 Fbox_3 Fb_3 Fc_3 Fx_3 dbox_3
        have Fbx_4 := Lib.hid hxa3
        clear hxa3 hxb3
        have C5 := Lib.hid (prcof_any l0 _ n1 l3 _ _ X3 Fv_4.out Fc_4.out HN1.out (Nat.le_refl _))
        rw [HOF3.out] at C5
        go_wp2_with (first
          | (refine wpList_store_row rfl _ _ _ rfl w3.heap.size D3 rfl rfl 27 N (Rw.new w3 _ _) vs3 (by rw [vz3.out, hn35]) vo3 ?_; rw [hX3])
          | (refine wpList_load_row rfl _ _ rfl w3.heap.size rfl 27 D3 (0, 0) _ Fbx_4.out.2 Try.underlying27 rfl (by rw [vs3]) ?_))
        refine (C5.out).mono ?_
        rintro e w5 ⟨A5, c5, rfl, f5, o5, b5⟩
        have HB5 := Lib.hid (HB4.out.trans (b5.mono HB4.out.size))
        have Fv_5 := Lib.hid ((Fv_4.out.below_ b5 (Nat.le_refl _)).mono_ b5.size)
        have Fbox_5 := Lib.hid ((Fbox_4.out.below_ b5 (Nat.le_refl _)).mono_ b5.size)
        have Fb_5 := Lib.hid ((Fb_4.out.below_ b5 (Nat.le_refl _)).mono_ b5.size)
        have Fc_5 := Lib.hid ((Fc_4.out.below_ b5 (Nat.le_refl _)).mono_ b5.size)
        have Fx_5 := Lib.hid ((Fx_4.out.below_ b5 (Nat.le_refl _)).mono_ b5.size)
        have Fbx_5 := Lib.hid ((Fbx_4.out.below_ b5 (Nat.le_refl _)).mono_ b5.size)
        have dbox_5 := Fbox_5.out.2
        have Fy_5 := Lib.hid (o5.form_)
        clear C5 b5 HB4 Fv_4 Fbox_4 Fb_4 Fc_4 Fx_4 Fbx_4 dbox_4 o5
        clear hX3
        have fit5 := Lib.hid f5
        obtain ⟨D5, hD5⟩ : ∃ C, rcC R3 (.slice A5 R3.toks.length c5) = C := ⟨_, rfl⟩
        obtain ⟨vs5, vo5, vz5⟩ := rc_val f5 hD5
        replace vz5 := Lib.hid vz5
        rw [hD5]
        replace hD5 := Lib.hid hD5
        clear f5
        obtain ⟨X5, hX5⟩ : ∃ X, (w5.alloc (.cells N 27)).setRow w5.heap.size D5 = X := ⟨_, rfl⟩
        obtain ⟨hxa5, hxb5⟩ := rc_stored hX5
        have b6 := hxb5
        have HB6 := Lib.hid (HB5.out.trans (b6.mono HB5.out.size))
        have Fv_6 := Lib.hid ((Fv_5.out.below_ b6 (Nat.le_refl _)).mono_ b6.size)
        have Fbox_6 := Lib.hid ((Fbox_5.out.below_ b6 (Nat.le_refl _)).mono_ b6.size)
        have Fb_6 := Lib.hid ((Fb_5.out.below_ b6 (Nat.le_refl _)).mono_ b6.size)
        have Fc_6 := Lib.hid ((Fc_5.out.below_ b6 (Nat.le_refl _)).mono_ b6.size)
        have Fx_6 := Lib.hid ((Fx_5.out.below_ b6 (Nat.le_refl _)).mono_ b6.size)
        have Fbx_6 := Lib.hid ((Fbx_5.out.below_ b6 (Nat.le_refl _)).mono_ b6.size)
        have Fy_6 := Lib.hid ((Fy_5.out.below_ b6 (Nat.le_refl _)).mono_ b6.size)
        have dbox_6 := Fbox_6.out.2
        clear b6 HB5 Fv_5 Fbox_5 Fb_5 Fc_5 Fx_5 Fbx_5 Fy_5 dbox_5
        have Fby_6 := Lib.hid hxa5
        clear hxa5 hxb5
        have C7 := Lib.hid (rec_lv R2 R3 _ _ _ _ X5 fit3.out fit5.out Fx_6.out Fy_6.out (Nat.le_refl _) (Nat.le_refl _))
        rw [hD3.out, hD5.out, HSM.out] at C7
        go_wp2_with (first
          | (refine wpList_store_row rfl _ _ _ rfl w5.heap.size D5 rfl rfl 27 N (Rw.new w5 _ _) vs5 (by rw [vz5.out, hn35]) vo5 ?_; rw [hX5])
          | (refine wpList_load_row rfl _ _ rfl w3.heap.size rfl 27 D3 (0, 0) _ Fbx_6.out.2 Try.underlying27 rfl (by rw [vs3]) ?_)
          | (refine wpList_load_row rfl _ _ rfl w5.heap.size rfl 27 D5 (0, 0) _ Fby_6.out.2 Try.underlying27 rfl (by rw [vs5]) ?_))
        refine (C7.out).mono ?_
        rintro e w7 ⟨rfl, b7⟩
        have HB7 := Lib.hid (HB6.out.trans (b7.mono HB6.out.size))
        have Fv_7 := Lib.hid ((Fv_6.out.below_ b7 (Nat.le_refl _)).mono_ b7.size)
        have Fbox_7 := Lib.hid ((Fbox_6.out.below_ b7 (Nat.le_refl _)).mono_ b7.size)
        have Fb_7 := Lib.hid ((Fb_6.out.below_ b7 (Nat.le_refl _)).mono_ b7.size)
        have Fc_7 := Lib.hid ((Fc_6.out.below_ b7 (Nat.le_refl _)).mono_ b7.size)
        have Fx_7 := Lib.hid ((Fx_6.out.below_ b7 (Nat.le_refl _)).mono_ b7.size)
        have Fbx_7 := Lib.hid ((Fbx_6.out.below_ b7 (Nat.le_refl _)).mono_ b7.size)
        have Fy_7 := Lib.hid ((Fy_6.out.below_ b7 (Nat.le_refl _)).mono_ b7.size)
        have Fby_7 := Lib.hid ((Fby_6.out.below_ b7 (Nat.le_refl _)).mono_ b7.size)
        have dbox_7 := Fbox_7.out.2
        clear C7 b7 HB6 Fv_6 Fbox_6 Fb_6 Fc_6 Fx_6 Fbx_6 Fy_6 Fby_6 dbox_6
        clear hX5
        have C8 := Lib.hid (octs_lv _ _ _ _ _ _ w7 Fb_7.out Fc_7.out)
        rw [hqq] at C8
        go_wp2_with (first
          | (refine wpList_load_row rfl _ _ rfl w3.heap.size rfl 27 D3 (0, 0) _ Fbx_7.out.2 Try.underlying27 rfl (by rw [vs3]) ?_)
          | (refine wpList_load_row rfl _ _ rfl w5.heap.size rfl 27 D5 (0, 0) _ Fby_7.out.2 Try.underlying27 rfl (by rw [vs5]) ?_))
        refine (C8.out).mono ?_
        rintro e w8 ⟨rfl, b8⟩
        have HB8 := Lib.hid (HB7.out.trans (b8.mono HB7.out.size))
        have Fv_8 := Lib.hid ((Fv_7.out.below_ b8 (Nat.le_refl _)).mono_ b8.size)
        have Fbox_8 := Lib.hid ((Fbox_7.out.below_ b8 (Nat.le_refl _)).mono_ b8.size)
        have Fb_8 := Lib.hid ((Fb_7.out.below_ b8 (Nat.le_refl _)).mono_ b8.size)
        have Fc_8 := Lib.hid ((Fc_7.out.below_ b8 (Nat.le_refl _)).mono_ b8.size)
        have Fx_8 := Lib.hid ((Fx_7.out.below_ b8 (Nat.le_refl _)).mono_ b8.size)
        have Fbx_8 := Lib.hid ((Fbx_7.out.below_ b8 (Nat.le_refl _)).mono_ b8.size)
        have Fy_8 := Lib.hid ((Fy_7.out.below_ b8 (Nat.le_refl _)).mono_ b8.size)
        have Fby_8 := Lib.hid ((Fby_7.out.below_ b8 (Nat.le_refl _)).mono_ b8.size)
        have dbox_8 := Fbox_8.out.2
        clear C8 b8 HB7 Fv_7 Fbox_7 Fb_7 Fc_7 Fx_7 Fbx_7 Fy_7 Fby_7 dbox_7
        have hq2 : (q == q) = true := by simp
        clear Fv_8
        clear Fb_8
        clear Fc_8
        clear Fx_8
        clear Fy_8
        clear Fbx_8
        clear Fby_8
        have C9 := Lib.hid (works_rc w8)
        go_wp2_with (fail)
        refine (C9.out).mono ?_
        rintro e w9 ⟨rfl, b9⟩
        have HB9 := Lib.hid (HB8.out.trans (b9.mono HB8.out.size))
        have Fbox_9 := Lib.hid ((Fbox_8.out.below_ b9 (Nat.le_refl _)).mono_ b9.size)
        have dbox_9 := Fbox_9.out.2
        clear C9 b9 HB8 Fbox_8 dbox_8
        go_wp2
        go_ret
        exact ⟨rfl, HB9.out⟩
      · skip
        obtain ⟨⟨x, E⟩, hx⟩ : ∃ r, Rc.ofE l0 n1 l2 = r := ⟨_, rfl⟩
        obtain ⟨⟨y, F⟩, hy⟩ : ∃ r, Rc.ofE l0 n1 l3 = r := ⟨_, rfl⟩
        have HX := Lib.hid hx
        have HY := Lib.hid hy
        by_cases hE : E = 0
        · skip
          subst hE
          have hF : F ≠ 0 := fun h => by
            subst h
            by_cases h1 : Vo.May l0
            · by_cases h2 : 4096 < l2.length
              · rw [Rc.ofE_long h1 h2] at hx; simp at hx
              · by_cases h3 : 4096 < l3.length
                · rw [Rc.ofE_long h1 h3] at hy; simp at hy
                · exact hgood ⟨h1, by omega, by omega⟩
            · rw [Rc.ofE_no h1] at hx; simp at hx
          have hq : ((F : Int) != 0) = true := by rw [bne_iff_ne]; omega
          clear hx hy hgood hF
          obtain ⟨W, hW⟩ : ∃ X, w.alloc (.cells #[v0] 41) = X := ⟨_, rfl⟩
          obtain ⟨db, hsz, hbb⟩ := boxed hW
          have HB0 := Lib.hid hbb
          have Fv_0 := Lib.hid ((h0.below_ hbb (Nat.le_refl _)).mono_ hbb.size)
          have Fbox_0 : Hid (BoxAt W W.heap.size w.heap.size v0) := ⟨by omega, db⟩
          obtain ⟨A, c, rfl, hc1, hc2, _, _⟩ := h0
          have hl0 : l0.length ≤ 9223372036854775807 := by simp only [maxLen] at hc2; omega
          have dbox_0 := Fbox_0.out.2
          clear hc1 hc2 hbb hsz db
          have Fb_0 := Lib.hid ((H2.out.below_ HB0.out (Nat.le_refl _)).mono_ HB0.out.size)
          have Fc_0 := Lib.hid ((H3.out.below_ HB0.out (Nat.le_refl _)).mono_ HB0.out.size)
          go_enter Try.func10, Try.ntmps10
          have C1 := Lib.hid (rlong_any l0 _ ((l2.length : Nat) : Int) HI2 _ W Fv_0.out)
          rw [HM.out] at C1
          go_wp2_with (fail)
          refine (C1.out).mono ?_
          rintro e w1 ⟨rfl, b1⟩
          have HB1 := Lib.hid (HB0.out.trans (b1.mono HB0.out.size))
          have Fv_1 := Lib.hid ((Fv_0.out.below_ b1 (Nat.le_refl _)).mono_ b1.size)
          have Fbox_1 := Lib.hid ((Fbox_0.out.below_ b1 (Nat.le_refl _)).mono_ b1.size)
          have Fb_1 := Lib.hid ((Fb_0.out.below_ b1 (Nat.le_refl _)).mono_ b1.size)
          have Fc_1 := Lib.hid ((Fc_0.out.below_ b1 (Nat.le_refl _)).mono_ b1.size)
          have dbox_1 := Fbox_1.out.2
          clear C1 b1 HB0 Fv_0 Fbox_0 Fb_0 Fc_0 dbox_0
          have C2 := Lib.hid (rlong_any l0 _ ((l3.length : Nat) : Int) HI3 _ w1 Fv_1.out)
          rw [HM3.out] at C2
          go_wp2_with (fail)
          refine (C2.out).mono ?_
          rintro e w2 ⟨rfl, b2⟩
          have HB2 := Lib.hid (HB1.out.trans (b2.mono HB1.out.size))
          have Fv_2 := Lib.hid ((Fv_1.out.below_ b2 (Nat.le_refl _)).mono_ b2.size)
          have Fbox_2 := Lib.hid ((Fbox_1.out.below_ b2 (Nat.le_refl _)).mono_ b2.size)
          have Fb_2 := Lib.hid ((Fb_1.out.below_ b2 (Nat.le_refl _)).mono_ b2.size)
          have Fc_2 := Lib.hid ((Fc_1.out.below_ b2 (Nat.le_refl _)).mono_ b2.size)
          have dbox_2 := Fbox_2.out.2
          clear C2 b2 HB1 Fv_1 Fbox_1 Fb_1 Fc_1 dbox_1
          have C3 := Lib.hid (prcof_any l0 _ n1 l2 _ _ w2 Fv_2.out Fb_2.out HN1.out (Nat.le_refl _))
          rw [HX.out] at C3
          go_wp2_with (fail)
          refine (C3.out).mono ?_
          rintro e w3 ⟨A3, c3, rfl, f3, o3, b3⟩
          have HB3 := Lib.hid (HB2.out.trans (b3.mono HB2.out.size))
          have Fv_3 := Lib.hid ((Fv_2.out.below_ b3 (Nat.le_refl _)).mono_ b3.size)
          have Fbox_3 := Lib.hid ((Fbox_2.out.below_ b3 (Nat.le_refl _)).mono_ b3.size)
          have Fb_3 := Lib.hid ((Fb_2.out.below_ b3 (Nat.le_refl _)).mono_ b3.size)
          have Fc_3 := Lib.hid ((Fc_2.out.below_ b3 (Nat.le_refl _)).mono_ b3.size)
          have dbox_3 := Fbox_3.out.2
          have Fx_3 := Lib.hid (o3.form_)
          clear C3 b3 HB2 Fv_2 Fbox_2 Fb_2 Fc_2 dbox_2 o3
          have fit3 := Lib.hid f3
          obtain ⟨D3, hD3⟩ : ∃ C, rcC x (.slice A3 x.toks.length c3) = C := ⟨_, rfl⟩
          obtain ⟨vs3, vo3, vz3⟩ := rc_val f3 hD3
          replace vz3 := Lib.hid vz3
          rw [hD3]
          replace hD3 := Lib.hid hD3
          clear f3
          obtain ⟨X3, hX3⟩ : ∃ X, (w3.alloc (.cells N 27)).setRow w3.heap.size D3 = X := ⟨_, rfl⟩
          obtain ⟨hxa3, hxb3⟩ := rc_stored hX3
          have b4 := hxb3
          have HB4 := Lib.hid (HB3.out.trans (b4.mono HB3.out.size))
          have Fv_4 := Lib.hid ((Fv_3.out.below_ b4 (Nat.le_refl _)).mono_ b4.size)
          have Fbox_4 := Lib.hid ((Fbox_3.out.below_ b4 (Nat.le_refl _)).mono_ b4.size)
          have Fb_4 := Lib.hid ((Fb_3.out.below_ b4 (Nat.le_refl _)).mono_ b4.size)
          have Fc_4 := Lib.hid ((Fc_3.out.below_ b4 (Nat.le_refl _)).mono_ b4.size)
          have Fx_4 := Lib.hid ((Fx_3.out.below_ b4 (Nat.le_refl _)).mono_ b4.size)
          have dbox_4 := Fbox_4.out.2
          clear b4 HB3 Fv_3 Fbox_3 Fb_3 Fc_3 Fx_3 dbox_3
          have Fbx_4 := Lib.hid hxa3
          clear hxa3 hxb3
          have C5 := Lib.hid (prcof_any l0 _ n1 l3 _ _ X3 Fv_4.out Fc_4.out HN1.out (Nat.le_refl _))
          rw [HY.out] at C5
          go_wp2_with (first
            | (refine wpList_store_row rfl _ _ _ rfl w3.heap.size D3 rfl rfl 27 N (Rw.new w3 _ _) vs3 (by rw [vz3.out, hn35]) vo3 ?_; rw [hX3])
            | (refine wpList_load_row rfl _ _ rfl w3.heap.size rfl 27 D3 (0, 0) _ Fbx_4.out.2 Try.underlying27 rfl (by rw [vs3]) ?_))
          refine (C5.out).mono ?_
          rintro e w5 ⟨A5, c5, rfl, f5, o5, b5⟩
          have HB5 := Lib.hid (HB4.out.trans (b5.mono HB4.out.size))
          have Fv_5 := Lib.hid ((Fv_4.out.below_ b5 (Nat.le_refl _)).mono_ b5.size)
          have Fbox_5 := Lib.hid ((Fbox_4.out.below_ b5 (Nat.le_refl _)).mono_ b5.size)
          have Fb_5 := Lib.hid ((Fb_4.out.below_ b5 (Nat.le_refl _)).mono_ b5.size)
          have Fc_5 := Lib.hid ((Fc_4.out.below_ b5 (Nat.le_refl _)).mono_ b5.size)
          have Fx_5 := Lib.hid ((Fx_4.out.below_ b5 (Nat.le_refl _)).mono_ b5.size)
          have Fbx_5 := Lib.hid ((Fbx_4.out.below_ b5 (Nat.le_refl _)).mono_ b5.size)
          have dbox_5 := Fbox_5.out.2
          have Fy_5 := Lib.hid (o5.form_)
          clear C5 b5 HB4 Fv_4 Fbox_4 Fb_4 Fc_4 Fx_4 Fbx_4 dbox_4 o5
          clear hX3
          have fit5 := Lib.hid f5
          obtain ⟨D5, hD5⟩ : ∃ C, rcC y (.slice A5 y.toks.length c5) = C := ⟨_, rfl⟩
          obtain ⟨vs5, vo5, vz5⟩ := rc_val f5 hD5
          replace vz5 := Lib.hid vz5
          rw [hD5]
          replace hD5 := Lib.hid hD5
          clear f5
          obtain ⟨X5, hX5⟩ : ∃ X, (w5.alloc (.cells N 27)).setRow w5.heap.size D5 = X := ⟨_, rfl⟩
          obtain ⟨hxa5, hxb5⟩ := rc_stored hX5
          have b6 := hxb5
          have HB6 := Lib.hid (HB5.out.trans (b6.mono HB5.out.size))
          have Fv_6 := Lib.hid ((Fv_5.out.below_ b6 (Nat.le_refl _)).mono_ b6.size)
          have Fbox_6 := Lib.hid ((Fbox_5.out.below_ b6 (Nat.le_refl _)).mono_ b6.size)
          have Fb_6 := Lib.hid ((Fb_5.out.below_ b6 (Nat.le_refl _)).mono_ b6.size)
          have Fc_6 := Lib.hid ((Fc_5.out.below_ b6 (Nat.le_refl _)).mono_ b6.size)
          have Fx_6 := Lib.hid ((Fx_5.out.below_ b6 (Nat.le_refl _)).mono_ b6.size)
          have Fbx_6 := Lib.hid ((Fbx_5.out.below_ b6 (Nat.le_refl _)).mono_ b6.size)
          have Fy_6 := Lib.hid ((Fy_5.out.below_ b6 (Nat.le_refl _)).mono_ b6.size)
          have dbox_6 := Fbox_6.out.2
          clear b6 HB5 Fv_5 Fbox_5 Fb_5 Fc_5 Fx_5 Fbx_5 Fy_5 dbox_5
          have Fby_6 := Lib.hid hxa5
          clear hxa5 hxb5
          clear Fv_6
          clear Fb_6
          clear Fc_6
          clear Fx_6
          clear Fy_6
          have C7 := Lib.hid (works_rc X5)
          go_wp2_with (first
            | (refine wpList_store_row rfl _ _ _ rfl w5.heap.size D5 rfl rfl 27 N (Rw.new w5 _ _) vs5 (by rw [vz5.out, hn35]) vo5 ?_; rw [hX5])
            | (refine wpList_load_row rfl _ _ rfl w3.heap.size rfl 27 D3 (0, 0) _ Fbx_6.out.2 Try.underlying27 rfl (by rw [vs3]) ?_)
            | (refine wpList_load_row rfl _ _ rfl w5.heap.size rfl 27 D5 (0, 0) _ Fby_6.out.2 Try.underlying27 rfl (by rw [vs5]) ?_))
          refine (C7.out).mono ?_
          rintro e w7 ⟨rfl, b7⟩
          have HB7 := Lib.hid (HB6.out.trans (b7.mono HB6.out.size))
          have Fbox_7 := Lib.hid ((Fbox_6.out.below_ b7 (Nat.le_refl _)).mono_ b7.size)
          have Fbx_7 := Lib.hid ((Fbx_6.out.below_ b7 (Nat.le_refl _)).mono_ b7.size)
          have Fby_7 := Lib.hid ((Fby_6.out.below_ b7 (Nat.le_refl _)).mono_ b7.size)
          have dbox_7 := Fbox_7.out.2
          clear C7 b7 HB6 Fbox_6 Fbx_6 Fby_6 dbox_6
          clear hX5
          go_wp2_with (first
            | (refine wpList_load_row rfl _ _ rfl w3.heap.size rfl 27 D3 (0, 0) _ Fbx_7.out.2 Try.underlying27 rfl (by rw [vs3]) ?_)
            | (refine wpList_load_row rfl _ _ rfl w5.heap.size rfl 27 D5 (0, 0) _ Fby_7.out.2 Try.underlying27 rfl (by rw [vs5]) ?_))
          go_ret
          exact ⟨rfl, HB7.out⟩
        · skip
          have hq : ((E : Int) != 0) = true := by rw [bne_iff_ne]; omega
          clear hx hy hgood hE
          obtain ⟨W, hW⟩ : ∃ X, w.alloc (.cells #[v0] 41) = X := ⟨_, rfl⟩
          obtain ⟨db, hsz, hbb⟩ := boxed hW
          have HB0 := Lib.hid hbb
          have Fv_0 := Lib.hid ((h0.below_ hbb (Nat.le_refl _)).mono_ hbb.size)
          have Fbox_0 : Hid (BoxAt W W.heap.size w.heap.size v0) := ⟨by omega, db⟩
          obtain ⟨A, c, rfl, hc1, hc2, _, _⟩ := h0
          have hl0 : l0.length ≤ 9223372036854775807 := by simp only [maxLen] at hc2; omega
          have dbox_0 := Fbox_0.out.2
          clear hc1 hc2 hbb hsz db
          have Fb_0 := Lib.hid ((H2.out.below_ HB0.out (Nat.le_refl _)).mono_ HB0.out.size)
          have Fc_0 := Lib.hid ((H3.out.below_ HB0.out (Nat.le_refl _)).mono_ HB0.out.size)
          go_enter Try.func10, Try.ntmps10
          have C1 := Lib.hid (rlong_any l0 _ ((l2.length : Nat) : Int) HI2 _ W Fv_0.out)
          rw [HM.out] at C1
          go_wp2_with (fail)
          refine (C1.out).mono ?_
          rintro e w1 ⟨rfl, b1⟩
          have HB1 := Lib.hid (HB0.out.trans (b1.mono HB0.out.size))
          have Fv_1 := Lib.hid ((Fv_0.out.below_ b1 (Nat.le_refl _)).mono_ b1.size)
          have Fbox_1 := Lib.hid ((Fbox_0.out.below_ b1 (Nat.le_refl _)).mono_ b1.size)
          have Fb_1 := Lib.hid ((Fb_0.out.below_ b1 (Nat.le_refl _)).mono_ b1.size)
          have Fc_1 := Lib.hid ((Fc_0.out.below_ b1 (Nat.le_refl _)).mono_ b1.size)
          have dbox_1 := Fbox_1.out.2
          clear C1 b1 HB0 Fv_0 Fbox_0 Fb_0 Fc_0 dbox_0
          have C2 := Lib.hid (rlong_any l0 _ ((l3.length : Nat) : Int) HI3 _ w1 Fv_1.out)
          rw [HM3.out] at C2
          go_wp2_with (fail)
          refine (C2.out).mono ?_
          rintro e w2 ⟨rfl, b2⟩
          have HB2 := Lib.hid (HB1.out.trans (b2.mono HB1.out.size))
          have Fv_2 := Lib.hid ((Fv_1.out.below_ b2 (Nat.le_refl _)).mono_ b2.size)
          have Fbox_2 := Lib.hid ((Fbox_1.out.below_ b2 (Nat.le_refl _)).mono_ b2.size)
          have Fb_2 := Lib.hid ((Fb_1.out.below_ b2 (Nat.le_refl _)).mono_ b2.size)
          have Fc_2 := Lib.hid ((Fc_1.out.below_ b2 (Nat.le_refl _)).mono_ b2.size)
          have dbox_2 := Fbox_2.out.2
          clear C2 b2 HB1 Fv_1 Fbox_1 Fb_1 Fc_1 dbox_1
          have C3 := Lib.hid (prcof_any l0 _ n1 l2 _ _ w2 Fv_2.out Fb_2.out HN1.out (Nat.le_refl _))
          rw [HX.out] at C3
          go_wp2_with (fail)
          refine (C3.out).mono ?_
          rintro e w3 ⟨A3, c3, rfl, f3, o3, b3⟩
          have HB3 := Lib.hid (HB2.out.trans (b3.mono HB2.out.size))
          have Fv_3 := Lib.hid ((Fv_2.out.below_ b3 (Nat.le_refl _)).mono_ b3.size)
          have Fbox_3 := Lib.hid ((Fbox_2.out.below_ b3 (Nat.le_refl _)).mono_ b3.size)
          have Fb_3 := Lib.hid ((Fb_2.out.below_ b3 (Nat.le_refl _)).mono_ b3.size)
          have Fc_3 := Lib.hid ((Fc_2.out.below_ b3 (Nat.le_refl _)).mono_ b3.size)
          have dbox_3 := Fbox_3.out.2
          have Fx_3 := Lib.hid (o3.form_)
          clear C3 b3 HB2 Fv_2 Fbox_2 Fb_2 Fc_2 dbox_2 o3
          have fit3 := Lib.hid f3
          obtain ⟨D3, hD3⟩ : ∃ C, rcC x (.slice A3 x.toks.length c3) = C := ⟨_, rfl⟩
          obtain ⟨vs3, vo3, vz3⟩ := rc_val f3 hD3
          replace vz3 := Lib.hid vz3
          rw [hD3]
          replace hD3 := Lib.hid hD3
          clear f3
          obtain ⟨X3, hX3⟩ : ∃ X, (w3.alloc (.cells N 27)).setRow w3.heap.size D3 = X := ⟨_, rfl⟩
          obtain ⟨hxa3, hxb3⟩ := rc_stored hX3
          have b4 := hxb3
          have HB4 := Lib.hid (HB3.out.trans (b4.mono HB3.out.size))
          have Fv_4 := Lib.hid ((Fv_3.out.below_ b4 (Nat.le_refl _)).mono_ b4.size)
          have Fbox_4 := Lib.hid ((Fbox_3.out.below_ b4 (Nat.le_refl _)).mono_ b4.size)
          have Fb_4 := Lib.hid ((Fb_3.out.below_ b4 (Nat.le_refl _)).mono_ b4.size)
          have Fc_4 := Lib.hid ((Fc_3.out.below_ b4 (Nat.le_refl _)).mono_ b4.size)
          have Fx_4 := Lib.hid ((Fx_3.out.below_ b4 (Nat.le_refl _)).mono_ b4.size)
          have dbox_4 := Fbox_4.out.2
          clear b4 HB3 Fv_3 Fbox_3 Fb_3 Fc_3 Fx_3 dbox_3
          have Fbx_4 := Lib.hid hxa3
          clear hxa3 hxb3
          have C5 := Lib.hid (prcof_any l0 _ n1 l3 _ _ X3 Fv_4.out Fc_4.out HN1.out (Nat.le_refl _))
          rw [HY.out] at C5
          go_wp2_with (first
            | (refine wpList_store_row rfl _ _ _ rfl w3.heap.size D3 rfl rfl 27 N (Rw.new w3 _ _) vs3 (by rw [vz3.out, hn35]) vo3 ?_; rw [hX3])
            | (refine wpList_load_row rfl _ _ rfl w3.heap.size rfl 27 D3 (0, 0) _ Fbx_4.out.2 Try.underlying27 rfl (by rw [vs3]) ?_))
          refine (C5.out).mono ?_
          rintro e w5 ⟨A5, c5, rfl, f5, o5, b5⟩
          have HB5 := Lib.hid (HB4.out.trans (b5.mono HB4.out.size))
          have Fv_5 := Lib.hid ((Fv_4.out.below_ b5 (Nat.le_refl _)).mono_ b5.size)
          have Fbox_5 := Lib.hid ((Fbox_4.out.below_ b5 (Nat.le_refl _)).mono_ b5.size)
          have Fb_5 := Lib.hid ((Fb_4.out.below_ b5 (Nat.le_refl _)).mono_ b5.size)
          have Fc_5 := Lib.hid ((Fc_4.out.below_ b5 (Nat.le_refl _)).mono_ b5.size)
          have Fx_5 := Lib.hid ((Fx_4.out.below_ b5 (Nat.le_refl _)).mono_ b5.size)
          have Fbx_5 := Lib.hid ((Fbx_4.out.below_ b5 (Nat.le_refl _)).mono_ b5.size)
          have dbox_5 := Fbox_5.out.2
          have Fy_5 := Lib.hid (o5.form_)
          clear C5 b5 HB4 Fv_4 Fbox_4 Fb_4 Fc_4 Fx_4 Fbx_4 dbox_4 o5
          clear hX3
          have fit5 := Lib.hid f5
          obtain ⟨D5, hD5⟩ : ∃ C, rcC y (.slice A5 y.toks.length c5) = C := ⟨_, rfl⟩
          obtain ⟨vs5, vo5, vz5⟩ := rc_val f5 hD5
          replace vz5 := Lib.hid vz5
          rw [hD5]
          replace hD5 := Lib.hid hD5
          clear f5
          obtain ⟨X5, hX5⟩ : ∃ X, (w5.alloc (.cells N 27)).setRow w5.heap.size D5 = X := ⟨_, rfl⟩
          obtain ⟨hxa5, hxb5⟩ := rc_stored hX5
          have b6 := hxb5
          have HB6 := Lib.hid (HB5.out.trans (b6.mono HB5.out.size))
          have Fv_6 := Lib.hid ((Fv_5.out.below_ b6 (Nat.le_refl _)).mono_ b6.size)
          have Fbox_6 := Lib.hid ((Fbox_5.out.below_ b6 (Nat.le_refl _)).mono_ b6.size)
          have Fb_6 := Lib.hid ((Fb_5.out.below_ b6 (Nat.le_refl _)).mono_ b6.size)
          have Fc_6 := Lib.hid ((Fc_5.out.below_ b6 (Nat.le_refl _)).mono_ b6.size)
          have Fx_6 := Lib.hid ((Fx_5.out.below_ b6 (Nat.le_refl _)).mono_ b6.size)
          have Fbx_6 := Lib.hid ((Fbx_5.out.below_ b6 (Nat.le_refl _)).mono_ b6.size)
          have Fy_6 := Lib.hid ((Fy_5.out.below_ b6 (Nat.le_refl _)).mono_ b6.size)
          have dbox_6 := Fbox_6.out.2
          clear b6 HB5 Fv_5 Fbox_5 Fb_5 Fc_5 Fx_5 Fbx_5 Fy_5 dbox_5
          have Fby_6 := Lib.hid hxa5
          clear hxa5 hxb5
          clear Fv_6
          clear Fb_6
          clear Fc_6
          clear Fx_6
          clear Fy_6
          have C7 := Lib.hid (works_rc X5)
          go_wp2_with (first
            | (refine wpList_store_row rfl _ _ _ rfl w5.heap.size D5 rfl rfl 27 N (Rw.new w5 _ _) vs5 (by rw [vz5.out, hn35]) vo5 ?_; rw [hX5])
            | (refine wpList_load_row rfl _ _ rfl w3.heap.size rfl 27 D3 (0, 0) _ Fbx_6.out.2 Try.underlying27 rfl (by rw [vs3]) ?_)
            | (refine wpList_load_row rfl _ _ rfl w5.heap.size rfl 27 D5 (0, 0) _ Fby_6.out.2 Try.underlying27 rfl (by rw [vs5]) ?_))
          refine (C7.out).mono ?_
          rintro e w7 ⟨rfl, b7⟩
          have HB7 := Lib.hid (HB6.out.trans (b7.mono HB6.out.size))
          have Fbox_7 := Lib.hid ((Fbox_6.out.below_ b7 (Nat.le_refl _)).mono_ b7.size)
          have Fbx_7 := Lib.hid ((Fbx_6.out.below_ b7 (Nat.le_refl _)).mono_ b7.size)
          have Fby_7 := Lib.hid ((Fby_6.out.below_ b7 (Nat.le_refl _)).mono_ b7.size)
          have dbox_7 := Fbox_7.out.2
          clear C7 b7 HB6 Fbox_6 Fbx_6 Fby_6 dbox_6
          clear hX5
          go_wp2_with (first
            | (refine wpList_load_row rfl _ _ rfl w3.heap.size rfl 27 D3 (0, 0) _ Fbx_7.out.2 Try.underlying27 rfl (by rw [vs3]) ?_)
            | (refine wpList_load_row rfl _ _ rfl w5.heap.size rfl 27 D5 (0, 0) _ Fby_7.out.2 Try.underlying27 rfl (by rw [vs5]) ?_))
          go_ret
          exact ⟨rfl, HB7.out⟩

/-! ### From the walk to the row -/
set_option maxRecDepth 100000 in
theorem lifted (os : Os) (started : os.Started) (H : Type) (enc : TypeId × Value → H) :
    ReturnsInHanded {} Try.checked os 10 .any (Rows.recordSameSpec.pre6 enc Try.prog Try.f10 Rows.recordSameRow.domain false) (Rows.recordSameSpec.post enc Try.prog Try.f10 false true false false) := by
  refine returnsInHanded_of_change (C := Try.checked) own started (by kernel_rfl) Try.func10
    (ChangeSpec.witness6 (enc := enc) (C := Try.checked) false ⟨#[], #[.agg #[.slice none 0 0], .int .u64 0, .slice none 0 0, .slice none 0 0], []⟩ 8 (by kernel_rfl) (by kernel_rfl) (by kernel_rfl) (by kernel_rfl)) ?_
  intro W base args ds gs before hval0 hW hcnd _
  have hval : ∀ (j : Nat) t v, Try.f10.params[j]? = some t → args[j]? = some v → Value.okWide Try.prog W .any base t v := hval0
  have hW' := hW
  obtain ⟨p, q, hA0, hV, rfl, hfz, hnd⟩ := hW
  have hA : DataW.TrodAll enc Try.prog W 0 (fun _ => true) true Try.f10.params.toList args.toList ds p := hA0
  rw [Try.params10] at hA hval
  obtain ⟨v0, vs0, d0, ds0, p0, q0, hargs, rfl, rfl, h0, r0⟩ := trodAll_cons hA
  obtain ⟨v1, vs1, d1, ds1, p1, q1, rfl, rfl, rfl, h1, r1⟩ := trodAll_cons r0
  obtain ⟨v2, vs2, d2, ds2, p2, q2, rfl, rfl, rfl, h2, r2⟩ := trodAll_cons r1
  obtain ⟨v3, vs3, d3, ds3, p3, q3, rfl, rfl, rfl, h3, r3⟩ := trodAll_cons r2
  obtain ⟨rfl, rfl, rfl⟩ := trodAll_nil r3
  obtain rfl : args = #[v0, v1, v2, v3] := by cases args; simp_all
  obtain ⟨rfl, rfl⟩ := trodVars_none hV
  have k0 := h0
  have lt0 : ∀ x ∈ p0, x.block < W.heap.size := by obtain ⟨m, hm⟩ := k0; exact DataW.trod_lt m _ _ _ hm
  obtain ⟨u0, l0, rfl, hb0⟩ := voc_in (hval 0 41 v0 rfl rfl) h0
  obtain ⟨a1, rfl, rfl, rfl, w1⟩ := open_int Try.underlying24 (hval 1 24 v1 rfl rfl) h1
  obtain ⟨n1, e1, b1⟩ := u64_nat w1
  subst e1
  obtain ⟨a2, len2, cap2, rfl⟩ := okWide_slice Try.underlying28 (hval 2 28 v2 rfl rfl)
  have k2 := h2
  have lt2 : ∀ x ∈ p2, x.block < W.heap.size := by obtain ⟨m, hm⟩ := k2; exact DataW.trod_lt m _ _ _ hm
  obtain ⟨l2, len_2, hb2⟩ : ∃ l : List Nat, l.length = len2 ∧ Lv yK W W.heap.size (.slice a2 len2 cap2) l := by
    obtain ⟨fuel, hf⟩ := h2
    exact octs_in hf
  obtain ⟨a3, len3, cap3, rfl⟩ := okWide_slice Try.underlying28 (hval 3 28 v3 rfl rfl)
  have k3 := h3
  have lt3 : ∀ x ∈ p3, x.block < W.heap.size := by obtain ⟨m, hm⟩ := k3; exact DataW.trod_lt m _ _ _ hm
  obtain ⟨l3, len_3, hb3⟩ : ∃ l : List Nat, l.length = len3 ∧ Lv yK W W.heap.size (.slice a3 len3 cap3) l := by
    obtain ⟨fuel, hf⟩ := h3
    exact octs_in hf
  clear hA0 hval0
  refine (walk W u0 l0 hb0 n1 b1 (.slice a2 len2 cap2) l2 hb2 (.slice a3 len3 cap3) l3 hb3).mono fun e W' ⟨he, bel⟩ => ?_
  subst he
  exact ⟨_, rfl, _, _, _, [], _, [], hW', trodAll_mk1 (shut_bool Try.underlying4 _), (trodAll_cons_mk (Below.trod laidOut (by kernel_rfl) (of_decide_eq_true (by kernel_rfl)) k0 bel lt0) (trodAll_cons_mk (shut_int Try.underlying24 w1) (trodAll_cons_mk (Below.trod laidOut (by kernel_rfl) (of_decide_eq_true (by kernel_rfl)) k2 bel lt2) (trodAll_cons_mk (Below.trod laidOut (by kernel_rfl) (of_decide_eq_true (by kernel_rfl)) k3 bel lt3) trodAll_mk0)))), rfl, bel.frame _, fun h => by cases h⟩

theorem proved : Rows.RecordSameSaid :=
  OpenClaim.holds_of_wide 10 Try.f10 rfl rfl rfl rfl rfl rfl rfl ⟨rfl, rfl, rfl, rfl, rfl⟩ rfl rfl rfl rfl rfl (by kernel_rfl) Try.func10 (by kernel_rfl)
    (of_decide_eq_true (by kernel_rfl)) (by unfold Func.isWrapper; first | (rw [if_pos (by decide +kernel)]; kernel_rfl) | (rw [if_neg (by decide +kernel)]; exact ⟨rfl, rfl⟩))
    (fun os started H enc _ => lifted os started H enc)

end Go.Proofs.Ytkialijipcbgkaa.recordSame
