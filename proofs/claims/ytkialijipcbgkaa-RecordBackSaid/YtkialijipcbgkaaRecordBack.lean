/-
  RecordBack: a document comes back of its record, through bytes; the record is right. No condition.
-/
import Derived.Test.YtkialijipcbgkaaPk45
import Derived.Test.YtkialijipcbgkaaPk43
import Derived.Test.YtkialijipcbgkaaPk21
namespace Go.Proofs.Ytkialijipcbgkaa.recordBack
open Go.ChangeShapes Go.WideShapes Go.ChangeAt Go.RowKit
open Go.ChangeMaps (open_string shut_string)
set_option linter.unusedVariables false

set_option maxHeartbeats 4000000 in
set_option maxRecDepth 100000 in
theorem walk (w : World) (v0 : Value) (l0 : List Vo.Pc) (h0 : Lv pK w w.heap.size v0 l0) (n1 : Nat) (b1 : Mt.B64 n1) (v2 : Value) (l2 : List Nat) (h2 : Lv yK w w.heap.size v2 l2) :
    Calls Try.prog 7 #[.agg #[v0], .int .u64 (n1 : Nat), v2] w (IsBool true w) := by
  have hz35 := rc_zeroV
  have hn35 := rc_n35
  have hb0 := rc_built0
  obtain ⟨N, hN⟩ : ∃ N, none35 = N := ⟨_, rfl⟩
  rw [hN] at hz35 hn35 hb0
  have HN0 : Hid (rcC Rc.zero (.slice none 0 0) = N) := hN
  clear hN
  obtain ⟨A2, c2', rfl, hd1, hd2, _, _⟩ := id h2
  have hl2 : l2.length ≤ 9223372036854775807 := by simp only [maxLen] at hd2; omega
  have H2 := Lib.hid h2
  have HI2 : I64 ((l2.length : Nat) : Int) := by unfold I64; omega
  clear hd1 hd2 h2
  have HN1 : Hid (n1 < 18446744073709551616) := by unfold Mt.B64 at b1; unfold Hid; omega
  clear b1
  by_cases hm : 500 < l0.length ∨ (300 < ((l2.length : Nat) : Int) ∧ ((l2.length : Nat) : Int) ≤ 4096)
  · skip
    have HM : Hid (decide (500 < l0.length ∨ (300 < ((l2.length : Nat) : Int) ∧ ((l2.length : Nat) : Int) ≤ 4096)) = true) := decide_eq_true hm
    clear hm
    obtain ⟨W, hW⟩ : ∃ X, w.alloc (.cells #[v0] 41) = X := ⟨_, rfl⟩
    obtain ⟨db, hsz, hbb⟩ := boxed hW
    have HB0 := Lib.hid hbb
    have Fv_0 := Lib.hid ((h0.below_ hbb (Nat.le_refl _)).mono_ hbb.size)
    have Fbox_0 : Hid (BoxAt W W.heap.size w.heap.size v0) := ⟨by omega, db⟩
    obtain ⟨A, c, rfl, hc1, hc2, _, _⟩ := h0
    have hl0 : l0.length ≤ 9223372036854775807 := by simp only [maxLen] at hc2; omega
    have dbox_0 := Fbox_0.out.2
    clear hc1 hc2 hbb hsz db
    go_enter Try.func7, Try.ntmps7
    have C1 := Lib.hid (rlong_any l0 _ ((l2.length : Nat) : Int) HI2 _ W Fv_0.out)
    rw [HM.out] at C1
    go_wp2_with (first
      | (refine wpList_build_at rfl 27 _ rfl N hb0 ?_))
    refine (C1.out).mono ?_
    rintro e w1 ⟨rfl, b1⟩
    have HB1 := Lib.hid (HB0.out.trans (b1.mono HB0.out.size))
    have Fv_1 := Lib.hid ((Fv_0.out.below_ b1 (Nat.le_refl _)).mono_ b1.size)
    have Fbox_1 := Lib.hid ((Fbox_0.out.below_ b1 (Nat.le_refl _)).mono_ b1.size)
    have dbox_1 := Fbox_1.out.2
    clear C1 b1 HB0 Fv_0 Fbox_0 dbox_0
    clear Fv_1
    have C2 := Lib.hid (works_rc w1)
    go_wp2_with (first
      | (refine wpList_build_at rfl 27 _ rfl N hb0 ?_))
    refine (C2.out).mono ?_
    rintro e w2 ⟨rfl, b2⟩
    have HB2 := Lib.hid (HB1.out.trans (b2.mono HB1.out.size))
    have Fbox_2 := Lib.hid ((Fbox_1.out.below_ b2 (Nat.le_refl _)).mono_ b2.size)
    have dbox_2 := Fbox_2.out.2
    clear C2 b2 HB1 Fbox_1 dbox_1
    go_wp2_with (first
      | (refine wpList_build_at rfl 27 _ rfl N hb0 ?_))
    go_ret
    exact ⟨rfl, HB2.out⟩
  · skip
    have HM : Hid (decide (500 < l0.length ∨ (300 < ((l2.length : Nat) : Int) ∧ ((l2.length : Nat) : Int) ≤ 4096)) = false) := decide_eq_false hm
    clear hm
    by_cases hgood : Vo.May l0 ∧ l2.length ≤ 4096
    · skip
      obtain ⟨hmay, hln2⟩ := hgood
      have hok : ∀ q ∈ l0, q.byte < 256 := fun q hq => (h0.ok_ q hq).1
      have hb82 : ∀ q ∈ l2, q < 256 := fun q hq => H2.out.ok_ q hq
      have hdoc := Rc.doc_of (id := n1) hmay hok hb82 hln2
      have hrt := Rc.right_of (id := n1) hmay hok hb82 hln2
      obtain ⟨p, hput⟩ := Rc.of_put hmay hok hb82 hln2
      have hof := Rc.ofE_ok (id := n1) hmay (b := l2) (by omega)
      obtain ⟨R, hR⟩ : ∃ R, (⟨Sh.sum l2, n1, (l2.length : Nat), Bp.enc l0 l2⟩ : Rc.Rec) = R := ⟨_, rfl⟩
      have ht : Bp.enc l0 l2 = R.toks := by rw [← hR]
      have hid : R.id = n1 := by rw [← hR]
      have hlr : R.len = (l2.length : Nat) := by rw [← hR]
      have hd32 : R.dig.length = 32 := by rw [← hR]; exact Rc.sum_len _
      rw [hR] at hdoc hrt hof
      rw [ht] at hput
      have hp := Rc.putE_ok (r := R) (by rw [hlr]; omega) hput
      have hg := Rc.getE_put hd32 (by rw [hid]; exact HN1.out) hp
      obtain ⟨q2, hq⟩ : ∃ q, Rc.put R p = q := ⟨_, rfl⟩
      rw [hq] at hp hg
      have HOF2 := Lib.hid hof
      have HPE2 := Lib.hid hp
      have HGE2 := Lib.hid hg
      have HDC2 := Lib.hid hdoc
      have HRT2 := Lib.hid hrt
      have HID2 := Lib.hid hid
      clear hb82 hdoc hrt hput hof hR ht hid hlr hd32 hp hg hq
      clear hmay hln2 hok
      obtain ⟨W, hW⟩ : ∃ X, w.alloc (.cells #[v0] 41) = X := ⟨_, rfl⟩
      obtain ⟨db, hsz, hbb⟩ := boxed hW
      have HB0 := Lib.hid hbb
      have Fv_0 := Lib.hid ((h0.below_ hbb (Nat.le_refl _)).mono_ hbb.size)
      have Fbox_0 : Hid (BoxAt W W.heap.size w.heap.size v0) := ⟨by omega, db⟩
      obtain ⟨A, c, rfl, hc1, hc2, _, _⟩ := h0
      have hl0 : l0.length ≤ 9223372036854775807 := by simp only [maxLen] at hc2; omega
      have dbox_0 := Fbox_0.out.2
      clear hc1 hc2 hbb hsz db
      have Fb_0 := Lib.hid ((H2.out.below_ HB0.out (Nat.le_refl _)).mono_ HB0.out.size)
      go_enter Try.func7, Try.ntmps7
      have C1 := Lib.hid (rlong_any l0 _ ((l2.length : Nat) : Int) HI2 _ W Fv_0.out)
      rw [HM.out] at C1
      go_wp2_with (first
        | (refine wpList_build_at rfl 27 _ rfl N hb0 ?_))
      refine (C1.out).mono ?_
      rintro e w1 ⟨rfl, b1⟩
      have HB1 := Lib.hid (HB0.out.trans (b1.mono HB0.out.size))
      have Fv_1 := Lib.hid ((Fv_0.out.below_ b1 (Nat.le_refl _)).mono_ b1.size)
      have Fbox_1 := Lib.hid ((Fbox_0.out.below_ b1 (Nat.le_refl _)).mono_ b1.size)
      have Fb_1 := Lib.hid ((Fb_0.out.below_ b1 (Nat.le_refl _)).mono_ b1.size)
      have dbox_1 := Fbox_1.out.2
      clear C1 b1 HB0 Fv_0 Fbox_0 Fb_0 dbox_0
      have C2 := Lib.hid (prcof_any l0 _ n1 l2 _ _ w1 Fv_1.out Fb_1.out HN1.out (Nat.le_refl _))
      rw [HOF2.out] at C2
      go_wp2_with (first
        | (refine wpList_build_at rfl 27 _ rfl N hb0 ?_))
      refine (C2.out).mono ?_
      rintro e w2 ⟨A2, c2, rfl, f2, o2, b2⟩
      have HB2 := Lib.hid (HB1.out.trans (b2.mono HB1.out.size))
      have Fv_2 := Lib.hid ((Fv_1.out.below_ b2 (Nat.le_refl _)).mono_ b2.size)
      have Fbox_2 := Lib.hid ((Fbox_1.out.below_ b2 (Nat.le_refl _)).mono_ b2.size)
      have Fb_2 := Lib.hid ((Fb_1.out.below_ b2 (Nat.le_refl _)).mono_ b2.size)
      have dbox_2 := Fbox_2.out.2
      have Fx_2 := Lib.hid (o2.form_)
      clear C2 b2 HB1 Fv_1 Fbox_1 Fb_1 dbox_1 o2
      have fit2 := Lib.hid f2
      obtain ⟨D2, hD2⟩ : ∃ C, rcC R (.slice A2 R.toks.length c2) = C := ⟨_, rfl⟩
      obtain ⟨vs2, vo2, vz2⟩ := rc_val f2 hD2
      replace vz2 := Lib.hid vz2
      rw [hD2]
      replace hD2 := Lib.hid hD2
      clear f2
      obtain ⟨X2, hX2⟩ : ∃ X, (w2.alloc (.cells N 27)).setRow w2.heap.size D2 = X := ⟨_, rfl⟩
      obtain ⟨hxa2, hxb2⟩ := rc_stored hX2
      have b3 := hxb2
      have HB3 := Lib.hid (HB2.out.trans (b3.mono HB2.out.size))
      have Fv_3 := Lib.hid ((Fv_2.out.below_ b3 (Nat.le_refl _)).mono_ b3.size)
      have Fbox_3 := Lib.hid ((Fbox_2.out.below_ b3 (Nat.le_refl _)).mono_ b3.size)
      have Fb_3 := Lib.hid ((Fb_2.out.below_ b3 (Nat.le_refl _)).mono_ b3.size)
      have Fx_3 := Lib.hid ((Fx_2.out.below_ b3 (Nat.le_refl _)).mono_ b3.size)
      have dbox_3 := Fbox_3.out.2
      clear b3 HB2 Fv_2 Fbox_2 Fb_2 Fx_2 dbox_2
      have Fbx_3 := Lib.hid hxa2
      clear hxa2 hxb2
      have C4 := Lib.hid (prcput_any R _ _ X2 fit2.out Fx_3.out (Nat.le_refl _))
      rw [HPE2.out, hD2.out] at C4
      go_wp2_with (first
        | (refine wpList_build_at rfl 27 _ rfl N hb0 ?_)
        | (refine wpList_store_row rfl _ _ _ rfl w2.heap.size D2 rfl rfl 27 N (Rw.new w2 _ _) vs2 (by rw [vz2.out, hn35]) vo2 ?_; rw [hX2])
        | (refine wpList_load_row rfl _ _ rfl w2.heap.size rfl 27 D2 (0, 0) _ Fbx_3.out.2 Try.underlying27 rfl (by rw [vs2]) ?_))
      refine (C4.out).mono ?_
      rintro e w4 ⟨A4, c4, rfl, o4, b4⟩
      have HB4 := Lib.hid (HB3.out.trans (b4.mono HB3.out.size))
      have Fv_4 := Lib.hid ((Fv_3.out.below_ b4 (Nat.le_refl _)).mono_ b4.size)
      have Fbox_4 := Lib.hid ((Fbox_3.out.below_ b4 (Nat.le_refl _)).mono_ b4.size)
      have Fb_4 := Lib.hid ((Fb_3.out.below_ b4 (Nat.le_refl _)).mono_ b4.size)
      have Fx_4 := Lib.hid ((Fx_3.out.below_ b4 (Nat.le_refl _)).mono_ b4.size)
      have Fbx_4 := Lib.hid ((Fbx_3.out.below_ b4 (Nat.le_refl _)).mono_ b4.size)
      have dbox_4 := Fbox_4.out.2
      have Fq_4 := Lib.hid (o4.form_)
      clear C4 b4 HB3 Fv_3 Fbox_3 Fb_3 Fx_3 Fbx_3 dbox_3 o4
      clear hX2
      have C5 := Lib.hid (prcget_any _ q2 _ w4 Fq_4.out (Nat.le_refl _))
      rw [HGE2.out] at C5
      go_wp2_with (first
        | (refine wpList_build_at rfl 27 _ rfl N hb0 ?_)
        | (refine wpList_load_row rfl _ _ rfl w2.heap.size rfl 27 D2 (0, 0) _ Fbx_4.out.2 Try.underlying27 rfl (by rw [vs2]) ?_))
      refine (C5.out).mono ?_
      rintro e w5 ⟨A5, c5, rfl, f5, o5, b5⟩
      have HB5 := Lib.hid (HB4.out.trans (b5.mono HB4.out.size))
      have Fv_5 := Lib.hid ((Fv_4.out.below_ b5 (Nat.le_refl _)).mono_ b5.size)
      have Fbox_5 := Lib.hid ((Fbox_4.out.below_ b5 (Nat.le_refl _)).mono_ b5.size)
      have Fb_5 := Lib.hid ((Fb_4.out.below_ b5 (Nat.le_refl _)).mono_ b5.size)
      have Fx_5 := Lib.hid ((Fx_4.out.below_ b5 (Nat.le_refl _)).mono_ b5.size)
      have Fbx_5 := Lib.hid ((Fbx_4.out.below_ b5 (Nat.le_refl _)).mono_ b5.size)
      have Fq_5 := Lib.hid ((Fq_4.out.below_ b5 (Nat.le_refl _)).mono_ b5.size)
      have dbox_5 := Fbox_5.out.2
      have Fy_5 := Lib.hid (o5.form_)
      clear C5 b5 HB4 Fv_4 Fbox_4 Fb_4 Fx_4 Fbx_4 Fq_4 dbox_4 o5
      have fit5 := Lib.hid f5
      obtain ⟨D5, hD5⟩ : ∃ C, rcC R (.slice A5 R.toks.length c5) = C := ⟨_, rfl⟩
      obtain ⟨vs5, vo5, vz5⟩ := rc_val f5 hD5
      replace vz5 := Lib.hid vz5
      rw [hD5]
      replace hD5 := Lib.hid hD5
      clear f5
      obtain ⟨X5, hX5⟩ : ∃ X, (w5.alloc (.cells N 27)).setRow w5.heap.size D5 = X := ⟨_, rfl⟩
      obtain ⟨hxa5, hxb5⟩ := rc_stored hX5
      have b6 := hxb5
      have HB6 := Lib.hid (HB5.out.trans (b6.mono HB5.out.size))
      have Fv_6 := Lib.hid ((Fv_5.out.below_ b6 (Nat.le_refl _)).mono_ b6.size)
      have Fbox_6 := Lib.hid ((Fbox_5.out.below_ b6 (Nat.le_refl _)).mono_ b6.size)
      have Fb_6 := Lib.hid ((Fb_5.out.below_ b6 (Nat.le_refl _)).mono_ b6.size)
      have Fx_6 := Lib.hid ((Fx_5.out.below_ b6 (Nat.le_refl _)).mono_ b6.size)
      have Fbx_6 := Lib.hid ((Fbx_5.out.below_ b6 (Nat.le_refl _)).mono_ b6.size)
      have Fq_6 := Lib.hid ((Fq_5.out.below_ b6 (Nat.le_refl _)).mono_ b6.size)
      have Fy_6 := Lib.hid ((Fy_5.out.below_ b6 (Nat.le_refl _)).mono_ b6.size)
      have dbox_6 := Fbox_6.out.2
      clear b6 HB5 Fv_5 Fbox_5 Fb_5 Fx_5 Fbx_5 Fq_5 Fy_5 dbox_5
      have Fby_6 := Lib.hid hxa5
      clear hxa5 hxb5
      have C7 := Lib.hid (prcdoc_any l0 _ R _ _ X5 Fv_6.out fit5.out Fy_6.out (Nat.le_refl _))
      rw [HDC2.out, hD5.out] at C7
      go_wp2_with (first
        | (refine wpList_build_at rfl 27 _ rfl N hb0 ?_)
        | (refine wpList_store_row rfl _ _ _ rfl w5.heap.size D5 rfl rfl 27 N (Rw.new w5 _ _) vs5 (by rw [vz5.out, hn35]) vo5 ?_; rw [hX5])
        | (refine wpList_load_row rfl _ _ rfl w2.heap.size rfl 27 D2 (0, 0) _ Fbx_6.out.2 Try.underlying27 rfl (by rw [vs2]) ?_)
        | (refine wpList_load_row rfl _ _ rfl w5.heap.size rfl 27 D5 (0, 0) _ Fby_6.out.2 Try.underlying27 rfl (by rw [vs5]) ?_))
      refine (C7.out).mono ?_
      rintro e w7 ⟨A7, c7, rfl, o7, b7⟩
      have HB7 := Lib.hid (HB6.out.trans (b7.mono HB6.out.size))
      have Fv_7 := Lib.hid ((Fv_6.out.below_ b7 (Nat.le_refl _)).mono_ b7.size)
      have Fbox_7 := Lib.hid ((Fbox_6.out.below_ b7 (Nat.le_refl _)).mono_ b7.size)
      have Fb_7 := Lib.hid ((Fb_6.out.below_ b7 (Nat.le_refl _)).mono_ b7.size)
      have Fx_7 := Lib.hid ((Fx_6.out.below_ b7 (Nat.le_refl _)).mono_ b7.size)
      have Fbx_7 := Lib.hid ((Fbx_6.out.below_ b7 (Nat.le_refl _)).mono_ b7.size)
      have Fq_7 := Lib.hid ((Fq_6.out.below_ b7 (Nat.le_refl _)).mono_ b7.size)
      have Fy_7 := Lib.hid ((Fy_6.out.below_ b7 (Nat.le_refl _)).mono_ b7.size)
      have Fby_7 := Lib.hid ((Fby_6.out.below_ b7 (Nat.le_refl _)).mono_ b7.size)
      have dbox_7 := Fbox_7.out.2
      have Fc_7 := Lib.hid (o7.form_)
      clear C7 b7 HB6 Fv_6 Fbox_6 Fb_6 Fx_6 Fbx_6 Fq_6 Fy_6 Fby_6 dbox_6 o7
      clear hX5
      have C8 := Lib.hid (rec_lv R R _ _ _ _ w7 fit2.out fit5.out Fx_7.out Fy_7.out (Nat.le_refl _) (Nat.le_refl _))
      rw [hD2.out, hD5.out] at C8
      simp only [decide_true] at C8
      go_wp2_with (first
        | (refine wpList_build_at rfl 27 _ rfl N hb0 ?_)
        | (refine wpList_load_row_on (by rfl) _ _ rfl w2.heap.size rfl 27 D2 (0, 0) _ Fbx_7.out.2 Try.underlying27 rfl (by rw [vs2]) ?_)
        | (refine wpList_load_row rfl _ _ rfl w2.heap.size rfl 27 D2 (0, 0) _ Fbx_7.out.2 Try.underlying27 rfl (by rw [vs2]) ?_)
        | (refine wpList_load_row_on (by rfl) _ _ rfl w5.heap.size rfl 27 D5 (0, 0) _ Fby_7.out.2 Try.underlying27 rfl (by rw [vs5]) ?_)
        | (refine wpList_load_row rfl _ _ rfl w5.heap.size rfl 27 D5 (0, 0) _ Fby_7.out.2 Try.underlying27 rfl (by rw [vs5]) ?_))
      refine (C8.out).mono ?_
      rintro e w8 ⟨rfl, b8⟩
      have HB8 := Lib.hid (HB7.out.trans (b8.mono HB7.out.size))
      have Fv_8 := Lib.hid ((Fv_7.out.below_ b8 (Nat.le_refl _)).mono_ b8.size)
      have Fbox_8 := Lib.hid ((Fbox_7.out.below_ b8 (Nat.le_refl _)).mono_ b8.size)
      have Fb_8 := Lib.hid ((Fb_7.out.below_ b8 (Nat.le_refl _)).mono_ b8.size)
      have Fx_8 := Lib.hid ((Fx_7.out.below_ b8 (Nat.le_refl _)).mono_ b8.size)
      have Fbx_8 := Lib.hid ((Fbx_7.out.below_ b8 (Nat.le_refl _)).mono_ b8.size)
      have Fq_8 := Lib.hid ((Fq_7.out.below_ b8 (Nat.le_refl _)).mono_ b8.size)
      have Fy_8 := Lib.hid ((Fy_7.out.below_ b8 (Nat.le_refl _)).mono_ b8.size)
      have Fby_8 := Lib.hid ((Fby_7.out.below_ b8 (Nat.le_refl _)).mono_ b8.size)
      have Fc_8 := Lib.hid ((Fc_7.out.below_ b8 (Nat.le_refl _)).mono_ b8.size)
      have dbox_8 := Fbox_8.out.2
      clear C8 b8 HB7 Fv_7 Fbox_7 Fb_7 Fx_7 Fbx_7 Fq_7 Fy_7 Fby_7 Fc_7 dbox_7
      have C9 := Lib.hid (octs_lv _ _ _ _ _ _ w8 Fc_8.out Fb_8.out)
      simp only [decide_true] at C9
      go_wp2_with (first
        | (refine wpList_build_at rfl 27 _ rfl N hb0 ?_)
        | (refine wpList_load_row_on (by rfl) _ _ rfl w2.heap.size rfl 27 D2 (0, 0) _ Fbx_8.out.2 Try.underlying27 rfl (by rw [vs2]) ?_)
        | (refine wpList_load_row rfl _ _ rfl w2.heap.size rfl 27 D2 (0, 0) _ Fbx_8.out.2 Try.underlying27 rfl (by rw [vs2]) ?_)
        | (refine wpList_load_row_on (by rfl) _ _ rfl w5.heap.size rfl 27 D5 (0, 0) _ Fby_8.out.2 Try.underlying27 rfl (by rw [vs5]) ?_)
        | (refine wpList_load_row rfl _ _ rfl w5.heap.size rfl 27 D5 (0, 0) _ Fby_8.out.2 Try.underlying27 rfl (by rw [vs5]) ?_))
      refine (C9.out).mono ?_
      rintro e w9 ⟨rfl, b9⟩
      have HB9 := Lib.hid (HB8.out.trans (b9.mono HB8.out.size))
      have Fv_9 := Lib.hid ((Fv_8.out.below_ b9 (Nat.le_refl _)).mono_ b9.size)
      have Fbox_9 := Lib.hid ((Fbox_8.out.below_ b9 (Nat.le_refl _)).mono_ b9.size)
      have Fb_9 := Lib.hid ((Fb_8.out.below_ b9 (Nat.le_refl _)).mono_ b9.size)
      have Fx_9 := Lib.hid ((Fx_8.out.below_ b9 (Nat.le_refl _)).mono_ b9.size)
      have Fbx_9 := Lib.hid ((Fbx_8.out.below_ b9 (Nat.le_refl _)).mono_ b9.size)
      have Fq_9 := Lib.hid ((Fq_8.out.below_ b9 (Nat.le_refl _)).mono_ b9.size)
      have Fy_9 := Lib.hid ((Fy_8.out.below_ b9 (Nat.le_refl _)).mono_ b9.size)
      have Fby_9 := Lib.hid ((Fby_8.out.below_ b9 (Nat.le_refl _)).mono_ b9.size)
      have Fc_9 := Lib.hid ((Fc_8.out.below_ b9 (Nat.le_refl _)).mono_ b9.size)
      have dbox_9 := Fbox_9.out.2
      clear C9 b9 HB8 Fv_8 Fbox_8 Fb_8 Fx_8 Fbx_8 Fq_8 Fy_8 Fby_8 Fc_8 dbox_8
      have C10 := Lib.hid (prcright_any l0 _ R _ _ w9 Fv_9.out fit5.out Fy_9.out (Nat.le_refl _))
      rw [HRT2.out, hD5.out] at C10
      go_wp2_with (first
        | (refine wpList_build_at rfl 27 _ rfl N hb0 ?_)
        | (refine wpList_load_row_on (by rfl) _ _ rfl w2.heap.size rfl 27 D2 (0, 0) _ Fbx_9.out.2 Try.underlying27 rfl (by rw [vs2]) ?_)
        | (refine wpList_load_row rfl _ _ rfl w2.heap.size rfl 27 D2 (0, 0) _ Fbx_9.out.2 Try.underlying27 rfl (by rw [vs2]) ?_)
        | (refine wpList_load_row_on (by rfl) _ _ rfl w5.heap.size rfl 27 D5 (0, 0) _ Fby_9.out.2 Try.underlying27 rfl (by rw [vs5]) ?_)
        | (refine wpList_load_row rfl _ _ rfl w5.heap.size rfl 27 D5 (0, 0) _ Fby_9.out.2 Try.underlying27 rfl (by rw [vs5]) ?_))
      refine (C10.out).mono ?_
      rintro e w10 ⟨rfl, b10⟩
      have HB10 := Lib.hid (HB9.out.trans (b10.mono HB9.out.size))
      have Fv_10 := Lib.hid ((Fv_9.out.below_ b10 (Nat.le_refl _)).mono_ b10.size)
      have Fbox_10 := Lib.hid ((Fbox_9.out.below_ b10 (Nat.le_refl _)).mono_ b10.size)
      have Fb_10 := Lib.hid ((Fb_9.out.below_ b10 (Nat.le_refl _)).mono_ b10.size)
      have Fx_10 := Lib.hid ((Fx_9.out.below_ b10 (Nat.le_refl _)).mono_ b10.size)
      have Fbx_10 := Lib.hid ((Fbx_9.out.below_ b10 (Nat.le_refl _)).mono_ b10.size)
      have Fq_10 := Lib.hid ((Fq_9.out.below_ b10 (Nat.le_refl _)).mono_ b10.size)
      have Fy_10 := Lib.hid ((Fy_9.out.below_ b10 (Nat.le_refl _)).mono_ b10.size)
      have Fby_10 := Lib.hid ((Fby_9.out.below_ b10 (Nat.le_refl _)).mono_ b10.size)
      have Fc_10 := Lib.hid ((Fc_9.out.below_ b10 (Nat.le_refl _)).mono_ b10.size)
      have dbox_10 := Fbox_10.out.2
      clear C10 b10 HB9 Fv_9 Fbox_9 Fb_9 Fx_9 Fbx_9 Fq_9 Fy_9 Fby_9 Fc_9 dbox_9
      have c32 : w10.cell? ⟨w5.heap.size, 32, none⟩ = some (.int .u64 (n1 : Nat)) := (Fby_10.out.2.cell _).trans (by rw [← hD5.out, rcC_id fit5.out, HID2.out])
      clear Fv_10
      clear Fb_10
      clear Fx_10
      clear Fy_10
      clear Fq_10
      clear Fc_10
      have C11 := Lib.hid (works_rc w10)
      go_wp2_with (first
        | (refine wpList_build_at rfl 27 _ rfl N hb0 ?_)
        | (refine wpList_load_row_on (by rfl) _ _ rfl w2.heap.size rfl 27 D2 (0, 0) _ Fbx_10.out.2 Try.underlying27 rfl (by rw [vs2]) ?_)
        | (refine wpList_load_row rfl _ _ rfl w2.heap.size rfl 27 D2 (0, 0) _ Fbx_10.out.2 Try.underlying27 rfl (by rw [vs2]) ?_)
        | (refine wpList_load_row_on (by rfl) _ _ rfl w5.heap.size rfl 27 D5 (0, 0) _ Fby_10.out.2 Try.underlying27 rfl (by rw [vs5]) ?_)
        | (refine wpList_load_row rfl _ _ rfl w5.heap.size rfl 27 D5 (0, 0) _ Fby_10.out.2 Try.underlying27 rfl (by rw [vs5]) ?_))
      refine (C11.out).mono ?_
      rintro e w11 ⟨rfl, b11⟩
      have HB11 := Lib.hid (HB10.out.trans (b11.mono HB10.out.size))
      have Fbox_11 := Lib.hid ((Fbox_10.out.below_ b11 (Nat.le_refl _)).mono_ b11.size)
      have Fbx_11 := Lib.hid ((Fbx_10.out.below_ b11 (Nat.le_refl _)).mono_ b11.size)
      have Fby_11 := Lib.hid ((Fby_10.out.below_ b11 (Nat.le_refl _)).mono_ b11.size)
      have dbox_11 := Fbox_11.out.2
      clear C11 b11 HB10 Fbox_10 Fbx_10 Fby_10 dbox_10
      go_wp2_with (first
        | (refine wpList_build_at rfl 27 _ rfl N hb0 ?_)
        | (refine wpList_load_row_on (by rfl) _ _ rfl w2.heap.size rfl 27 D2 (0, 0) _ Fbx_11.out.2 Try.underlying27 rfl (by rw [vs2]) ?_)
        | (refine wpList_load_row rfl _ _ rfl w2.heap.size rfl 27 D2 (0, 0) _ Fbx_11.out.2 Try.underlying27 rfl (by rw [vs2]) ?_)
        | (refine wpList_load_row_on (by rfl) _ _ rfl w5.heap.size rfl 27 D5 (0, 0) _ Fby_11.out.2 Try.underlying27 rfl (by rw [vs5]) ?_)
        | (refine wpList_load_row rfl _ _ rfl w5.heap.size rfl 27 D5 (0, 0) _ Fby_11.out.2 Try.underlying27 rfl (by rw [vs5]) ?_))
      go_ret
      exact ⟨rfl, HB11.out⟩
    · skip
      obtain ⟨E, hE, hx⟩ : ∃ E : Nat, E ≠ 0 ∧ Rc.ofE l0 n1 l2 = (Rc.zero, E) := by
        by_cases h1 : Vo.May l0
        · exact ⟨12, by omega, Rc.ofE_long h1 (by have : ¬ l2.length ≤ 4096 := fun h => hgood ⟨h1, h⟩; omega)⟩
        · exact ⟨11, by omega, Rc.ofE_no h1⟩
      have hq : ((E : Int) != 0) = true := by rw [bne_iff_ne]; omega
      have HX := Lib.hid hx
      clear hgood hE hx
      obtain ⟨W, hW⟩ : ∃ X, w.alloc (.cells #[v0] 41) = X := ⟨_, rfl⟩
      obtain ⟨db, hsz, hbb⟩ := boxed hW
      have HB0 := Lib.hid hbb
      have Fv_0 := Lib.hid ((h0.below_ hbb (Nat.le_refl _)).mono_ hbb.size)
      have Fbox_0 : Hid (BoxAt W W.heap.size w.heap.size v0) := ⟨by omega, db⟩
      obtain ⟨A, c, rfl, hc1, hc2, _, _⟩ := h0
      have hl0 : l0.length ≤ 9223372036854775807 := by simp only [maxLen] at hc2; omega
      have dbox_0 := Fbox_0.out.2
      clear hc1 hc2 hbb hsz db
      have Fb_0 := Lib.hid ((H2.out.below_ HB0.out (Nat.le_refl _)).mono_ HB0.out.size)
      go_enter Try.func7, Try.ntmps7
      have C1 := Lib.hid (rlong_any l0 _ ((l2.length : Nat) : Int) HI2 _ W Fv_0.out)
      rw [HM.out] at C1
      go_wp2_with (first
        | (refine wpList_build_at rfl 27 _ rfl N hb0 ?_))
      refine (C1.out).mono ?_
      rintro e w1 ⟨rfl, b1⟩
      have HB1 := Lib.hid (HB0.out.trans (b1.mono HB0.out.size))
      have Fv_1 := Lib.hid ((Fv_0.out.below_ b1 (Nat.le_refl _)).mono_ b1.size)
      have Fbox_1 := Lib.hid ((Fbox_0.out.below_ b1 (Nat.le_refl _)).mono_ b1.size)
      have Fb_1 := Lib.hid ((Fb_0.out.below_ b1 (Nat.le_refl _)).mono_ b1.size)
      have dbox_1 := Fbox_1.out.2
      clear C1 b1 HB0 Fv_0 Fbox_0 Fb_0 dbox_0
      have C2 := Lib.hid (prcof_any l0 _ n1 l2 _ _ w1 Fv_1.out Fb_1.out HN1.out (Nat.le_refl _))
      rw [HX.out] at C2
      go_wp2_with (first
        | (refine wpList_build_at rfl 27 _ rfl N hb0 ?_))
      refine (C2.out).mono ?_
      rintro e w2 ⟨A2, c2, rfl, f2, o2, b2⟩
      have HB2 := Lib.hid (HB1.out.trans (b2.mono HB1.out.size))
      have Fv_2 := Lib.hid ((Fv_1.out.below_ b2 (Nat.le_refl _)).mono_ b2.size)
      have Fbox_2 := Lib.hid ((Fbox_1.out.below_ b2 (Nat.le_refl _)).mono_ b2.size)
      have Fb_2 := Lib.hid ((Fb_1.out.below_ b2 (Nat.le_refl _)).mono_ b2.size)
      have dbox_2 := Fbox_2.out.2
      have Fx_2 := Lib.hid (o2.form_)
      clear C2 b2 HB1 Fv_1 Fbox_1 Fb_1 dbox_1 o2
      have fit2 := Lib.hid f2
      obtain ⟨D2, hD2⟩ : ∃ C, rcC Rc.zero (.slice A2 Rc.zero.toks.length c2) = C := ⟨_, rfl⟩
      obtain ⟨vs2, vo2, vz2⟩ := rc_val f2 hD2
      replace vz2 := Lib.hid vz2
      rw [hD2]
      replace hD2 := Lib.hid hD2
      clear f2
      obtain ⟨X2, hX2⟩ : ∃ X, (w2.alloc (.cells N 27)).setRow w2.heap.size D2 = X := ⟨_, rfl⟩
      obtain ⟨hxa2, hxb2⟩ := rc_stored hX2
      have b3 := hxb2
      have HB3 := Lib.hid (HB2.out.trans (b3.mono HB2.out.size))
      have Fv_3 := Lib.hid ((Fv_2.out.below_ b3 (Nat.le_refl _)).mono_ b3.size)
      have Fbox_3 := Lib.hid ((Fbox_2.out.below_ b3 (Nat.le_refl _)).mono_ b3.size)
      have Fb_3 := Lib.hid ((Fb_2.out.below_ b3 (Nat.le_refl _)).mono_ b3.size)
      have Fx_3 := Lib.hid ((Fx_2.out.below_ b3 (Nat.le_refl _)).mono_ b3.size)
      have dbox_3 := Fbox_3.out.2
      clear b3 HB2 Fv_2 Fbox_2 Fb_2 Fx_2 dbox_2
      have Fbx_3 := Lib.hid hxa2
      clear hxa2 hxb2
      have C4 := Lib.hid (rec_lv Rc.zero Rc.zero _ (.slice none 0 0) _ X2.heap.size X2 fit2.out Rc.fit_zero Fx_3.out (Lv.nil_ _ _ _) (Nat.le_refl _) (Nat.le_refl _))
      rw [hD2.out, HN0.out] at C4
      simp only [decide_true] at C4
      go_wp2_with (first
        | (refine wpList_build_at rfl 27 _ rfl N hb0 ?_)
        | (refine wpList_store_row rfl _ _ _ rfl w2.heap.size D2 rfl rfl 27 N (Rw.new w2 _ _) vs2 (by rw [vz2.out, hn35]) vo2 ?_; rw [hX2])
        | (refine wpList_load_row_on (by rfl) _ _ rfl w2.heap.size rfl 27 D2 (0, 0) _ Fbx_3.out.2 Try.underlying27 rfl (by rw [vs2]) ?_)
        | (refine wpList_load_row rfl _ _ rfl w2.heap.size rfl 27 D2 (0, 0) _ Fbx_3.out.2 Try.underlying27 rfl (by rw [vs2]) ?_))
      refine (C4.out).mono ?_
      rintro e w4 ⟨rfl, b4⟩
      have HB4 := Lib.hid (HB3.out.trans (b4.mono HB3.out.size))
      have Fv_4 := Lib.hid ((Fv_3.out.below_ b4 (Nat.le_refl _)).mono_ b4.size)
      have Fbox_4 := Lib.hid ((Fbox_3.out.below_ b4 (Nat.le_refl _)).mono_ b4.size)
      have Fb_4 := Lib.hid ((Fb_3.out.below_ b4 (Nat.le_refl _)).mono_ b4.size)
      have Fx_4 := Lib.hid ((Fx_3.out.below_ b4 (Nat.le_refl _)).mono_ b4.size)
      have Fbx_4 := Lib.hid ((Fbx_3.out.below_ b4 (Nat.le_refl _)).mono_ b4.size)
      have dbox_4 := Fbox_4.out.2
      clear C4 b4 HB3 Fv_3 Fbox_3 Fb_3 Fx_3 Fbx_3 dbox_3
      clear hX2
      clear Fv_4
      clear Fb_4
      clear Fx_4
      clear Fbx_4
      have C5 := Lib.hid (works_rc w4)
      go_wp2_with (first
        | (refine wpList_build_at rfl 27 _ rfl N hb0 ?_))
      refine (C5.out).mono ?_
      rintro e w5 ⟨rfl, b5⟩
      have HB5 := Lib.hid (HB4.out.trans (b5.mono HB4.out.size))
      have Fbox_5 := Lib.hid ((Fbox_4.out.below_ b5 (Nat.le_refl _)).mono_ b5.size)
      have dbox_5 := Fbox_5.out.2
      clear C5 b5 HB4 Fbox_4 dbox_4
      go_wp2_with (first
        | (refine wpList_build_at rfl 27 _ rfl N hb0 ?_))
      go_ret
      exact ⟨rfl, HB5.out⟩

/-! ### From the walk to the row -/
set_option maxRecDepth 100000 in
theorem lifted (os : Os) (started : os.Started) (H : Type) (enc : TypeId × Value → H) :
    ReturnsInHanded {} Try.checked os 7 .any (Rows.recordBackSpec.pre6 enc Try.prog Try.f7 Rows.recordBackRow.domain false) (Rows.recordBackSpec.post enc Try.prog Try.f7 false true false false) := by
  refine returnsInHanded_of_change (C := Try.checked) own started (by kernel_rfl) Try.func7
    (ChangeSpec.witness6 (enc := enc) (C := Try.checked) false ⟨#[], #[.agg #[.slice none 0 0], .int .u64 0, .slice none 0 0], []⟩ 8 (by kernel_rfl) (by kernel_rfl) (by kernel_rfl) (by kernel_rfl)) ?_
  intro W base args ds gs before hval0 hW hcnd _
  have hval : ∀ (j : Nat) t v, Try.f7.params[j]? = some t → args[j]? = some v → Value.okWide Try.prog W .any base t v := hval0
  have hW' := hW
  obtain ⟨p, q, hA0, hV, rfl, hfz, hnd⟩ := hW
  have hA : DataW.TrodAll enc Try.prog W 0 (fun _ => true) true Try.f7.params.toList args.toList ds p := hA0
  rw [Try.params7] at hA hval
  obtain ⟨v0, vs0, d0, ds0, p0, q0, hargs, rfl, rfl, h0, r0⟩ := trodAll_cons hA
  obtain ⟨v1, vs1, d1, ds1, p1, q1, rfl, rfl, rfl, h1, r1⟩ := trodAll_cons r0
  obtain ⟨v2, vs2, d2, ds2, p2, q2, rfl, rfl, rfl, h2, r2⟩ := trodAll_cons r1
  obtain ⟨rfl, rfl, rfl⟩ := trodAll_nil r2
  obtain rfl : args = #[v0, v1, v2] := by cases args; simp_all
  obtain ⟨rfl, rfl⟩ := trodVars_none hV
  have k0 := h0
  have lt0 : ∀ x ∈ p0, x.block < W.heap.size := by obtain ⟨m, hm⟩ := k0; exact DataW.trod_lt m _ _ _ hm
  obtain ⟨u0, l0, rfl, hb0⟩ := voc_in (hval 0 41 v0 rfl rfl) h0
  obtain ⟨a1, rfl, rfl, rfl, w1⟩ := open_int Try.underlying24 (hval 1 24 v1 rfl rfl) h1
  obtain ⟨n1, e1, b1⟩ := u64_nat w1
  subst e1
  obtain ⟨a2, len2, cap2, rfl⟩ := okWide_slice Try.underlying28 (hval 2 28 v2 rfl rfl)
  have k2 := h2
  have lt2 : ∀ x ∈ p2, x.block < W.heap.size := by obtain ⟨m, hm⟩ := k2; exact DataW.trod_lt m _ _ _ hm
  obtain ⟨l2, len_2, hb2⟩ : ∃ l : List Nat, l.length = len2 ∧ Lv yK W W.heap.size (.slice a2 len2 cap2) l := by
    obtain ⟨fuel, hf⟩ := h2
    exact octs_in hf
  clear hA0 hval0
  refine (walk W u0 l0 hb0 n1 b1 (.slice a2 len2 cap2) l2 hb2).mono fun e W' ⟨he, bel⟩ => ?_
  subst he
  exact ⟨_, rfl, _, _, _, [], _, [], hW', trodAll_mk1 (shut_bool Try.underlying4 _), (trodAll_cons_mk (Below.trod laidOut (by kernel_rfl) (of_decide_eq_true (by kernel_rfl)) k0 bel lt0) (trodAll_cons_mk (shut_int Try.underlying24 w1) (trodAll_cons_mk (Below.trod laidOut (by kernel_rfl) (of_decide_eq_true (by kernel_rfl)) k2 bel lt2) trodAll_mk0))), rfl, bel.frame _, fun h => by cases h⟩

theorem proved : Rows.RecordBackSaid :=
  OpenClaim.holds_of_wide 7 Try.f7 rfl rfl rfl rfl rfl rfl rfl ⟨rfl, rfl, rfl, rfl, rfl⟩ rfl rfl rfl rfl rfl (by kernel_rfl) Try.func7 (by kernel_rfl)
    (of_decide_eq_true (by kernel_rfl)) (by unfold Func.isWrapper; first | (rw [if_pos (by decide +kernel)]; kernel_rfl) | (rw [if_neg (by decide +kernel)]; exact ⟨rfl, rfl⟩))
    (fun os started H enc _ => lifted os started H enc)

end Go.Proofs.Ytkialijipcbgkaa.recordBack
