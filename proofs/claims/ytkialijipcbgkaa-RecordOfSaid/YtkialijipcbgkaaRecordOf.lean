/-
  RecordOf: the record of a document is the document's, or its error. No condition.
-/
import Derived.Test.YtkialijipcbgkaaPk45
import Derived.Test.YtkialijipcbgkaaPk43
import Derived.Test.YtkialijipcbgkaaPk21
namespace Go.Proofs.Ytkialijipcbgkaa.recordOf
open Go.ChangeShapes Go.WideShapes Go.ChangeAt Go.RowKit
open Go.ChangeMaps (open_string shut_string)
set_option linter.unusedVariables false

set_option maxHeartbeats 2000000 in
set_option maxRecDepth 100000 in
theorem walk (w : World) (v0 : Value) (l0 : List Vo.Pc) (h0 : Lv pK w w.heap.size v0 l0) (n1 : Nat) (b1 : Mt.B64 n1) (v2 : Value) (l2 : List Nat) (h2 : Lv yK w w.heap.size v2 l2) :
    Calls Try.prog 5 #[.agg #[v0], .int .u64 (n1 : Nat), v2] w (IsBool true w) := by
  have hz35 := rc_zeroV
  have hn35 := rc_n35
  have hb0 := rc_built0
  obtain ⟨N, hN⟩ : ∃ N, none35 = N := ⟨_, rfl⟩
  rw [hN] at hz35 hn35 hb0
  have HN0 : Hid (rcC Rc.zero (.slice none 0 0) = N) := hN
  clear hN
  obtain ⟨A2, c2', rfl, hd1, hd2, _, _⟩ := id h2
  have hl2 : l2.length ≤ 9223372036854775807 := by simp only [maxLen] at hd2; omega
  have H2 := Lib.hid h2
  have HI2 : I64 ((l2.length : Nat) : Int) := by unfold I64; omega
  clear hd1 hd2 h2
  have HN1 : Hid (n1 < 18446744073709551616) := by unfold Mt.B64 at b1; unfold Hid; omega
  clear b1
  by_cases hm : 500 < l0.length ∨ (300 < ((l2.length : Nat) : Int) ∧ ((l2.length : Nat) : Int) ≤ 4096)
  · skip
    have HM : Hid (decide (500 < l0.length ∨ (300 < ((l2.length : Nat) : Int) ∧ ((l2.length : Nat) : Int) ≤ 4096)) = true) := decide_eq_true hm
    clear hm
    obtain ⟨W, hW⟩ : ∃ X, w.alloc (.cells #[v0] 41) = X := ⟨_, rfl⟩
    obtain ⟨db, hsz, hbb⟩ := boxed hW
    have HB0 := Lib.hid hbb
    have Fv_0 := Lib.hid ((h0.below_ hbb (Nat.le_refl _)).mono_ hbb.size)
    have Fbox_0 : Hid (BoxAt W W.heap.size w.heap.size v0) := ⟨by omega, db⟩
    obtain ⟨A, c, rfl, hc1, hc2, _, _⟩ := h0
    have hl0 : l0.length ≤ 9223372036854775807 := by simp only [maxLen] at hc2; omega
    have dbox_0 := Fbox_0.out.2
    clear hc1 hc2 hbb hsz db
    go_enter Try.func5, Try.ntmps5
    have C1 := Lib.hid (rlong_any l0 _ ((l2.length : Nat) : Int) HI2 _ W Fv_0.out)
    rw [HM.out] at C1
    go_wp2_with (fail)
    refine (C1.out).mono ?_
    rintro e w1 ⟨rfl, b1⟩
    have HB1 := Lib.hid (HB0.out.trans (b1.mono HB0.out.size))
    have Fv_1 := Lib.hid ((Fv_0.out.below_ b1 (Nat.le_refl _)).mono_ b1.size)
    have Fbox_1 := Lib.hid ((Fbox_0.out.below_ b1 (Nat.le_refl _)).mono_ b1.size)
    have dbox_1 := Fbox_1.out.2
    clear C1 b1 HB0 Fv_0 Fbox_0 dbox_0
    clear Fv_1
    have C2 := Lib.hid (works_rc w1)
    go_wp2_with (fail)
    refine (C2.out).mono ?_
    rintro e w2 ⟨rfl, b2⟩
    have HB2 := Lib.hid (HB1.out.trans (b2.mono HB1.out.size))
    have Fbox_2 := Lib.hid ((Fbox_1.out.below_ b2 (Nat.le_refl _)).mono_ b2.size)
    have dbox_2 := Fbox_2.out.2
    clear C2 b2 HB1 Fbox_1 dbox_1
    go_wp2
    go_ret
    exact ⟨rfl, HB2.out⟩
  · skip
    have HM : Hid (decide (500 < l0.length ∨ (300 < ((l2.length : Nat) : Int) ∧ ((l2.length : Nat) : Int) ≤ 4096)) = false) := decide_eq_false hm
    clear hm
    obtain ⟨⟨x, E⟩, hx⟩ : ∃ r, Rc.ofE l0 n1 l2 = r := ⟨_, rfl⟩
    have HX := Lib.hid hx
    clear hx
    obtain ⟨W, hW⟩ : ∃ X, w.alloc (.cells #[v0] 41) = X := ⟨_, rfl⟩
    obtain ⟨db, hsz, hbb⟩ := boxed hW
    have HB0 := Lib.hid hbb
    have Fv_0 := Lib.hid ((h0.below_ hbb (Nat.le_refl _)).mono_ hbb.size)
    have Fbox_0 : Hid (BoxAt W W.heap.size w.heap.size v0) := ⟨by omega, db⟩
    obtain ⟨A, c, rfl, hc1, hc2, _, _⟩ := h0
    have hl0 : l0.length ≤ 9223372036854775807 := by simp only [maxLen] at hc2; omega
    have dbox_0 := Fbox_0.out.2
    clear hc1 hc2 hbb hsz db
    have Fb_0 := Lib.hid ((H2.out.below_ HB0.out (Nat.le_refl _)).mono_ HB0.out.size)
    go_enter Try.func5, Try.ntmps5
    have C1 := Lib.hid (rlong_any l0 _ ((l2.length : Nat) : Int) HI2 _ W Fv_0.out)
    rw [HM.out] at C1
    go_wp2_with (fail)
    refine (C1.out).mono ?_
    rintro e w1 ⟨rfl, b1⟩
    have HB1 := Lib.hid (HB0.out.trans (b1.mono HB0.out.size))
    have Fv_1 := Lib.hid ((Fv_0.out.below_ b1 (Nat.le_refl _)).mono_ b1.size)
    have Fbox_1 := Lib.hid ((Fbox_0.out.below_ b1 (Nat.le_refl _)).mono_ b1.size)
    have Fb_1 := Lib.hid ((Fb_0.out.below_ b1 (Nat.le_refl _)).mono_ b1.size)
    have dbox_1 := Fbox_1.out.2
    clear C1 b1 HB0 Fv_0 Fbox_0 Fb_0 dbox_0
    have C2 := Lib.hid (prcof_any l0 _ n1 l2 _ _ w1 Fv_1.out Fb_1.out HN1.out (Nat.le_refl _))
    rw [HX.out] at C2
    go_wp2_with (fail)
    refine (C2.out).mono ?_
    rintro e w2 ⟨A2, c2, rfl, f2, o2, b2⟩
    have HB2 := Lib.hid (HB1.out.trans (b2.mono HB1.out.size))
    have Fv_2 := Lib.hid ((Fv_1.out.below_ b2 (Nat.le_refl _)).mono_ b2.size)
    have Fbox_2 := Lib.hid ((Fbox_1.out.below_ b2 (Nat.le_refl _)).mono_ b2.size)
    have Fb_2 := Lib.hid ((Fb_1.out.below_ b2 (Nat.le_refl _)).mono_ b2.size)
    have dbox_2 := Fbox_2.out.2
    have Fx_2 := Lib.hid (o2.form_)
    clear C2 b2 HB1 Fv_1 Fbox_1 Fb_1 dbox_1 o2
    have fit2 := Lib.hid f2
    obtain ⟨D2, hD2⟩ : ∃ C, rcC x (.slice A2 x.toks.length c2) = C := ⟨_, rfl⟩
    obtain ⟨vs2, vo2, vz2⟩ := rc_val f2 hD2
    replace vz2 := Lib.hid vz2
    rw [hD2]
    replace hD2 := Lib.hid hD2
    clear f2
    obtain ⟨X2, hX2⟩ : ∃ X, (w2.alloc (.cells N 27)).setRow w2.heap.size D2 = X := ⟨_, rfl⟩
    obtain ⟨hxa2, hxb2⟩ := rc_stored hX2
    have b3 := hxb2
    have HB3 := Lib.hid (HB2.out.trans (b3.mono HB2.out.size))
    have Fv_3 := Lib.hid ((Fv_2.out.below_ b3 (Nat.le_refl _)).mono_ b3.size)
    have Fbox_3 := Lib.hid ((Fbox_2.out.below_ b3 (Nat.le_refl _)).mono_ b3.size)
    have Fb_3 := Lib.hid ((Fb_2.out.below_ b3 (Nat.le_refl _)).mono_ b3.size)
    have Fx_3 := Lib.hid ((Fx_2.out.below_ b3 (Nat.le_refl _)).mono_ b3.size)
    have dbox_3 := Fbox_3.out.2
    clear b3 HB2 Fv_2 Fbox_2 Fb_2 Fx_2 dbox_2
    have Fbx_3 := Lib.hid hxa2
    clear hxa2 hxb2
    have C4 := Lib.hid (rrcof_any l0 _ n1 l2 _ _ X2 Fv_3.out Fb_3.out HN1.out (Nat.le_refl _))
    rw [HX.out] at C4
    go_wp2_with (first
      | (refine wpList_store_row rfl _ _ _ rfl w2.heap.size D2 rfl rfl 27 N (Rw.new w2 _ _) vs2 (by rw [vz2.out, hn35]) vo2 ?_; rw [hX2])
      | (refine wpList_load_row rfl _ _ rfl w2.heap.size rfl 27 D2 (0, 0) _ Fbx_3.out.2 Try.underlying27 rfl (by rw [vs2]) ?_))
    refine (C4.out).mono ?_
    rintro e w4 ⟨A4, c4, rfl, f4, o4, b4⟩
    have HB4 := Lib.hid (HB3.out.trans (b4.mono HB3.out.size))
    have Fv_4 := Lib.hid ((Fv_3.out.below_ b4 (Nat.le_refl _)).mono_ b4.size)
    have Fbox_4 := Lib.hid ((Fbox_3.out.below_ b4 (Nat.le_refl _)).mono_ b4.size)
    have Fb_4 := Lib.hid ((Fb_3.out.below_ b4 (Nat.le_refl _)).mono_ b4.size)
    have Fx_4 := Lib.hid ((Fx_3.out.below_ b4 (Nat.le_refl _)).mono_ b4.size)
    have Fbx_4 := Lib.hid ((Fbx_3.out.below_ b4 (Nat.le_refl _)).mono_ b4.size)
    have dbox_4 := Fbox_4.out.2
    have Fy_4 := Lib.hid (o4.form_)
    clear C4 b4 HB3 Fv_3 Fbox_3 Fb_3 Fx_3 Fbx_3 dbox_3 o4
    clear hX2
    have fit4 := Lib.hid f4
    obtain ⟨D4, hD4⟩ : ∃ C, rcC x (.slice A4 x.toks.length c4) = C := ⟨_, rfl⟩
    obtain ⟨vs4, vo4, vz4⟩ := rc_val f4 hD4
    replace vz4 := Lib.hid vz4
    rw [hD4]
    replace hD4 := Lib.hid hD4
    clear f4
    obtain ⟨X4, hX4⟩ : ∃ X, (w4.alloc (.cells N 27)).setRow w4.heap.size D4 = X := ⟨_, rfl⟩
    obtain ⟨hxa4, hxb4⟩ := rc_stored hX4
    have b5 := hxb4
    have HB5 := Lib.hid (HB4.out.trans (b5.mono HB4.out.size))
    have Fv_5 := Lib.hid ((Fv_4.out.below_ b5 (Nat.le_refl _)).mono_ b5.size)
    have Fbox_5 := Lib.hid ((Fbox_4.out.below_ b5 (Nat.le_refl _)).mono_ b5.size)
    have Fb_5 := Lib.hid ((Fb_4.out.below_ b5 (Nat.le_refl _)).mono_ b5.size)
    have Fx_5 := Lib.hid ((Fx_4.out.below_ b5 (Nat.le_refl _)).mono_ b5.size)
    have Fbx_5 := Lib.hid ((Fbx_4.out.below_ b5 (Nat.le_refl _)).mono_ b5.size)
    have Fy_5 := Lib.hid ((Fy_4.out.below_ b5 (Nat.le_refl _)).mono_ b5.size)
    have dbox_5 := Fbox_5.out.2
    clear b5 HB4 Fv_4 Fbox_4 Fb_4 Fx_4 Fbx_4 Fy_4 dbox_4
    have Fby_5 := Lib.hid hxa4
    clear hxa4 hxb4
    have C6 := Lib.hid (rec_lv x x _ _ _ _ X4 fit2.out fit4.out Fx_5.out Fy_5.out (Nat.le_refl _) (Nat.le_refl _))
    rw [hD2.out, hD4.out] at C6
    simp only [decide_true] at C6
    go_wp2_with (first
      | (refine wpList_store_row rfl _ _ _ rfl w4.heap.size D4 rfl rfl 27 N (Rw.new w4 _ _) vs4 (by rw [vz4.out, hn35]) vo4 ?_; rw [hX4])
      | (refine wpList_load_row rfl _ _ rfl w2.heap.size rfl 27 D2 (0, 0) _ Fbx_5.out.2 Try.underlying27 rfl (by rw [vs2]) ?_)
      | (refine wpList_load_row rfl _ _ rfl w4.heap.size rfl 27 D4 (0, 0) _ Fby_5.out.2 Try.underlying27 rfl (by rw [vs4]) ?_))
    refine (C6.out).mono ?_
    rintro e w6 ⟨rfl, b6⟩
    have HB6 := Lib.hid (HB5.out.trans (b6.mono HB5.out.size))
    have Fv_6 := Lib.hid ((Fv_5.out.below_ b6 (Nat.le_refl _)).mono_ b6.size)
    have Fbox_6 := Lib.hid ((Fbox_5.out.below_ b6 (Nat.le_refl _)).mono_ b6.size)
    have Fb_6 := Lib.hid ((Fb_5.out.below_ b6 (Nat.le_refl _)).mono_ b6.size)
    have Fx_6 := Lib.hid ((Fx_5.out.below_ b6 (Nat.le_refl _)).mono_ b6.size)
    have Fbx_6 := Lib.hid ((Fbx_5.out.below_ b6 (Nat.le_refl _)).mono_ b6.size)
    have Fy_6 := Lib.hid ((Fy_5.out.below_ b6 (Nat.le_refl _)).mono_ b6.size)
    have Fby_6 := Lib.hid ((Fby_5.out.below_ b6 (Nat.le_refl _)).mono_ b6.size)
    have dbox_6 := Fbox_6.out.2
    clear C6 b6 HB5 Fv_5 Fbox_5 Fb_5 Fx_5 Fbx_5 Fy_5 Fby_5 dbox_5
    clear hX4
    clear Fv_6
    clear Fb_6
    clear Fx_6
    clear Fy_6
    clear Fbx_6
    clear Fby_6
    have C7 := Lib.hid (works_rc w6)
    go_wp2_with (fail)
    refine (C7.out).mono ?_
    rintro e w7 ⟨rfl, b7⟩
    have HB7 := Lib.hid (HB6.out.trans (b7.mono HB6.out.size))
    have Fbox_7 := Lib.hid ((Fbox_6.out.below_ b7 (Nat.le_refl _)).mono_ b7.size)
    have dbox_7 := Fbox_7.out.2
    clear C7 b7 HB6 Fbox_6 dbox_6
    go_wp2
    go_ret
    exact ⟨rfl, HB7.out⟩

/-! ### From the walk to the row -/
set_option maxRecDepth 100000 in
theorem lifted (os : Os) (started : os.Started) (H : Type) (enc : TypeId × Value → H) :
    ReturnsInHanded {} Try.checked os 5 .any (Rows.recordOfSpec.pre6 enc Try.prog Try.f5 Rows.recordOfRow.domain false) (Rows.recordOfSpec.post enc Try.prog Try.f5 false true false false) := by
  refine returnsInHanded_of_change (C := Try.checked) own started (by kernel_rfl) Try.func5
    (ChangeSpec.witness6 (enc := enc) (C := Try.checked) false ⟨#[], #[.agg #[.slice none 0 0], .int .u64 0, .slice none 0 0], []⟩ 8 (by kernel_rfl) (by kernel_rfl) (by kernel_rfl) (by kernel_rfl)) ?_
  intro W base args ds gs before hval0 hW hcnd _
  have hval : ∀ (j : Nat) t v, Try.f5.params[j]? = some t → args[j]? = some v → Value.okWide Try.prog W .any base t v := hval0
  have hW' := hW
  obtain ⟨p, q, hA0, hV, rfl, hfz, hnd⟩ := hW
  have hA : DataW.TrodAll enc Try.prog W 0 (fun _ => true) true Try.f5.params.toList args.toList ds p := hA0
  rw [Try.params5] at hA hval
  obtain ⟨v0, vs0, d0, ds0, p0, q0, hargs, rfl, rfl, h0, r0⟩ := trodAll_cons hA
  obtain ⟨v1, vs1, d1, ds1, p1, q1, rfl, rfl, rfl, h1, r1⟩ := trodAll_cons r0
  obtain ⟨v2, vs2, d2, ds2, p2, q2, rfl, rfl, rfl, h2, r2⟩ := trodAll_cons r1
  obtain ⟨rfl, rfl, rfl⟩ := trodAll_nil r2
  obtain rfl : args = #[v0, v1, v2] := by cases args; simp_all
  obtain ⟨rfl, rfl⟩ := trodVars_none hV
  have k0 := h0
  have lt0 : ∀ x ∈ p0, x.block < W.heap.size := by obtain ⟨m, hm⟩ := k0; exact DataW.trod_lt m _ _ _ hm
  obtain ⟨u0, l0, rfl, hb0⟩ := voc_in (hval 0 41 v0 rfl rfl) h0
  obtain ⟨a1, rfl, rfl, rfl, w1⟩ := open_int Try.underlying24 (hval 1 24 v1 rfl rfl) h1
  obtain ⟨n1, e1, b1⟩ := u64_nat w1
  subst e1
  obtain ⟨a2, len2, cap2, rfl⟩ := okWide_slice Try.underlying28 (hval 2 28 v2 rfl rfl)
  have k2 := h2
  have lt2 : ∀ x ∈ p2, x.block < W.heap.size := by obtain ⟨m, hm⟩ := k2; exact DataW.trod_lt m _ _ _ hm
  obtain ⟨l2, len_2, hb2⟩ : ∃ l : List Nat, l.length = len2 ∧ Lv yK W W.heap.size (.slice a2 len2 cap2) l := by
    obtain ⟨fuel, hf⟩ := h2
    exact octs_in hf
  clear hA0 hval0
  refine (walk W u0 l0 hb0 n1 b1 (.slice a2 len2 cap2) l2 hb2).mono fun e W' ⟨he, bel⟩ => ?_
  subst he
  exact ⟨_, rfl, _, _, _, [], _, [], hW', trodAll_mk1 (shut_bool Try.underlying4 _), (trodAll_cons_mk (Below.trod laidOut (by kernel_rfl) (of_decide_eq_true (by kernel_rfl)) k0 bel lt0) (trodAll_cons_mk (shut_int Try.underlying24 w1) (trodAll_cons_mk (Below.trod laidOut (by kernel_rfl) (of_decide_eq_true (by kernel_rfl)) k2 bel lt2) trodAll_mk0))), rfl, bel.frame _, fun h => by cases h⟩

theorem proved : Rows.RecordOfSaid :=
  OpenClaim.holds_of_wide 5 Try.f5 rfl rfl rfl rfl rfl rfl rfl ⟨rfl, rfl, rfl, rfl, rfl⟩ rfl rfl rfl rfl rfl (by kernel_rfl) Try.func5 (by kernel_rfl)
    (of_decide_eq_true (by kernel_rfl)) (by unfold Func.isWrapper; first | (rw [if_pos (by decide +kernel)]; kernel_rfl) | (rw [if_neg (by decide +kernel)]; exact ⟨rfl, rfl⟩))
    (fun os started H enc _ => lifted os started H enc)

end Go.Proofs.Ytkialijipcbgkaa.recordOf
