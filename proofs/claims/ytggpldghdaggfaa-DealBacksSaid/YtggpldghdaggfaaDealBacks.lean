/-
  DealBacks: whether a list is an order, its steps, and where each number stands, are the document's, or its error. No condition.
-/
import Derived.Test.YtggpldghdaggfaaFrameI
import Derived.Test.YtggpldghdaggfaaFrameWl
import Derived.Test.YtggpldghdaggfaaDlLaw
import Derived.Test.YtggpldghdaggfaaWrds
import Derived.Test.YtggpldghdaggfaaInts
namespace Go.Proofs.Ytggpldghdaggfaa.dealBacks
open Go.ChangeShapes Go.WideShapes Go.ChangeAt Go.RowKit
open Go.ChangeMaps (open_string shut_string)
set_option linter.unusedVariables false

set_option maxHeartbeats 400000 in
set_option maxRecDepth 100000 in
theorem walk (w : World) (v0 : Value) (l0 : List Int) (h0 : Lv iK w w.heap.size v0 l0) :
    Calls Try.prog 5 #[v0] w (IsBool true w) := by
  obtain ⟨r1, e1⟩ : ∃ r, Dl.backE l0 = r := ⟨_, rfl⟩
  obtain ⟨r2, e2⟩ : ∃ r, Dl.turnE l0 = r := ⟨_, rfl⟩
  obtain ⟨r3, e3⟩ : ∃ r, Dl.isOrd l0 = r := ⟨_, rfl⟩
  have H1 := Lib.hid e1
  have H2 := Lib.hid e2
  have H3 := Lib.hid e3
  clear e1 e2 e3
  have Fa_0 := Lib.hid (h0)
  have HB0 := Lib.hid (Below.refl w.heap.size w)
  go_enter Try.func5, Try.ntmps5
  have C1 := Lib.hid (pback_any _ l0 _ w (Nat.le_refl _) Fa_0.out)
  rw [H1.out] at C1
  go_wp2_with (fail)
  refine (C1.out).mono ?_
  rintro e w1 ⟨A1, c1, rfl, o1, b1⟩
  have HB1 := Lib.hid (HB0.out.trans (b1.mono HB0.out.size))
  have Fa_1 := Lib.hid ((Fa_0.out.below_ b1 (Nat.le_refl _)).mono_ b1.size)
  have Fl_1 := Lib.hid (o1.form_)
  clear C1 b1 HB0 Fa_0 o1
  have C2 := Lib.hid (rback_any _ l0 _ w1 (Nat.le_refl _) Fa_1.out)
  rw [H1.out] at C2
  go_wp2_with (fail)
  refine (C2.out).mono ?_
  rintro e w2 ⟨A2, c2, rfl, o2, b2⟩
  have HB2 := Lib.hid (HB1.out.trans (b2.mono HB1.out.size))
  have Fa_2 := Lib.hid ((Fa_1.out.below_ b2 (Nat.le_refl _)).mono_ b2.size)
  have Fl_2 := Lib.hid ((Fl_1.out.below_ b2 (Nat.le_refl _)).mono_ b2.size)
  have Fm_2 := Lib.hid (o2.form_)
  clear C2 b2 HB1 Fa_1 Fl_1 o2
  have C3 := Lib.hid (pturn_any _ l0 _ w2 (Nat.le_refl _) Fa_2.out)
  rw [H2.out] at C3
  go_wp2_with (fail)
  refine (C3.out).mono ?_
  rintro e w3 ⟨A3, c3, rfl, o3, b3⟩
  have HB3 := Lib.hid (HB2.out.trans (b3.mono HB2.out.size))
  have Fa_3 := Lib.hid ((Fa_2.out.below_ b3 (Nat.le_refl _)).mono_ b3.size)
  have Fl_3 := Lib.hid ((Fl_2.out.below_ b3 (Nat.le_refl _)).mono_ b3.size)
  have Fm_3 := Lib.hid ((Fm_2.out.below_ b3 (Nat.le_refl _)).mono_ b3.size)
  have Fp_3 := Lib.hid (o3.form_)
  clear C3 b3 HB2 Fa_2 Fl_2 Fm_2 o3
  have C4 := Lib.hid (rturn_any _ l0 _ w3 (Nat.le_refl _) Fa_3.out)
  rw [H2.out] at C4
  go_wp2_with (fail)
  refine (C4.out).mono ?_
  rintro e w4 ⟨A4, c4, rfl, o4, b4⟩
  have HB4 := Lib.hid (HB3.out.trans (b4.mono HB3.out.size))
  have Fa_4 := Lib.hid ((Fa_3.out.below_ b4 (Nat.le_refl _)).mono_ b4.size)
  have Fl_4 := Lib.hid ((Fl_3.out.below_ b4 (Nat.le_refl _)).mono_ b4.size)
  have Fm_4 := Lib.hid ((Fm_3.out.below_ b4 (Nat.le_refl _)).mono_ b4.size)
  have Fp_4 := Lib.hid ((Fp_3.out.below_ b4 (Nat.le_refl _)).mono_ b4.size)
  have Fq_4 := Lib.hid (o4.form_)
  clear C4 b4 HB3 Fa_3 Fl_3 Fm_3 Fp_3 o4
  have C5 := Lib.hid (pis_any _ l0 _ w4 (Nat.le_refl _) Fa_4.out)
  rw [H3.out] at C5
  go_wp2_with (fail)
  refine (C5.out).mono ?_
  rintro e w5 ⟨rfl, b5⟩
  have HB5 := Lib.hid (HB4.out.trans (b5.mono HB4.out.size))
  have Fa_5 := Lib.hid ((Fa_4.out.below_ b5 (Nat.le_refl _)).mono_ b5.size)
  have Fl_5 := Lib.hid ((Fl_4.out.below_ b5 (Nat.le_refl _)).mono_ b5.size)
  have Fm_5 := Lib.hid ((Fm_4.out.below_ b5 (Nat.le_refl _)).mono_ b5.size)
  have Fp_5 := Lib.hid ((Fp_4.out.below_ b5 (Nat.le_refl _)).mono_ b5.size)
  have Fq_5 := Lib.hid ((Fq_4.out.below_ b5 (Nat.le_refl _)).mono_ b5.size)
  clear C5 b5 HB4 Fa_4 Fl_4 Fm_4 Fp_4 Fq_4
  have C6 := Lib.hid (ris_any _ l0 _ w5 (Nat.le_refl _) Fa_5.out)
  rw [H3.out] at C6
  go_wp2_with (fail)
  refine (C6.out).mono ?_
  rintro e w6 ⟨rfl, b6⟩
  have HB6 := Lib.hid (HB5.out.trans (b6.mono HB5.out.size))
  have Fa_6 := Lib.hid ((Fa_5.out.below_ b6 (Nat.le_refl _)).mono_ b6.size)
  have Fl_6 := Lib.hid ((Fl_5.out.below_ b6 (Nat.le_refl _)).mono_ b6.size)
  have Fm_6 := Lib.hid ((Fm_5.out.below_ b6 (Nat.le_refl _)).mono_ b6.size)
  have Fp_6 := Lib.hid ((Fp_5.out.below_ b6 (Nat.le_refl _)).mono_ b6.size)
  have Fq_6 := Lib.hid ((Fq_5.out.below_ b6 (Nat.le_refl _)).mono_ b6.size)
  clear C6 b6 HB5 Fa_5 Fl_5 Fm_5 Fp_5 Fq_5
  have C7 := Lib.hid (ints_lv _ _ _ _ _ _ w6 Fl_6.out Fm_6.out)
  simp only [decide_true] at C7
  go_wp2_with (fail)
  refine (C7.out).mono ?_
  rintro e w7 ⟨rfl, b7⟩
  have HB7 := Lib.hid (HB6.out.trans (b7.mono HB6.out.size))
  have Fa_7 := Lib.hid ((Fa_6.out.below_ b7 (Nat.le_refl _)).mono_ b7.size)
  have Fl_7 := Lib.hid ((Fl_6.out.below_ b7 (Nat.le_refl _)).mono_ b7.size)
  have Fm_7 := Lib.hid ((Fm_6.out.below_ b7 (Nat.le_refl _)).mono_ b7.size)
  have Fp_7 := Lib.hid ((Fp_6.out.below_ b7 (Nat.le_refl _)).mono_ b7.size)
  have Fq_7 := Lib.hid ((Fq_6.out.below_ b7 (Nat.le_refl _)).mono_ b7.size)
  clear C7 b7 HB6 Fa_6 Fl_6 Fm_6 Fp_6 Fq_6
  have C8 := Lib.hid (ints_lv _ _ _ _ _ _ w7 Fp_7.out Fq_7.out)
  simp only [decide_true] at C8
  go_wp2_with (fail)
  refine (C8.out).mono ?_
  rintro e w8 ⟨rfl, b8⟩
  have HB8 := Lib.hid (HB7.out.trans (b8.mono HB7.out.size))
  have Fa_8 := Lib.hid ((Fa_7.out.below_ b8 (Nat.le_refl _)).mono_ b8.size)
  have Fl_8 := Lib.hid ((Fl_7.out.below_ b8 (Nat.le_refl _)).mono_ b8.size)
  have Fm_8 := Lib.hid ((Fm_7.out.below_ b8 (Nat.le_refl _)).mono_ b8.size)
  have Fp_8 := Lib.hid ((Fp_7.out.below_ b8 (Nat.le_refl _)).mono_ b8.size)
  have Fq_8 := Lib.hid ((Fq_7.out.below_ b8 (Nat.le_refl _)).mono_ b8.size)
  clear C8 b8 HB7 Fa_7 Fl_7 Fm_7 Fp_7 Fq_7
  clear Fa_8
  clear Fl_8
  clear Fm_8
  clear Fp_8
  clear Fq_8
  have C9 := Lib.hid (works_any w8)
  go_wp2_with (fail)
  refine (C9.out).mono ?_
  rintro e w9 ⟨rfl, b9⟩
  have HB9 := Lib.hid (HB8.out.trans (b9.mono HB8.out.size))
  clear C9 b9 HB8
  go_wp2
  go_ret
  exact ⟨rfl, HB9.out⟩

/-! ### From the walk to the row -/
set_option maxRecDepth 100000 in
theorem lifted (os : Os) (started : os.Started) (H : Type) (enc : TypeId × Value → H) :
    ReturnsInHanded {} Try.checked os 5 .any (Rows.dealBacksSpec.pre6 enc Try.prog Try.f5 Rows.dealBacksRow.domain false) (Rows.dealBacksSpec.post enc Try.prog Try.f5 false true false false) := by
  refine returnsInHanded_of_change (C := Try.checked) own started (by kernel_rfl) Try.func5
    (ChangeSpec.witness6 (enc := enc) (C := Try.checked) false ⟨#[], #[.slice none 0 0], []⟩ 8 (by kernel_rfl) (by kernel_rfl) (by kernel_rfl) (by kernel_rfl)) ?_
  intro W base args ds gs before hval0 hW hcnd _
  have hval : ∀ (j : Nat) t v, Try.f5.params[j]? = some t → args[j]? = some v → Value.okWide Try.prog W .any base t v := hval0
  have hW' := hW
  obtain ⟨p, q, hA0, hV, rfl, hfz, hnd⟩ := hW
  have hA : DataW.TrodAll enc Try.prog W 0 (fun _ => true) true Try.f5.params.toList args.toList ds p := hA0
  rw [Try.params5] at hA hval
  obtain ⟨v0, vs0, d0, ds0, p0, q0, hargs, rfl, rfl, h0, r0⟩ := trodAll_cons hA
  obtain ⟨rfl, rfl, rfl⟩ := trodAll_nil r0
  obtain rfl : args = #[v0] := by cases args; simp_all
  obtain ⟨rfl, rfl⟩ := trodVars_none hV
  obtain ⟨a0, len0, cap0, rfl⟩ := okWide_slice Try.underlying23 (hval 0 23 v0 rfl rfl)
  have k0 := h0
  have lt0 : ∀ x ∈ p0, x.block < W.heap.size := by obtain ⟨m, hm⟩ := k0; exact DataW.trod_lt m _ _ _ hm
  obtain ⟨l0, len_0, hb0⟩ : ∃ l : List Int, l.length = len0 ∧ Lv iK W W.heap.size (.slice a0 len0 cap0) l := by
    obtain ⟨fuel, hf⟩ := h0
    rcases open_ints Try.underlying23 Try.underlying3 (by kernel_rfl) hf with ⟨hcs, _⟩ | ⟨x, l, c, zs, hcs, _, hl, hm, hz, _, hcell, hwz⟩
    · simp [Value.cells] at hcs
      obtain ⟨rfl, rfl, rfl⟩ := hcs
      exact ints_in (.inl ⟨rfl, rfl, rfl⟩)
    · simp [Value.cells] at hcs
      obtain ⟨rfl, rfl, rfl⟩ := hcs
      exact ints_in (.inr ⟨x, zs, rfl, hl, hm, by simpa using hz, hcell, hwz⟩)
  clear hA0 hval0
  refine (walk W (.slice a0 len0 cap0) l0 hb0).mono fun e W' ⟨he, bel⟩ => ?_
  subst he
  exact ⟨_, rfl, _, _, _, [], _, [], hW', trodAll_mk1 (shut_bool Try.underlying4 _), (trodAll_cons_mk (Below.trod laidOut (by kernel_rfl) (of_decide_eq_true (by kernel_rfl)) k0 bel lt0) trodAll_mk0), rfl, bel.frame _, fun h => by cases h⟩

theorem proved : Rows.DealBacksSaid :=
  OpenClaim.holds_of_wide 5 Try.f5 rfl rfl rfl rfl rfl rfl rfl ⟨rfl, rfl, rfl, rfl, rfl⟩ rfl rfl rfl rfl rfl (by kernel_rfl) Try.func5 (by kernel_rfl)
    (of_decide_eq_true (by kernel_rfl)) (by unfold Func.isWrapper; first | (rw [if_pos (by decide +kernel)]; kernel_rfl) | (rw [if_neg (by decide +kernel)]; exact ⟨rfl, rfl⟩))
    (fun os started H enc _ => lifted os started H enc)

end Go.Proofs.Ytggpldghdaggfaa.dealBacks
