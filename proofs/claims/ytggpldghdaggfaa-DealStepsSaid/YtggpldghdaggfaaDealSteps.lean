/-
  DealSteps: the steps of a seed, and the order that it deals, are the document's, or its error. No condition.
-/
import Derived.Test.YtggpldghdaggfaaFrameI
import Derived.Test.YtggpldghdaggfaaFrameWl
import Derived.Test.YtggpldghdaggfaaDlLaw
import Derived.Test.YtggpldghdaggfaaWrds
import Derived.Test.YtggpldghdaggfaaInts
namespace Go.Proofs.Ytggpldghdaggfaa.dealSteps
open Go.ChangeShapes Go.WideShapes Go.ChangeAt Go.RowKit
open Go.ChangeMaps (open_string shut_string)
set_option linter.unusedVariables false

set_option maxHeartbeats 400000 in
set_option maxRecDepth 100000 in
theorem walk (w : World) (n0 : Nat) (b0 : Mt.B64 n0) (a1 : Int) (w1 : (Lit.int .i64 a1).wf = true) :
    Calls Try.prog 3 #[.int .u64 n0, .int .i64 a1] w (IsBool true w) := by
  clear w1
  obtain ⟨z, rfl⟩ := nl_of_u64 b0
  obtain ⟨r1, h1⟩ : ∃ r, Dl.stepsE z a1 = r := ⟨_, rfl⟩
  obtain ⟨r2, h2⟩ : ∃ r, Dl.dealE z a1 = r := ⟨_, rfl⟩
  have H1 := Lib.hid h1
  have H2 := Lib.hid h2
  clear h1 h2 b0
  have HB0 := Lib.hid (Below.refl w.heap.size w)
  go_enter Try.func3, Try.ntmps3
  have C1 := Lib.hid (psteps_any z a1 w)
  rw [H1.out] at C1
  go_wp2_with (fail)
  refine (C1.out).mono ?_
  rintro e w1 ⟨A1, c1, rfl, o1, b1⟩
  have HB1 := Lib.hid (HB0.out.trans (b1.mono HB0.out.size))
  have Fl_1 := Lib.hid (o1.form_)
  clear C1 b1 HB0 o1
  have C2 := Lib.hid (rsteps_any z a1 w1)
  rw [H1.out] at C2
  go_wp2_with (fail)
  refine (C2.out).mono ?_
  rintro e w2 ⟨A2, c2, rfl, o2, b2⟩
  have HB2 := Lib.hid (HB1.out.trans (b2.mono HB1.out.size))
  have Fl_2 := Lib.hid ((Fl_1.out.below_ b2 (Nat.le_refl _)).mono_ b2.size)
  have Fm_2 := Lib.hid (o2.form_)
  clear C2 b2 HB1 Fl_1 o2
  have C3 := Lib.hid (pdeal_any z a1 w2)
  rw [H2.out] at C3
  go_wp2_with (fail)
  refine (C3.out).mono ?_
  rintro e w3 ⟨A3, c3, rfl, o3, b3⟩
  have HB3 := Lib.hid (HB2.out.trans (b3.mono HB2.out.size))
  have Fl_3 := Lib.hid ((Fl_2.out.below_ b3 (Nat.le_refl _)).mono_ b3.size)
  have Fm_3 := Lib.hid ((Fm_2.out.below_ b3 (Nat.le_refl _)).mono_ b3.size)
  have Fp_3 := Lib.hid (o3.form_)
  clear C3 b3 HB2 Fl_2 Fm_2 o3
  have C4 := Lib.hid (rdeal_any z a1 w3)
  rw [H2.out] at C4
  go_wp2_with (fail)
  refine (C4.out).mono ?_
  rintro e w4 ⟨A4, c4, rfl, o4, b4⟩
  have HB4 := Lib.hid (HB3.out.trans (b4.mono HB3.out.size))
  have Fl_4 := Lib.hid ((Fl_3.out.below_ b4 (Nat.le_refl _)).mono_ b4.size)
  have Fm_4 := Lib.hid ((Fm_3.out.below_ b4 (Nat.le_refl _)).mono_ b4.size)
  have Fp_4 := Lib.hid ((Fp_3.out.below_ b4 (Nat.le_refl _)).mono_ b4.size)
  have Fq_4 := Lib.hid (o4.form_)
  clear C4 b4 HB3 Fl_3 Fm_3 Fp_3 o4
  have C5 := Lib.hid (ints_lv _ _ _ _ _ _ w4 Fl_4.out Fm_4.out)
  simp only [decide_true] at C5
  go_wp2_with (fail)
  refine (C5.out).mono ?_
  rintro e w5 ⟨rfl, b5⟩
  have HB5 := Lib.hid (HB4.out.trans (b5.mono HB4.out.size))
  have Fl_5 := Lib.hid ((Fl_4.out.below_ b5 (Nat.le_refl _)).mono_ b5.size)
  have Fm_5 := Lib.hid ((Fm_4.out.below_ b5 (Nat.le_refl _)).mono_ b5.size)
  have Fp_5 := Lib.hid ((Fp_4.out.below_ b5 (Nat.le_refl _)).mono_ b5.size)
  have Fq_5 := Lib.hid ((Fq_4.out.below_ b5 (Nat.le_refl _)).mono_ b5.size)
  clear C5 b5 HB4 Fl_4 Fm_4 Fp_4 Fq_4
  have C6 := Lib.hid (ints_lv _ _ _ _ _ _ w5 Fp_5.out Fq_5.out)
  simp only [decide_true] at C6
  go_wp2_with (fail)
  refine (C6.out).mono ?_
  rintro e w6 ⟨rfl, b6⟩
  have HB6 := Lib.hid (HB5.out.trans (b6.mono HB5.out.size))
  have Fl_6 := Lib.hid ((Fl_5.out.below_ b6 (Nat.le_refl _)).mono_ b6.size)
  have Fm_6 := Lib.hid ((Fm_5.out.below_ b6 (Nat.le_refl _)).mono_ b6.size)
  have Fp_6 := Lib.hid ((Fp_5.out.below_ b6 (Nat.le_refl _)).mono_ b6.size)
  have Fq_6 := Lib.hid ((Fq_5.out.below_ b6 (Nat.le_refl _)).mono_ b6.size)
  clear C6 b6 HB5 Fl_5 Fm_5 Fp_5 Fq_5
  clear Fl_6
  clear Fm_6
  clear Fp_6
  clear Fq_6
  have C7 := Lib.hid (works_any w6)
  go_wp2_with (fail)
  refine (C7.out).mono ?_
  rintro e w7 ⟨rfl, b7⟩
  have HB7 := Lib.hid (HB6.out.trans (b7.mono HB6.out.size))
  clear C7 b7 HB6
  go_wp2
  go_ret
  exact ⟨rfl, HB7.out⟩

/-! ### From the walk to the row -/
set_option maxRecDepth 100000 in
theorem lifted (os : Os) (started : os.Started) (H : Type) (enc : TypeId × Value → H) :
    ReturnsInHanded {} Try.checked os 3 .any (Rows.dealStepsSpec.pre6 enc Try.prog Try.f3 Rows.dealStepsRow.domain false) (Rows.dealStepsSpec.post enc Try.prog Try.f3 false true false false) := by
  refine returnsInHanded_of_change (C := Try.checked) own started (by kernel_rfl) Try.func3
    (ChangeSpec.witness6 (enc := enc) (C := Try.checked) false ⟨#[], #[.int .u64 0, .int .i64 0], []⟩ 8 (by kernel_rfl) (by kernel_rfl) (by kernel_rfl) (by kernel_rfl)) ?_
  intro W base args ds gs before hval0 hW hcnd _
  have hval : ∀ (j : Nat) t v, Try.f3.params[j]? = some t → args[j]? = some v → Value.okWide Try.prog W .any base t v := hval0
  have hW' := hW
  obtain ⟨p, q, hA0, hV, rfl, hfz, hnd⟩ := hW
  have hA : DataW.TrodAll enc Try.prog W 0 (fun _ => true) true Try.f3.params.toList args.toList ds p := hA0
  rw [Try.params3] at hA hval
  obtain ⟨v0, vs0, d0, ds0, p0, q0, hargs, rfl, rfl, h0, r0⟩ := trodAll_cons hA
  obtain ⟨v1, vs1, d1, ds1, p1, q1, rfl, rfl, rfl, h1, r1⟩ := trodAll_cons r0
  obtain ⟨rfl, rfl, rfl⟩ := trodAll_nil r1
  obtain rfl : args = #[v0, v1] := by cases args; simp_all
  obtain ⟨rfl, rfl⟩ := trodVars_none hV
  obtain ⟨a0, rfl, rfl, rfl, w0⟩ := open_int Try.underlying22 (hval 0 22 v0 rfl rfl) h0
  obtain ⟨n0, e0, b0⟩ := u64_nat w0
  subst e0
  obtain ⟨a1, rfl, rfl, rfl, w1⟩ := open_int Try.underlying3 (hval 1 3 v1 rfl rfl) h1
  clear hA0 hval0
  refine (walk W n0 b0 a1 w1).mono fun e W' ⟨he, bel⟩ => ?_
  subst he
  exact ⟨_, rfl, _, _, _, [], _, [], hW', trodAll_mk1 (shut_bool Try.underlying4 _), (trodAll_cons_mk (shut_int Try.underlying22 w0) (trodAll_cons_mk (shut_int Try.underlying3 w1) trodAll_mk0)), rfl, bel.frame _, fun h => by cases h⟩

theorem proved : Rows.DealStepsSaid :=
  OpenClaim.holds_of_wide 3 Try.f3 rfl rfl rfl rfl rfl rfl rfl ⟨rfl, rfl, rfl, rfl, rfl⟩ rfl rfl rfl rfl rfl (by kernel_rfl) Try.func3 (by kernel_rfl)
    (of_decide_eq_true (by kernel_rfl)) (by unfold Func.isWrapper; first | (rw [if_pos (by decide +kernel)]; kernel_rfl) | (rw [if_neg (by decide +kernel)]; exact ⟨rfl, rfl⟩))
    (fun os started H enc _ => lifted os started H enc)

end Go.Proofs.Ytggpldghdaggfaa.dealSteps
