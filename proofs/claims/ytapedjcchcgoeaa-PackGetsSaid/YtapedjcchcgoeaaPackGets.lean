/-
  PackGets: of whatever bytes, from whatever place on, the row that is read, or the error, is the document's. No condition.
-/
import Derived.Test.YtapedjcchcgoeaaFrameN
import Derived.Test.YtapedjcchcgoeaaFrameB
import Derived.Test.YtapedjcchcgoeaaPkLaw
import Derived.Test.YtapedjcchcgoeaaBvLv
namespace Go.Proofs.Ytapedjcchcgoeaa.packGets
open Go.ChangeShapes Go.WideShapes Go.ChangeAt Go.RowKit
open Go.ChangeMaps (open_string shut_string)
set_option linter.unusedVariables false

set_option maxHeartbeats 2000000 in
set_option maxRecDepth 100000 in
theorem walk (w : World) (v0 : Value) (l0 : List Nat) (h0 : Lv yK w w.heap.size v0 l0) (a1 : Int) (w1 : (Lit.int .i64 a1).wf = true) :
    Calls Try.prog 5 #[v0, .int .i64 a1] w (IsBool true w) := by
  obtain ⟨⟨x, k, E⟩, hx⟩ : ∃ r, Pk.getE l0 a1 = r := ⟨_, rfl⟩
  have HX := Lib.hid hx
  clear hx w1
  have Fv_0 := Lib.hid (h0)
  clear h0
  have HB0 := Lib.hid (Below.refl w.heap.size w)
  go_enter Try.func5, Try.ntmps5
  have C1 := Lib.hid (ppget_any l0 _ _ a1 w Fv_0.out (Nat.le_refl _))
  rw [HX.out] at C1
  go_wp2_with (fail)
  refine (C1.out).mono ?_
  rintro e w1 ⟨A1, c1, rfl, o1, b1⟩
  have HB1 := Lib.hid (HB0.out.trans (b1.mono HB0.out.size))
  have Fv_1 := Lib.hid ((Fv_0.out.below_ b1 (Nat.le_refl _)).mono_ b1.size)
  have Fx_1 := Lib.hid (o1.form_)
  clear C1 b1 HB0 Fv_0 o1
  have C2 := Lib.hid (rpget_any _ l0 _ a1 w1 (Nat.le_refl _) Fv_1.out.bv_)
  rw [HX.out] at C2
  go_wp2_with (fail)
  refine (C2.out).mono ?_
  rintro e w2 ⟨A2, c2, rfl, o2, b2⟩
  have HB2 := Lib.hid (HB1.out.trans (b2.mono HB1.out.size))
  have Fv_2 := Lib.hid ((Fv_1.out.below_ b2 (Nat.le_refl _)).mono_ b2.size)
  have Fx_2 := Lib.hid ((Fx_1.out.below_ b2 (Nat.le_refl _)).mono_ b2.size)
  have Fy_2 := Lib.hid (o2.form_)
  clear C2 b2 HB1 Fv_1 Fx_1 o2
  have C3 := Lib.hid (ints_lv _ _ _ _ _ _ w2 Fx_2.out Fy_2.out)
  simp only [decide_true] at C3
  go_wp2_with (fail)
  refine (C3.out).mono ?_
  rintro e w3 ⟨rfl, b3⟩
  have HB3 := Lib.hid (HB2.out.trans (b3.mono HB2.out.size))
  have Fv_3 := Lib.hid ((Fv_2.out.below_ b3 (Nat.le_refl _)).mono_ b3.size)
  have Fx_3 := Lib.hid ((Fx_2.out.below_ b3 (Nat.le_refl _)).mono_ b3.size)
  have Fy_3 := Lib.hid ((Fy_2.out.below_ b3 (Nat.le_refl _)).mono_ b3.size)
  clear C3 b3 HB2 Fv_2 Fx_2 Fy_2
  clear Fv_3
  clear Fx_3
  clear Fy_3
  have C4 := Lib.hid (works_pk w3)
  go_wp2_with (fail)
  refine (C4.out).mono ?_
  rintro e w4 ⟨rfl, b4⟩
  have HB4 := Lib.hid (HB3.out.trans (b4.mono HB3.out.size))
  clear C4 b4 HB3
  go_wp2
  go_ret
  exact ⟨rfl, HB4.out⟩

/-! ### From the walk to the row -/
set_option maxRecDepth 100000 in
theorem lifted (os : Os) (started : os.Started) (H : Type) (enc : TypeId × Value → H) :
    ReturnsInHanded {} Try.checked os 5 .any (Rows.packGetsSpec.pre6 enc Try.prog Try.f5 Rows.packGetsRow.domain false) (Rows.packGetsSpec.post enc Try.prog Try.f5 false true false false) := by
  refine returnsInHanded_of_change (C := Try.checked) own started (by kernel_rfl) Try.func5
    (ChangeSpec.witness6 (enc := enc) (C := Try.checked) false ⟨#[], #[.slice none 0 0, .int .i64 0], []⟩ 8 (by kernel_rfl) (by kernel_rfl) (by kernel_rfl) (by kernel_rfl)) ?_
  intro W base args ds gs before hval0 hW hcnd _
  have hval : ∀ (j : Nat) t v, Try.f5.params[j]? = some t → args[j]? = some v → Value.okWide Try.prog W .any base t v := hval0
  have hW' := hW
  obtain ⟨p, q, hA0, hV, rfl, hfz, hnd⟩ := hW
  have hA : DataW.TrodAll enc Try.prog W 0 (fun _ => true) true Try.f5.params.toList args.toList ds p := hA0
  rw [Try.params5] at hA hval
  obtain ⟨v0, vs0, d0, ds0, p0, q0, hargs, rfl, rfl, h0, r0⟩ := trodAll_cons hA
  obtain ⟨v1, vs1, d1, ds1, p1, q1, rfl, rfl, rfl, h1, r1⟩ := trodAll_cons r0
  obtain ⟨rfl, rfl, rfl⟩ := trodAll_nil r1
  obtain rfl : args = #[v0, v1] := by cases args; simp_all
  obtain ⟨rfl, rfl⟩ := trodVars_none hV
  obtain ⟨a0, len0, cap0, rfl⟩ := okWide_slice Try.underlying28 (hval 0 28 v0 rfl rfl)
  have k0 := h0
  have lt0 : ∀ x ∈ p0, x.block < W.heap.size := by obtain ⟨m, hm⟩ := k0; exact DataW.trod_lt m _ _ _ hm
  obtain ⟨l0, len_0, hb0⟩ : ∃ l : List Nat, l.length = len0 ∧ Lv yK W W.heap.size (.slice a0 len0 cap0) l := by
    obtain ⟨fuel, hf⟩ := h0
    exact octs_in hf
  obtain ⟨a1, rfl, rfl, rfl, w1⟩ := open_int Try.underlying3 (hval 1 3 v1 rfl rfl) h1
  clear hA0 hval0
  refine (walk W (.slice a0 len0 cap0) l0 hb0 a1 w1).mono fun e W' ⟨he, bel⟩ => ?_
  subst he
  exact ⟨_, rfl, _, _, _, [], _, [], hW', trodAll_mk1 (shut_bool Try.underlying4 _), (trodAll_cons_mk (Below.trod laidOut (by kernel_rfl) (of_decide_eq_true (by kernel_rfl)) k0 bel lt0) (trodAll_cons_mk (shut_int Try.underlying3 w1) trodAll_mk0)), rfl, bel.frame _, fun h => by cases h⟩

theorem proved : Rows.PackGetsSaid :=
  OpenClaim.holds_of_wide 5 Try.f5 rfl rfl rfl rfl rfl rfl rfl ⟨rfl, rfl, rfl, rfl, rfl⟩ rfl rfl rfl rfl rfl (by kernel_rfl) Try.func5 (by kernel_rfl)
    (of_decide_eq_true (by kernel_rfl)) (by unfold Func.isWrapper; first | (rw [if_pos (by decide +kernel)]; kernel_rfl) | (rw [if_neg (by decide +kernel)]; exact ⟨rfl, rfl⟩))
    (fun os started H enc _ => lifted os started H enc)

end Go.Proofs.Ytapedjcchcgoeaa.packGets
