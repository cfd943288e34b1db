/-
  PackFolds: a number with a sign becomes one without, and back, as the document says. No condition.
-/
import Derived.Test.YtapedjcchcgoeaaFrameN
import Derived.Test.YtapedjcchcgoeaaPkLaw
namespace Go.Proofs.Ytapedjcchcgoeaa.packFolds
open Go.ChangeShapes Go.WideShapes Go.ChangeAt Go.RowKit
open Go.ChangeMaps (open_string shut_string)
set_option linter.unusedVariables false

set_option maxHeartbeats 2000000 in
set_option maxRecDepth 100000 in
theorem walk (w : World) (a0 : Int) (w0 : (Lit.int .i64 a0).wf = true) (n1 : Nat) (b1 : Mt.B64 n1) :
    Calls Try.prog 3 #[.int .i64 a0, .int .u64 (n1 : Nat)] w (IsBool true w) := by
  have hI : I64 a0 := by have h := bounds_i64 w0; unfold I64; omega
  have HI := Lib.hid hI
  have HU : Hid (n1 < 18446744073709551616) := by unfold Mt.B64 at b1; unfold Hid; omega
  clear hI w0 b1
  have DN : ∀ {P : Program} {f : Nat} {ar : Array Value} {w : World} {x : Ending}, Calls P f ar w (fun e w' => e = x ∧ w = w') → Calls P f ar w (fun e w' => e = x ∧ Below w.heap.size w w') := fun h => h.mono fun e w' h => ⟨h.1, h.2 ▸ Below.refl _ _⟩
  have HB0 := Lib.hid (Below.refl w.heap.size w)
  go_enter Try.func3, Try.ntmps3
  have C1 := Lib.hid (DN (pfold_any a0 HI.out w))
  go_wp2_with (fail)
  refine (C1.out).mono ?_
  rintro e w1 ⟨rfl, b1⟩
  have HB1 := Lib.hid (HB0.out.trans (b1.mono HB0.out.size))
  clear C1 b1 HB0
  have C2 := Lib.hid (DN (rfold_any a0 HI.out w1))
  go_wp2_with (fail)
  refine (C2.out).mono ?_
  rintro e w2 ⟨rfl, b2⟩
  have HB2 := Lib.hid (HB1.out.trans (b2.mono HB1.out.size))
  clear C2 b2 HB1
  have C3 := Lib.hid (DN (punfold_any n1 HU.out w2))
  go_wp2_with (fail)
  refine (C3.out).mono ?_
  rintro e w3 ⟨rfl, b3⟩
  have HB3 := Lib.hid (HB2.out.trans (b3.mono HB2.out.size))
  clear C3 b3 HB2
  have C4 := Lib.hid (DN (runfold_any n1 HU.out w3))
  go_wp2_with (fail)
  refine (C4.out).mono ?_
  rintro e w4 ⟨rfl, b4⟩
  have HB4 := Lib.hid (HB3.out.trans (b4.mono HB3.out.size))
  clear C4 b4 HB3
  have C5 := Lib.hid (works_pk w4)
  go_wp2_with (fail)
  refine (C5.out).mono ?_
  rintro e w5 ⟨rfl, b5⟩
  have HB5 := Lib.hid (HB4.out.trans (b5.mono HB4.out.size))
  clear C5 b5 HB4
  go_wp2
  go_ret
  exact ⟨rfl, HB5.out⟩

/-! ### From the walk to the row -/
set_option maxRecDepth 100000 in
theorem lifted (os : Os) (started : os.Started) (H : Type) (enc : TypeId × Value → H) :
    ReturnsInHanded {} Try.checked os 3 .any (Rows.packFoldsSpec.pre6 enc Try.prog Try.f3 Rows.packFoldsRow.domain false) (Rows.packFoldsSpec.post enc Try.prog Try.f3 false true false false) := by
  refine returnsInHanded_of_change (C := Try.checked) own started (by kernel_rfl) Try.func3
    (ChangeSpec.witness6 (enc := enc) (C := Try.checked) false ⟨#[], #[.int .i64 0, .int .u64 0], []⟩ 8 (by kernel_rfl) (by kernel_rfl) (by kernel_rfl) (by kernel_rfl)) ?_
  intro W base args ds gs before hval0 hW hcnd _
  have hval : ∀ (j : Nat) t v, Try.f3.params[j]? = some t → args[j]? = some v → Value.okWide Try.prog W .any base t v := hval0
  have hW' := hW
  obtain ⟨p, q, hA0, hV, rfl, hfz, hnd⟩ := hW
  have hA : DataW.TrodAll enc Try.prog W 0 (fun _ => true) true Try.f3.params.toList args.toList ds p := hA0
  rw [Try.params3] at hA hval
  obtain ⟨v0, vs0, d0, ds0, p0, q0, hargs, rfl, rfl, h0, r0⟩ := trodAll_cons hA
  obtain ⟨v1, vs1, d1, ds1, p1, q1, rfl, rfl, rfl, h1, r1⟩ := trodAll_cons r0
  obtain ⟨rfl, rfl, rfl⟩ := trodAll_nil r1
  obtain rfl : args = #[v0, v1] := by cases args; simp_all
  obtain ⟨rfl, rfl⟩ := trodVars_none hV
  obtain ⟨a0, rfl, rfl, rfl, w0⟩ := open_int Try.underlying2 (hval 0 2 v0 rfl rfl) h0
  obtain ⟨a1, rfl, rfl, rfl, w1⟩ := open_int Try.underlying22 (hval 1 22 v1 rfl rfl) h1
  obtain ⟨n1, e1, b1⟩ := u64_nat w1
  subst e1
  clear hA0 hval0
  refine (walk W a0 w0 n1 b1).mono fun e W' ⟨he, bel⟩ => ?_
  subst he
  exact ⟨_, rfl, _, _, _, [], _, [], hW', trodAll_mk1 (shut_bool Try.underlying4 _), (trodAll_cons_mk (shut_int Try.underlying2 w0) (trodAll_cons_mk (shut_int Try.underlying22 w1) trodAll_mk0)), rfl, bel.frame _, fun h => by cases h⟩

theorem proved : Rows.PackFoldsSaid :=
  OpenClaim.holds_of_wide 3 Try.f3 rfl rfl rfl rfl rfl rfl rfl ⟨rfl, rfl, rfl, rfl, rfl⟩ rfl rfl rfl rfl rfl (by kernel_rfl) Try.func3 (by kernel_rfl)
    (of_decide_eq_true (by kernel_rfl)) (by unfold Func.isWrapper; first | (rw [if_pos (by decide +kernel)]; kernel_rfl) | (rw [if_neg (by decide +kernel)]; exact ⟨rfl, rfl⟩))
    (fun os started H enc _ => lifted os started H enc)

end Go.Proofs.Ytapedjcchcgoeaa.packFolds
