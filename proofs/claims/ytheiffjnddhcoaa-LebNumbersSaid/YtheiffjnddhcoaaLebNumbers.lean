/-
  LebNumbers: for every number, the bytes that are put are the document's, and so is how many there are. No condition.
-/
import Derived.Test.YtheiffjnddhcoaaFrame
import Derived.Test.YtheiffjnddhcoaaWorks
import Derived.Test.YtheiffjnddhcoaaRPut
namespace Go.Proofs.Ytheiffjnddhcoaa.lebNumbers
open Go.ChangeShapes Go.WideShapes Go.ChangeAt Go.RowKit
open Go.ChangeMaps (open_string shut_string)
set_option linter.unusedVariables false

set_option maxHeartbeats 1000000 in
set_option maxRecDepth 100000 in
theorem walk (w : World) (n0 : Nat) (b0 : Mt.B64 n0) :
    Calls Try.prog 3 #[.int .u64 n0] w (IsBool true w) := by
  have hlen := Mt.put_len_le n0
  have HB0 := Lib.hid b0
  have h9 : n0 < 128 ^ (9 + 1) := by unfold Mt.B64 at b0; omega
  have HR := Lib.hid (rput_any 9 n0 w h9 b0)
  clear h9 b0
  go_enter Try.func3, Try.ntmps3
  go_wp2_with fail
  ((with_reducible refine HR.out.mono ?_); rintro e w1 ⟨A, c, rfl, ho, hb⟩)
  clear HR
  have HO := Lib.hid ho.form_
  have HB := Lib.hid hb
  clear ho hb
  go_wp2_with fail
  ((with_reducible refine (put_any n0 HB0.out _).mono ?_); rintro e w2 ⟨A2, c2, rfl, ho2, hb2⟩)
  have HS := Lib.hid (same_bv _ _ _ _ _ _ w2 ho2.form_ (HO.out.below_ hb2 (Nat.le_refl _)))
  have HB2 := Lib.hid (HB.out.trans (hb2.mono HB.out.size))
  clear ho2 hb2 HO HB
  go_wp2_with fail
  ((with_reducible refine HS.out.mono ?_); rintro e w3 ⟨he, hb3⟩)
  simp only [decide_true] at he
  subst he
  have HB3 := Lib.hid (HB2.out.trans (hb3.mono HB2.out.size))
  clear HS hb3 HB2
  go_wp2_with (go_at_call 17; refine (len_any _ HB0.out _).mono ?_; rintro e w' ⟨rfl, rfl⟩)
  have HW := Lib.hid (works_any w3)
  go_wp2_with fail
  ((with_reducible refine HW.out.mono ?_); rintro e w4 ⟨rfl, hb4⟩)
  go_wp2
  go_ret
  exact ⟨rfl, HB3.out.trans (hb4.mono HB3.out.size)⟩

/-! ### From the walk to the row -/
set_option maxRecDepth 100000 in
theorem lifted (os : Os) (started : os.Started) (H : Type) (enc : TypeId × Value → H) :
    ReturnsInHanded {} Try.checked os 3 .any (Rows.lebNumbersSpec.pre6 enc Try.prog Try.f3 Rows.lebNumbersRow.domain false) (Rows.lebNumbersSpec.post enc Try.prog Try.f3 false true false false) := by
  refine returnsInHanded_of_change (C := Try.checked) own started (by kernel_rfl) Try.func3
    (ChangeSpec.witness6 (enc := enc) (C := Try.checked) false ⟨#[], #[.int .u64 0], []⟩ 8 (by kernel_rfl) (by kernel_rfl) (by kernel_rfl) (by kernel_rfl)) ?_
  intro W base args ds gs before hval0 hW hcnd _
  have hval : ∀ (j : Nat) t v, Try.f3.params[j]? = some t → args[j]? = some v → Value.okWide Try.prog W .any base t v := hval0
  have hW' := hW
  obtain ⟨p, q, hA0, hV, rfl, hfz, hnd⟩ := hW
  have hA : DataW.TrodAll enc Try.prog W 0 (fun _ => true) true Try.f3.params.toList args.toList ds p := hA0
  rw [Try.params3] at hA hval
  obtain ⟨v0, vs0, d0, ds0, p0, q0, hargs, rfl, rfl, h0, r0⟩ := trodAll_cons hA
  obtain ⟨rfl, rfl, rfl⟩ := trodAll_nil r0
  obtain rfl : args = #[v0] := by cases args; simp_all
  obtain ⟨rfl, rfl⟩ := trodVars_none hV
  obtain ⟨a0, rfl, rfl, rfl, w0⟩ := open_int Try.underlying22 (hval 0 22 v0 rfl rfl) h0
  obtain ⟨n0, e0, b0⟩ := u64_nat w0
  subst e0
  clear hA0 hval0
  refine (walk W n0 b0).mono fun e W' ⟨he, bel⟩ => ?_
  subst he
  exact ⟨_, rfl, _, _, _, [], _, [], hW', trodAll_mk1 (shut_bool Try.underlying4 _), (trodAll_cons_mk (shut_int Try.underlying22 w0) trodAll_mk0), rfl, bel.frame _, fun h => by cases h⟩

theorem proved : Rows.LebNumbersSaid :=
  OpenClaim.holds_of_wide 3 Try.f3 rfl rfl rfl rfl rfl rfl rfl ⟨rfl, rfl, rfl, rfl, rfl⟩ rfl rfl rfl rfl rfl (by kernel_rfl) Try.func3 (by kernel_rfl)
    (of_decide_eq_true (by kernel_rfl)) (by unfold Func.isWrapper; first | (rw [if_pos (by decide +kernel)]; kernel_rfl) | (rw [if_neg (by decide +kernel)]; exact ⟨rfl, rfl⟩))
    (fun os started H enc _ => lifted os started H enc)

end Go.Proofs.Ytheiffjnddhcoaa.lebNumbers
