/-
  LebLens: for every two numbers, the one that is not less has no fewer bytes; there are one to ten; ten just from 2^63 on. No condition.
-/
import Derived.Test.YtheiffjnddhcoaaFrame
import Derived.Test.YtheiffjnddhcoaaWorks
namespace Go.Proofs.Ytheiffjnddhcoaa.lebLens
open Go.ChangeShapes Go.WideShapes Go.ChangeAt Go.RowKit
open Go.ChangeMaps (open_string shut_string)
set_option linter.unusedVariables false

set_option maxHeartbeats 1000000 in
set_option maxRecDepth 100000 in
theorem walk (w : World) (n0 : Nat) (b0 : Mt.B64 n0) (n1 : Nat) (b1 : Mt.B64 n1) :
    Calls Try.prog 12 #[.int .u64 n0, .int .u64 n1] w (IsBool true w) := by
  have HW := Lib.hid (works_any w)
  have h1 := Mt.put_len_pos n0
  have h2 := Mt.put_len_le n0
  have h10 := Mt.put_ten n0
  have hm1 := Mt.put_mono (n := n0) (m := n1)
  have hm2 := Mt.put_mono (n := n1) (m := n0)
  have HQ : Hid ((((((Mt.put n0).length : Nat) : Int) == 10) == decide ((9223372036854775808 : Int) ≤ (n0 : Int))) = true) := by
    unfold Hid
    by_cases h : (Mt.put n0).length = 10
    · have := h10.1 h
      simp [h]; omega
    · have h' : ¬ 9223372036854775808 ≤ n0 := fun e => h (h10.2 e)
      have e1 : ((((Mt.put n0).length : Nat) : Int) == 10) = false := by simp; omega
      rw [e1]
      simp; omega
  clear h10
  have HL := Lib.hid (len_any n0 b0 w)
  have HL1 := Lib.hid (len_any n1 b1 w)
  clear b0 b1
  by_cases c1 : n1 < n0
  · have h3 := hm2 (by omega)
    have c1' : ¬ n0 < n1 := by omega
    clear hm1 hm2
    go_enter Try.func12, Try.ntmps12
    go_wp2_with fail
    ((with_reducible refine HL.out.mono ?_); rintro e w1 ⟨rfl, rfl⟩)
    go_wp2_with fail
    ((with_reducible refine HL1.out.mono ?_); rintro e w1 ⟨rfl, rfl⟩)
    have HQ2 := HQ.out
    go_wp2_with fail
    ((with_reducible refine HW.out.mono ?_); rintro e w1 ⟨rfl, hb⟩)
    go_wp2
    go_ret
    exact ⟨rfl, hb⟩
  · by_cases c2 : n0 < n1
    · have h3 := hm1 (by omega)
      clear hm1 hm2
      go_enter Try.func12, Try.ntmps12
      go_wp2_with fail
      ((with_reducible refine HL.out.mono ?_); rintro e w1 ⟨rfl, rfl⟩)
      go_wp2_with fail
      ((with_reducible refine HL1.out.mono ?_); rintro e w1 ⟨rfl, rfl⟩)
      have HQ2 := HQ.out
      go_wp2_with fail
      ((with_reducible refine HW.out.mono ?_); rintro e w1 ⟨rfl, hb⟩)
      go_wp2
      go_ret
      exact ⟨rfl, hb⟩
    · obtain rfl : n0 = n1 := by omega
      clear hm1 hm2
      go_enter Try.func12, Try.ntmps12
      go_wp2_with fail
      ((with_reducible refine HL.out.mono ?_); rintro e w1 ⟨rfl, rfl⟩)
      go_wp2_with fail
      ((with_reducible refine HL.out.mono ?_); rintro e w1 ⟨rfl, rfl⟩)
      have HQ2 := HQ.out
      go_wp2_with fail
      ((with_reducible refine HW.out.mono ?_); rintro e w1 ⟨rfl, hb⟩)
      go_wp2
      go_ret
      exact ⟨rfl, hb⟩

/-! ### From the walk to the row -/
set_option maxRecDepth 100000 in
theorem lifted (os : Os) (started : os.Started) (H : Type) (enc : TypeId × Value → H) :
    ReturnsInHanded {} Try.checked os 12 .any (Rows.lebLensSpec.pre6 enc Try.prog Try.f12 Rows.lebLensRow.domain false) (Rows.lebLensSpec.post enc Try.prog Try.f12 false true false false) := by
  refine returnsInHanded_of_change (C := Try.checked) own started (by kernel_rfl) Try.func12
    (ChangeSpec.witness6 (enc := enc) (C := Try.checked) false ⟨#[], #[.int .u64 0, .int .u64 0], []⟩ 8 (by kernel_rfl) (by kernel_rfl) (by kernel_rfl) (by kernel_rfl)) ?_
  intro W base args ds gs before hval0 hW hcnd _
  have hval : ∀ (j : Nat) t v, Try.f12.params[j]? = some t → args[j]? = some v → Value.okWide Try.prog W .any base t v := hval0
  have hW' := hW
  obtain ⟨p, q, hA0, hV, rfl, hfz, hnd⟩ := hW
  have hA : DataW.TrodAll enc Try.prog W 0 (fun _ => true) true Try.f12.params.toList args.toList ds p := hA0
  rw [Try.params12] at hA hval
  obtain ⟨v0, vs0, d0, ds0, p0, q0, hargs, rfl, rfl, h0, r0⟩ := trodAll_cons hA
  obtain ⟨v1, vs1, d1, ds1, p1, q1, rfl, rfl, rfl, h1, r1⟩ := trodAll_cons r0
  obtain ⟨rfl, rfl, rfl⟩ := trodAll_nil r1
  obtain rfl : args = #[v0, v1] := by cases args; simp_all
  obtain ⟨rfl, rfl⟩ := trodVars_none hV
  obtain ⟨a0, rfl, rfl, rfl, w0⟩ := open_int Try.underlying22 (hval 0 22 v0 rfl rfl) h0
  obtain ⟨n0, e0, b0⟩ := u64_nat w0
  subst e0
  obtain ⟨a1, rfl, rfl, rfl, w1⟩ := open_int Try.underlying22 (hval 1 22 v1 rfl rfl) h1
  obtain ⟨n1, e1, b1⟩ := u64_nat w1
  subst e1
  clear hA0 hval0
  refine (walk W n0 b0 n1 b1).mono fun e W' ⟨he, bel⟩ => ?_
  subst he
  exact ⟨_, rfl, _, _, _, [], _, [], hW', trodAll_mk1 (shut_bool Try.underlying4 _), (trodAll_cons_mk (shut_int Try.underlying22 w0) (trodAll_cons_mk (shut_int Try.underlying22 w1) trodAll_mk0)), rfl, bel.frame _, fun h => by cases h⟩

theorem proved : Rows.LebLensSaid :=
  OpenClaim.holds_of_wide 12 Try.f12 rfl rfl rfl rfl rfl rfl rfl ⟨rfl, rfl, rfl, rfl, rfl⟩ rfl rfl rfl rfl rfl (by kernel_rfl) Try.func12 (by kernel_rfl)
    (of_decide_eq_true (by kernel_rfl)) (by unfold Func.isWrapper; first | (rw [if_pos (by decide +kernel)]; kernel_rfl) | (rw [if_neg (by decide +kernel)]; exact ⟨rfl, rfl⟩))
    (fun os started H enc _ => lifted os started H enc)

end Go.Proofs.Ytheiffjnddhcoaa.lebLens
