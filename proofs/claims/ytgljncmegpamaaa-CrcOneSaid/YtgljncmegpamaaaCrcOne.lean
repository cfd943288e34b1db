/-
  CrcOne: for every two numbers and every byte: unlike numbers are unlike behind a step, and behind a byte that is taken in. No condition.
-/
import Derived.Test.YtgljncmegpamaaaCFrame
import Derived.Test.YtgljncmegpamaaaCWorks
namespace Go.Proofs.Ytgljncmegpamaaa.crcOne
open Go.ChangeShapes Go.WideShapes Go.ChangeAt Go.RowKit
open Go.ChangeMaps (open_string shut_string)
set_option linter.unusedVariables false

theorem eqb {a b : Nat} (h : a ≠ b) : ((a : Int) == (b : Int)) = false := by rw [beq_eq_false_iff_ne]; omega

set_option maxHeartbeats 1000000 in
set_option maxRecDepth 100000 in
theorem walk_same (w : World) (n0 : Nat) (b0 : Cr.B32 n0) (n2 : Nat) (b2 : n2 < 256) :
    Calls Try.prog 8 #[.int .u32 n0, .int .u32 n0, .int .u8 n2] w (IsBool true w) := by
  have H1 := Lib.hid (step_any n0 b0 w)
  have H3 := Lib.hid (take_any n0 n2 b0 b2 w)
  have HW := Lib.hid (works_any w)
  go_enter Try.func8, Try.ntmps8
  go_wp2_with (first
    | (go_at_call 10; refine H1.out.mono ?_; rintro e w' ⟨rfl, rfl⟩)
    | (go_at_call 12; refine H3.out.mono ?_; rintro e w' ⟨rfl, rfl⟩)
    | (go_at_call 14; refine HW.out.mono ?_; rintro e w2 ⟨rfl, hb⟩))
  go_ret
  exact ⟨rfl, hb⟩

set_option maxHeartbeats 1000000 in
set_option maxRecDepth 100000 in
theorem walk (w : World) (n0 : Nat) (b0 : Cr.B32 n0) (n1 : Nat) (b1 : Cr.B32 n1) (n2 : Nat) (b2 : n2 < 256) :
    Calls Try.prog 8 #[.int .u32 n0, .int .u32 n1, .int .u8 n2] w (IsBool true w) := by
  by_cases h : n0 = n1
  · subst h; exact walk_same w n0 b0 n2 b2
  have H1 := Lib.hid (step_any n0 b0 w)
  have H2 := Lib.hid (step_any n1 b1 w)
  have H3 := Lib.hid (take_any n0 n2 b0 b2 w)
  have H4 := Lib.hid (take_any n1 n2 b1 b2 w)
  have HW := Lib.hid (works_any w)
  have q1 := eqb h
  have q2 := eqb (fun e => h (Cr.step_inj b0 b1 e))
  have q3 := eqb (fun e => h (Cr.take_inj b0 b1 b2 e))
  obtain ⟨s0, e1⟩ : ∃ s, Cr.step n0 = s := ⟨_, rfl⟩
  obtain ⟨s1, e2⟩ : ∃ s, Cr.step n1 = s := ⟨_, rfl⟩
  obtain ⟨t0, e3⟩ : ∃ s, Cr.take n0 n2 = s := ⟨_, rfl⟩
  obtain ⟨t1, e4⟩ : ∃ s, Cr.take n1 n2 = s := ⟨_, rfl⟩
  rw [e1] at H1 q2
  rw [e2] at H2 q2
  rw [e3] at H3 q3
  rw [e4] at H4 q3
  clear e1 e2 e3 e4 h b0 b1 b2
  go_enter Try.func8, Try.ntmps8
  go_wp2_with fail
  ((with_reducible refine H1.out.mono ?_); rintro e w' ⟨rfl, rfl⟩)
  go_wp2_with fail
  ((with_reducible refine H2.out.mono ?_); rintro e w' ⟨rfl, rfl⟩)
  go_wp2_with fail
  ((with_reducible refine H3.out.mono ?_); rintro e w' ⟨rfl, rfl⟩)
  go_wp2_with fail
  ((with_reducible refine H4.out.mono ?_); rintro e w' ⟨rfl, rfl⟩)
  go_wp2_with fail
  ((with_reducible refine HW.out.mono ?_); rintro e w2 ⟨rfl, hb⟩)
  go_wp2
  go_ret
  exact ⟨rfl, hb⟩

/-! ### From the walk to the row -/
set_option maxRecDepth 100000 in
theorem lifted (os : Os) (started : os.Started) (H : Type) (enc : TypeId × Value → H) :
    ReturnsInHanded {} Try.checked os 8 .any (Rows.crcOneSpec.pre6 enc Try.prog Try.f8 Rows.crcOneRow.domain false) (Rows.crcOneSpec.post enc Try.prog Try.f8 false true false false) := by
  refine returnsInHanded_of_change (C := Try.checked) own started (by kernel_rfl) Try.func8
    (ChangeSpec.witness6 (enc := enc) (C := Try.checked) false ⟨#[], #[.int .u32 0, .int .u32 0, .int .u8 0], []⟩ 8 (by kernel_rfl) (by kernel_rfl) (by kernel_rfl) (by kernel_rfl)) ?_
  intro W base args ds gs before hval0 hW hcnd _
  have hval : ∀ (j : Nat) t v, Try.f8.params[j]? = some t → args[j]? = some v → Value.okWide Try.prog W .any base t v := hval0
  have hW' := hW
  obtain ⟨p, q, hA0, hV, rfl, hfz, hnd⟩ := hW
  have hA : DataW.TrodAll enc Try.prog W 0 (fun _ => true) true Try.f8.params.toList args.toList ds p := hA0
  rw [Try.params8] at hA hval
  obtain ⟨v0, vs0, d0, ds0, p0, q0, hargs, rfl, rfl, h0, r0⟩ := trodAll_cons hA
  obtain ⟨v1, vs1, d1, ds1, p1, q1, rfl, rfl, rfl, h1, r1⟩ := trodAll_cons r0
  obtain ⟨v2, vs2, d2, ds2, p2, q2, rfl, rfl, rfl, h2, r2⟩ := trodAll_cons r1
  obtain ⟨rfl, rfl, rfl⟩ := trodAll_nil r2
  obtain rfl : args = #[v0, v1, v2] := by cases args; simp_all
  obtain ⟨rfl, rfl⟩ := trodVars_none hV
  obtain ⟨a0, rfl, rfl, rfl, w0⟩ := open_int Try.underlying22 (hval 0 22 v0 rfl rfl) h0
  obtain ⟨n0, e0, b0⟩ := u32_nat w0
  subst e0
  obtain ⟨a1, rfl, rfl, rfl, w1⟩ := open_int Try.underlying22 (hval 1 22 v1 rfl rfl) h1
  obtain ⟨n1, e1, b1⟩ := u32_nat w1
  subst e1
  obtain ⟨a2, rfl, rfl, rfl, w2⟩ := open_int Try.underlying5 (hval 2 5 v2 rfl rfl) h2
  obtain ⟨n2, e2, b2⟩ := u8_nat w2
  subst e2
  clear hA0 hval0
  refine (walk W n0 b0 n1 b1 n2 b2).mono fun e W' ⟨he, bel⟩ => ?_
  subst he
  exact ⟨_, rfl, _, _, _, [], _, [], hW', trodAll_mk1 (shut_bool Try.underlying4 _), (trodAll_cons_mk (shut_int Try.underlying22 w0) (trodAll_cons_mk (shut_int Try.underlying22 w1) (trodAll_cons_mk (shut_int Try.underlying5 w2) trodAll_mk0))), rfl, bel.frame _, fun h => by cases h⟩

theorem proved : Rows.CrcOneSaid :=
  OpenClaim.holds_of_wide 8 Try.f8 rfl rfl rfl rfl rfl rfl rfl ⟨rfl, rfl, rfl, rfl, rfl⟩ rfl rfl rfl rfl rfl (by kernel_rfl) Try.func8 (by kernel_rfl)
    (of_decide_eq_true (by kernel_rfl)) (by unfold Func.isWrapper; first | (rw [if_pos (by decide +kernel)]; kernel_rfl) | (rw [if_neg (by decide +kernel)]; exact ⟨rfl, rfl⟩))
    (fun os started H enc _ => lifted os started H enc)

end Go.Proofs.Ytgljncmegpamaaa.crcOne
