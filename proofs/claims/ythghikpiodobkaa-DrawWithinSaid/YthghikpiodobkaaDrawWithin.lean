/-
  DrawWithin: what is drawn below a number is below it; below a power of two it takes one word, and is that word's lowest bits. No condition.
-/
import Derived.Test.YthghikpiodobkaaFrameN
import Derived.Test.YthghikpiodobkaaDrLaw
namespace Go.Proofs.Ythghikpiodobkaa.drawWithin
open Go.ChangeShapes Go.WideShapes Go.ChangeAt Go.RowKit
open Go.ChangeMaps (open_string shut_string)
set_option linter.unusedVariables false

set_option maxHeartbeats 1000000 in
set_option maxRecDepth 100000 in
theorem walk (w : World) (n0 : Nat) (b0 : Mt.B64 n0) (n1 : Nat) (b1 : Mt.B64 n1) :
    Calls Try.prog 8 #[.int .u64 n0, .int .u64 n1] w (IsBool true w) := by
  obtain ⟨s, rfl⟩ := nl_of_u64 b0
  obtain ⟨n, rfl⟩ := nl_of_u64 b1
  have HD := Lib.hid (fun w => pbelow_any s n w)
  have HN := Lib.hid (fun x w => pnext_any x w)
  have HW := Lib.hid (fun w => works_any w)
  by_cases h0 : nl n = 0
  · have HX := Lib.hid (Dr.below_zero s n h0)
    unfold IsBelow at HD
    rw [HX.out, h0] at HD
    rw [h0]
    clear h0
    go_enter Try.func8, Try.ntmps8
    go_wp2_with (fail)
    refine (HD.out _).mono ?_
    rintro e w1 ⟨rfl, rfl⟩
    go_wp2_with (fail)
    refine (HW.out _).mono ?_
    rintro e w1 ⟨rfl, rfl⟩
    go_wp2
    go_ret
    exact ⟨rfl, Below.refl _ _⟩
  · obtain ⟨hlt, he⟩ := Dr.below_lt s n h0
    have s1 : IntKind.u64.wrap (((nl n : Nat) : Int) - (1 : Int)) = ((nl (n - 1#64) : Nat) : Int) := wsub_l n 1#64
    have s2 := and_l n (n - 1#64)
    have hz : (((nl n : Nat) : Int) == 0) = false := by rw [beq_eq_false_iff_ne]; omega
    by_cases hp : nl (n &&& (n - 1#64)) = 0
    · have HX := Lib.hid (Dr.below_pow s n h0 hp)
      unfold IsBelow at HD
      rw [HX.out] at HD hlt
      have hge : ((nl (Dr.mix (s + Dr.gold) &&& (n - 1#64)) : Nat) : Int) < ((nl n : Nat) : Int) := by omega
      have s3 := and_l (Dr.mix (s + Dr.gold)) (n - 1#64)
      have hpz : ((nl (n &&& (n - 1#64)) : Nat) : Int) = 0 := by rw [hp]; rfl
      have HHD := Lib.hid HD
      clear HD he hlt h0 hp HX
      go_enter Try.func8, Try.ntmps8
      go_wp2_with (fail)
      refine (HHD.out.out _).mono ?_
      rintro e w1 ⟨rfl, rfl⟩
      go_wp2_with (fail)
      refine (HN.out _ _).mono ?_
      rintro e w1 ⟨rfl, rfl⟩
      go_wp2_with (fail)
      refine (HW.out _).mono ?_
      rintro e w1 ⟨rfl, rfl⟩
      go_wp2
      go_ret
      exact ⟨rfl, Below.refl _ _⟩
    · unfold IsBelow at HD
      rw [he] at HD
      obtain ⟨k, hk⟩ : ∃ k, (Dr.below s n).1 = k := ⟨_, rfl⟩
      rw [hk] at HD hlt
      have hge : (k : Int) < ((nl n : Nat) : Int) := by omega
      have hpz : (((nl (n &&& (n - 1#64)) : Nat) : Int) == 0) = false := by rw [beq_eq_false_iff_ne]; omega
      clear he hlt h0 hp hk
      go_enter Try.func8, Try.ntmps8
      go_wp2_with (fail)
      refine (HD.out _).mono ?_
      rintro e w1 ⟨rfl, rfl⟩
      go_wp2_with (fail)
      refine (HW.out _).mono ?_
      rintro e w1 ⟨rfl, rfl⟩
      go_wp2
      go_ret
      exact ⟨rfl, Below.refl _ _⟩

/-! ### From the walk to the row -/
set_option maxRecDepth 100000 in
theorem lifted (os : Os) (started : os.Started) (H : Type) (enc : TypeId × Value → H) :
    ReturnsInHanded {} Try.checked os 8 .any (Rows.drawWithinSpec.pre6 enc Try.prog Try.f8 Rows.drawWithinRow.domain false) (Rows.drawWithinSpec.post enc Try.prog Try.f8 false true false false) := by
  refine returnsInHanded_of_change (C := Try.checked) own started (by kernel_rfl) Try.func8
    (ChangeSpec.witness6 (enc := enc) (C := Try.checked) false ⟨#[], #[.int .u64 0, .int .u64 0], []⟩ 8 (by kernel_rfl) (by kernel_rfl) (by kernel_rfl) (by kernel_rfl)) ?_
  intro W base args ds gs before hval0 hW hcnd _
  have hval : ∀ (j : Nat) t v, Try.f8.params[j]? = some t → args[j]? = some v → Value.okWide Try.prog W .any base t v := hval0
  have hW' := hW
  obtain ⟨p, q, hA0, hV, rfl, hfz, hnd⟩ := hW
  have hA : DataW.TrodAll enc Try.prog W 0 (fun _ => true) true Try.f8.params.toList args.toList ds p := hA0
  rw [Try.params8] at hA hval
  obtain ⟨v0, vs0, d0, ds0, p0, q0, hargs, rfl, rfl, h0, r0⟩ := trodAll_cons hA
  obtain ⟨v1, vs1, d1, ds1, p1, q1, rfl, rfl, rfl, h1, r1⟩ := trodAll_cons r0
  obtain ⟨rfl, rfl, rfl⟩ := trodAll_nil r1
  obtain rfl : args = #[v0, v1] := by cases args; simp_all
  obtain ⟨rfl, rfl⟩ := trodVars_none hV
  obtain ⟨a0, rfl, rfl, rfl, w0⟩ := open_int Try.underlying22 (hval 0 22 v0 rfl rfl) h0
  obtain ⟨n0, e0, b0⟩ := u64_nat w0
  subst e0
  obtain ⟨a1, rfl, rfl, rfl, w1⟩ := open_int Try.underlying22 (hval 1 22 v1 rfl rfl) h1
  obtain ⟨n1, e1, b1⟩ := u64_nat w1
  subst e1
  clear hA0 hval0
  refine (walk W n0 b0 n1 b1).mono fun e W' ⟨he, bel⟩ => ?_
  subst he
  exact ⟨_, rfl, _, _, _, [], _, [], hW', trodAll_mk1 (shut_bool Try.underlying4 _), (trodAll_cons_mk (shut_int Try.underlying22 w0) (trodAll_cons_mk (shut_int Try.underlying22 w1) trodAll_mk0)), rfl, bel.frame _, fun h => by cases h⟩

theorem proved : Rows.DrawWithinSaid :=
  OpenClaim.holds_of_wide 8 Try.f8 rfl rfl rfl rfl rfl rfl rfl ⟨rfl, rfl, rfl, rfl, rfl⟩ rfl rfl rfl rfl rfl (by kernel_rfl) Try.func8 (by kernel_rfl)
    (of_decide_eq_true (by kernel_rfl)) (by unfold Func.isWrapper; first | (rw [if_pos (by decide +kernel)]; kernel_rfl) | (rw [if_neg (by decide +kernel)]; exact ⟨rfl, rfl⟩))
    (fun os started H enc _ => lifted os started H enc)

end Go.Proofs.Ythghikpiodobkaa.drawWithin
