/-
  stookref05.Mix, Next.
-/
import Derived.Test.YtggpldghdaggfaaDrMath
namespace Go.Proofs.Ytggpldghdaggfaa
open Go.RowKit
set_option linter.unusedVariables false

/-- A call that answers this word, and turns nothing. -/
def IsL (x : W64) (w : World) (e : Ending) (w' : World) : Prop := e = .returned (.int .u64 (nl x : Nat)) ∧ w = w'

/-! What stands in a walk when a word is mixed. -/
theorem shr30 (z : W64) : ((nl z : Nat) : Int) / (1073741824 : Int) = ((nl (z >>> 30) : Nat) : Int) := shr_l z 30
theorem shr27 (z : W64) : ((nl z : Nat) : Int) / (134217728 : Int) = ((nl (z >>> 27) : Nat) : Int) := shr_l z 27
theorem shr31 (z : W64) : ((nl z : Nat) : Int) / (2147483648 : Int) = ((nl (z >>> 31) : Nat) : Int) := shr_l z 31
theorem xs_l (z : W64) (n : Nat) : bits .xor .u64 ((nl z : Nat) : Int) ((nl (z >>> n) : Nat) : Int) = ((nl (Dr.xs n z) : Nat) : Int) := xor_l z _
theorem mul_first (z : W64) : IntKind.u64.wrap (((nl z : Nat) : Int) * (13787848793156543929 : Int)) = ((nl (z * Dr.first) : Nat) : Int) := wmul_l z Dr.first
theorem mul_other (z : W64) : IntKind.u64.wrap (((nl z : Nat) : Int) * (10723151780598845931 : Int)) = ((nl (z * Dr.other) : Nat) : Int) := wmul_l z Dr.other
theorem add_gold (z : W64) : IntKind.u64.wrap (((nl z : Nat) : Int) + (11400714819323198485 : Int)) = ((nl (z + Dr.gold) : Nat) : Int) := wadd_l z Dr.gold

set_option maxHeartbeats 400000 in
theorem rmix_any (z : W64) (w : World) : Calls Try.prog 49 #[.int .u64 (nl z : Nat)] w (IsL (Dr.mix z) w) := by
  have h1 := shr30 z
  have h2 := xs_l z 30
  have h3 := mul_first (Dr.xs 30 z)
  have h4 := shr27 (Dr.xs 30 z * Dr.first)
  have h5 := xs_l (Dr.xs 30 z * Dr.first) 27
  have h6 := mul_other (Dr.xs 27 (Dr.xs 30 z * Dr.first))
  have h7 := shr31 (Dr.xs 27 (Dr.xs 30 z * Dr.first) * Dr.other)
  have h8 := xs_l (Dr.xs 27 (Dr.xs 30 z * Dr.first) * Dr.other) 31
  go_enter Try.func49, Try.ntmps49
  go_wp2
  go_ret
  exact ⟨by rfl, rfl⟩

/-- A state's word and next state. -/
def IsNext (s : W64) (w : World) (e : Ending) (w' : World) : Prop := e = .returned (.tuple #[.int .u64 (nl (Dr.mix (s + Dr.gold)) : Nat), .int .u64 (nl (s + Dr.gold) : Nat)]) ∧ w = w'
set_option maxHeartbeats 400000 in
theorem rnext_any (s : W64) (w : World) : Calls Try.prog 44 #[.int .u64 (nl s : Nat)] w (IsNext s w) := by
  have h1 := add_gold s
  have HM := Lib.hid (fun w => rmix_any (s + Dr.gold) w)
  go_enter Try.func44, Try.ntmps44
  go_wp2_with (fail)
  refine (HM.out _).mono ?_
  rintro e w1 ⟨rfl, rfl⟩
  go_wp2
  go_ret2
  exact ⟨by rfl, rfl⟩
end Go.Proofs.Ytggpldghdaggfaa
