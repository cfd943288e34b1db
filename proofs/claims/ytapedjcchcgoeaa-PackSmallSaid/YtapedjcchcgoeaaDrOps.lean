/-
  Words of 64 bits as the model's numbers: what Go's operations make of them.
-/
import Derived.Test.YtapedjcchcgoeaaProg
import Derived.WalkKit
import Derived.Outline
import Derived.Below
import Derived.Lib.Hide
namespace Go.Proofs.Ytapedjcchcgoeaa
open Go.RowKit
set_option linter.unusedVariables false

abbrev W64 := BitVec 64
/-- A word's number: BitVec.toNat, out of the reach of what simp knows of it. -/
def nl (x : W64) : Nat := x.toNat
theorem nl_lt (x : W64) : nl x < 18446744073709551616 := x.isLt
theorem nl_inj {x y : W64} (h : nl x = nl y) : x = y := BitVec.eq_of_toNat_eq h
theorem nl_of {n : Nat} (h : n < 18446744073709551616) : nl (BitVec.ofNat 64 n) = n := by unfold nl; rw [BitVec.toNat_ofNat]; omega
theorem of_nl (x : W64) : BitVec.ofNat 64 (nl x) = x := by apply nl_inj; rw [nl_of (nl_lt x)]
theorem of_int64 (x : W64) : BitVec.ofInt 64 ((nl x : Nat) : Int) = x := by
  rw [BitVec.ofInt_natCast]; simp [nl]
theorem wrap_nl (x : W64) : IntKind.u64.wrap ((nl x : Nat) : Int) = ((nl x : Nat) : Int) := by
  have := nl_lt x
  rw [IntKind.wrap_u64]; omega
theorem xor_l (x y : W64) : bits .xor .u64 ((nl x : Nat) : Int) ((nl y : Nat) : Int) = ((nl (x ^^^ y) : Nat) : Int) := by
  show IntKind.u64.wrap ((BitVec.ofInt 64 ((nl x : Nat) : Int) ^^^ BitVec.ofInt 64 ((nl y : Nat) : Int)).toNat : Int) = _
  rw [of_int64, of_int64]
  exact wrap_nl _
theorem and_l (x y : W64) : bits .and .u64 ((nl x : Nat) : Int) ((nl y : Nat) : Int) = ((nl (x &&& y) : Nat) : Int) := by
  show IntKind.u64.wrap ((BitVec.ofInt 64 ((nl x : Nat) : Int) &&& BitVec.ofInt 64 ((nl y : Nat) : Int)).toNat : Int) = _
  rw [of_int64, of_int64]
  exact wrap_nl _
theorem or_l (x y : W64) : bits .or .u64 ((nl x : Nat) : Int) ((nl y : Nat) : Int) = ((nl (x ||| y) : Nat) : Int) := by
  show IntKind.u64.wrap ((BitVec.ofInt 64 ((nl x : Nat) : Int) ||| BitVec.ofInt 64 ((nl y : Nat) : Int)).toNat : Int) = _
  rw [of_int64, of_int64]
  exact wrap_nl _
theorem add_l (x y : W64) : (((nl x : Nat) : Int) + ((nl y : Nat) : Int)) % 18446744073709551616 = ((nl (x + y) : Nat) : Int) := by
  unfold nl
  rw [BitVec.toNat_add]; omega
theorem mul_l (x y : W64) : (((nl x : Nat) : Int) * ((nl y : Nat) : Int)) % 18446744073709551616 = ((nl (x * y) : Nat) : Int) := by
  unfold nl
  rw [BitVec.toNat_mul, Int.natCast_emod, Int.natCast_mul]
  rfl
theorem sub_l (x y : W64) : (((nl x : Nat) : Int) - ((nl y : Nat) : Int)) % 18446744073709551616 = ((nl (x - y) : Nat) : Int) := by
  have hx := nl_lt x
  have hy := nl_lt y
  unfold nl at *
  rw [BitVec.toNat_sub]; omega
theorem wadd_l (x y : W64) : IntKind.u64.wrap (((nl x : Nat) : Int) + ((nl y : Nat) : Int)) = ((nl (x + y) : Nat) : Int) := by rw [IntKind.wrap_u64]; exact add_l x y
theorem wmul_l (x y : W64) : IntKind.u64.wrap (((nl x : Nat) : Int) * ((nl y : Nat) : Int)) = ((nl (x * y) : Nat) : Int) := by rw [IntKind.wrap_u64]; exact mul_l x y
theorem wsub_l (x y : W64) : IntKind.u64.wrap (((nl x : Nat) : Int) - ((nl y : Nat) : Int)) = ((nl (x - y) : Nat) : Int) := by rw [IntKind.wrap_u64]; exact sub_l x y
theorem shr_l (x : W64) (n : Nat) : ((nl x : Nat) : Int) / 2 ^ n = ((nl (x >>> n) : Nat) : Int) := by
  unfold nl
  rw [BitVec.toNat_ushiftRight, Nat.shiftRight_eq_div_pow]
  simp
theorem shl_l (x : W64) (n : Nat) : ((nl x : Nat) : Int) * 2 ^ n % 18446744073709551616 = ((nl (x <<< n) : Nat) : Int) := by
  unfold nl
  rw [BitVec.toNat_shiftLeft, Nat.shiftLeft_eq]
  simp
theorem wshl_l (x : W64) (n : Nat) : IntKind.u64.wrap (((nl x : Nat) : Int) * 2 ^ n) = ((nl (x <<< n) : Nat) : Int) := by rw [IntKind.wrap_u64]; exact shl_l x n
theorem nl_of_u64 {n : Nat} (h : n < 18446744073709551616) : ∃ x : W64, nl x = n := ⟨BitVec.ofNat 64 n, nl_of h⟩
theorem nl_eq (x y : W64) : (((nl x : Nat) : Int) == ((nl y : Nat) : Int)) = decide (x = y) := by
  by_cases h : x = y
  · subst h; simp
  · have : nl x ≠ nl y := fun e => h (nl_inj e)
    simp [h]; omega
end Go.Proofs.Ytapedjcchcgoeaa
