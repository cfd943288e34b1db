/-
  Exclusive or with all bits, with none.
-/
import Derived.Test.YtapedjcchcgoeaaDrOps
import Derived.Test.YtapedjcchcgoeaaPkMath
namespace Go.Proofs.Ytapedjcchcgoeaa
open Go.RowKit
set_option linter.unusedVariables false
namespace Pk
theorem ofInt_nat (m : Nat) : BitVec.ofInt 64 (m : Int) = BitVec.ofNat 64 m := BitVec.ofInt_natCast ..
theorem xor_none (m : Nat) (h : m < 18446744073709551616) : bits .xor .u64 (m : Int) 0 = (m : Int) := by
  obtain ⟨x, rfl⟩ := nl_of_u64 h
  have h1 := xor_l x 0#64
  have h2 : ((nl 0#64 : Nat) : Int) = 0 := rfl
  rw [h2] at h1
  rw [h1, BitVec.xor_zero]
theorem not_nl (x : W64) : nl (x ^^^ BitVec.allOnes 64) = 18446744073709551615 - nl x := by
  rw [BitVec.xor_allOnes]
  unfold nl
  rw [BitVec.toNat_not]
theorem ones_nl : nl (BitVec.allOnes 64) = 18446744073709551615 := by decide
theorem xor_all (m : Nat) (h : m < 18446744073709551616) : bits .xor .u64 (m : Int) 18446744073709551615 = ((18446744073709551615 - m : Nat) : Int) := by
  obtain ⟨x, rfl⟩ := nl_of_u64 h
  have h1 := xor_l x (BitVec.allOnes 64)
  rw [ones_nl, not_nl] at h1
  exact h1
theorem ixor_none (m : Nat) (h : m < 9223372036854775808) : bits .xor .i64 (m : Int) 0 = (m : Int) := by
  show IntKind.i64.wrap ((BitVec.ofInt 64 (m : Int) ^^^ BitVec.ofInt 64 0).toNat : Int) = _
  have h0 : BitVec.ofInt 64 0 = 0#64 := rfl
  rw [h0, BitVec.xor_zero, ofInt_nat, BitVec.toNat_ofNat, IntKind.wrap_i64]
  omega
theorem ixor_all (m : Nat) (h : m < 9223372036854775808) : bits .xor .i64 (m : Int) (-1) = -(m : Int) - 1 := by
  show IntKind.i64.wrap ((BitVec.ofInt 64 (m : Int) ^^^ BitVec.ofInt 64 (-1)).toNat : Int) = _
  have h0 : BitVec.ofInt 64 (-1) = BitVec.allOnes 64 := by decide
  rw [h0, BitVec.xor_allOnes, BitVec.toNat_not, ofInt_nat, BitVec.toNat_ofNat, IntKind.wrap_i64]
  omega
theorem and_one (u : Nat) (h : u < 18446744073709551616) : bits .and .u64 (u : Int) 1 = ((u % 2 : Nat) : Int) := by
  obtain ⟨x, rfl⟩ := nl_of_u64 h
  have h1 := and_l x 1#64
  have h2 : ((nl 1#64 : Nat) : Int) = 1 := rfl
  rw [h2] at h1
  rw [h1]
  unfold nl
  rw [BitVec.toNat_and]
  show ((x.toNat &&& 1 : Nat) : Int) = _
  rw [Nat.and_one_is_mod]
theorem fold_pos {n : Int} (h0 : 0 ≤ n) (h1 : n < 9223372036854775808) : bits .xor .u64 (n * 2) (n / 9223372036854775808) = (fold n : Nat) := by
  have e1 : n / 9223372036854775808 = 0 := by omega
  have e2 : n * 2 = ((2 * n.toNat : Nat) : Int) := by omega
  unfold fold
  rw [if_pos h0, e1, e2, xor_none _ (by omega)]
theorem fold_neg {n : Int} (h0 : n < 0) (h1 : -9223372036854775808 ≤ n) : bits .xor .u64 (IntKind.u64.wrap (IntKind.u64.wrap n * 2)) (IntKind.u64.wrap (n / 9223372036854775808)) = (fold n : Nat) := by
  have e1 : IntKind.u64.wrap (n / 9223372036854775808) = 18446744073709551615 := by rw [IntKind.wrap_u64]; omega
  have e2 : IntKind.u64.wrap (IntKind.u64.wrap n * 2) = ((18446744073709551615 - (2 * (-(n + 1)).toNat + 1) : Nat) : Int) := by
    rw [IntKind.wrap_u64, IntKind.wrap_u64]; omega
  unfold fold
  rw [if_neg (by omega), e1, e2, xor_all _ (by omega)]
  omega
theorem unfold_bits {u : Nat} (hu : u < 18446744073709551616) : bits .xor .i64 ((u : Int) / 2) (wrap64 (-wrap64 (bits .and .u64 (u : Int) 1))) = unfold u := by
  have e2 : (u : Int) / 2 = ((u / 2 : Nat) : Int) := by omega
  rw [and_one u hu, e2]
  unfold unfold
  split
  · rename_i h
    have e1 : wrap64 (-wrap64 ((u % 2 : Nat) : Int)) = 0 := by rw [h]; unfold wrap64; decide
    rw [e1, ixor_none _ (by omega)]
  · rename_i h
    have e1 : wrap64 (-wrap64 ((u % 2 : Nat) : Int)) = -1 := by
      have : u % 2 = 1 := by omega
      rw [this]; unfold wrap64; decide
    rw [e1, ixor_all _ (by omega)]
end Pk
end Go.Proofs.Ytapedjcchcgoeaa
