/-
  From what a row says of its arguments to the words of chapter 2's text: numbers of 32 and of 8 bits.
-/
import Derived.Test.YteemhdoegjdaiaaFrame
import Derived.Test.YteemhdoegjdaiaaCMath
namespace Go.Proofs.Yteemhdoegjdaiaa
open Go.ChangeShapes Go.WideShapes Go.ChangeAt Go.RowKit

theorem u32_nat {a : Int} (h : (Lit.int .u32 a).wf = true) : ∃ n : Nat, a = (n : Int) ∧ Cr.B32 n := by
  have hb := bounds_u32 h
  obtain ⟨n, rfl⟩ := Int.eq_ofNat_of_zero_le hb.1
  exact ⟨n, rfl, by unfold Cr.B32; omega⟩
theorem u8_nat {a : Int} (h : (Lit.int .u8 a).wf = true) : ∃ n : Nat, a = (n : Int) ∧ n < 256 := by
  have hb := bounds_u8 h
  obtain ⟨n, rfl⟩ := Int.eq_ofNat_of_zero_le hb.1
  exact ⟨n, rfl, by omega⟩
end Go.Proofs.Yteemhdoegjdaiaa
