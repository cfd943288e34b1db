/-
  From what a row says of its arguments to the words of chapter 2's text: numbers of 32 and of 8 bits.
-/
import Derived.Test.YtdmomnpmicagcaaFrame
import Derived.Test.YtdmomnpmicagcaaCMath
namespace Go.Proofs.Ytdmomnpmicagcaa
open Go.ChangeShapes Go.WideShapes Go.ChangeAt Go.RowKit

theorem u32_nat {a : Int} (h : (Lit.int .u32 a).wf = true) : ∃ n : Nat, a = (n : Int) ∧ Cr.B32 n := by
  have hb := bounds_u32 h
  obtain ⟨n, rfl⟩ := Int.eq_ofNat_of_zero_le hb.1
  exact ⟨n, rfl, by unfold Cr.B32; omega⟩
end Go.Proofs.Ytdmomnpmicagcaa
