/-
  From what a row says of its arguments: numbers of 16 bits.
-/
import Derived.Test.YtapedjcchcgoeaaFrameN
namespace Go.Proofs.Ytapedjcchcgoeaa
open Go.ChangeShapes Go.WideShapes Go.ChangeAt Go.RowKit

theorem u16_nat {a : Int} (h : (Lit.int .u16 a).wf = true) : ∃ n : Nat, a = (n : Int) ∧ n < 65536 := by
  have hb := bounds_u16 h
  obtain ⟨n, rfl⟩ := Int.eq_ofNat_of_zero_le hb.1
  exact ⟨n, rfl, by omega⟩
end Go.Proofs.Ytapedjcchcgoeaa
