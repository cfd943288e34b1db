/-
  From what a row says of a slice of uint64 to the words of this text.
-/
import Derived.Test.YtggpldghdaggfaaFrameI
import Derived.Test.YtggpldghdaggfaaKWord
namespace Go.Proofs.Ytggpldghdaggfaa
open Go.ChangeShapes Go.WideShapes Go.ChangeAt Go.RowKit
set_option linter.unusedVariables false

theorem wrds_in {w : World} {a : Option Addr} {len cap : Nat}
    (h : (a = none ∧ len = 0 ∧ cap = 0) ∨ ∃ (x : Addr) (zs : List Int), a = some x ∧ len ≤ cap ∧ cap ≤ maxLen ∧ zs.length = cap ∧ (∀ i, i < zs.length → w.cell? (x.add i) = some (.int .u64 (zs.getD i 0))) ∧ ∀ n ∈ zs, (Lit.int .u64 n).wf = true) :
    ∃ l : List Nat, l.length = len ∧ Lv wK w w.heap.size (.slice a len cap) l :=
  list_in wK rfl (fun n => n.toNat) (fun n => .int .u64 n) (fun n => (Lit.int .u64 n).wf = true) (fun n h => by have := bounds_u64 h; show _ < _; omega) (fun n h => by have := bounds_u64 h; show [Value.int .u64 _] = _; rw [Int.toNat_of_nonneg this.1]) h
end Go.Proofs.Ytggpldghdaggfaa
