/-
  OwnVB: An own block's bytes, where its block is as it was.
-/
import Derived.Test.YtoefogmjekcbeaaPk13
namespace Go.Proofs.Ytoefogmjekcbeaa
open Go.RowKit
theorem OwnV.of_block {w w' : World} {base : Nat} {v : Value} {l : List Nat} (h : OwnV w base v l) (hb : ∀ k, v.ownBlock = some k → w'.heap[k]? = w.heap[k]?) : OwnV w' base v l := by
  obtain ⟨h8, hn | ⟨g, t, rfl, hg, hm, hr⟩⟩ := h
  · exact ⟨h8, .inl hn⟩
  · exact ⟨h8, .inr ⟨g, t, rfl, hg, hm, (hb g rfl).trans hr⟩⟩
end Go.Proofs.Ytoefogmjekcbeaa
