/-
  A literal slice is the call's own.
-/
import Derived.Test.YtdmomnpmicagcaaEl
import Derived.WalkKit
import Derived.Lib.Hide
namespace Go.Proofs.Ytdmomnpmicagcaa
open Go.RowKit
set_option linter.unusedVariables false

/-- A literal slice. -/
theorem own_lit {P : Program} {α : Type} {K : El P α} (w : World) (base : Nat) (l : List α) (hok : ∀ x ∈ l, K.ok x) (hm : l.length ≤ maxLen) (hb : base ≤ w.heap.size) (n : Nat) (hn : n = l.length) (cs : Array Value) (hcs : cs = (K.flat l).toArray) (t : TypeId) (ht : t = K.e) : OwnL K (w.alloc (.cells cs t)) base (.slice (some ⟨w.heap.size, 0, none⟩) n n) l := by
  subst hn hcs ht
  refine ⟨hok, .inr ⟨w.heap.size, [], rfl, hb, by simp, by simpa using hm, ?_⟩⟩
  rw [List.append_nil]
  exact heap_alloc_new w _
end Go.Proofs.Ytdmomnpmicagcaa
