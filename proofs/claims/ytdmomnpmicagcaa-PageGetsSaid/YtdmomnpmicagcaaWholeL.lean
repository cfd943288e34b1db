/-
  A list of the call's own to its room's end.
-/
import Derived.Test.YtdmomnpmicagcaaEl
import Derived.Test.YtdmomnpmicagcaaLAns
namespace Go.Proofs.Ytdmomnpmicagcaa
open Go.RowKit
set_option linter.unusedVariables false

theorem OwnL.whole_ {P : Program} {α : Type} {K : El P α} {w : World} {base g n c : Nat} {l : List α} (h : OwnL K w base (.slice (some ⟨g, 0, none⟩) n c) l) : ∃ y : List α, y.length = c ∧ OwnL K w base (.slice (some ⟨g, 0, none⟩) c c) y ∧ n ≤ c ∧ c ≤ maxLen := by
  rcases h.2 with ⟨e, _⟩ | ⟨g', s, e, hb, hs, hm, hh⟩
  · cases e
  · injection e with e1 e2 e3
    injection e1 with e1
    injection e1 with e1
    subst e1 e2 e3
    refine ⟨l ++ s, by simp, ⟨fun y hy => (List.mem_append.1 hy).elim (h.1 y) (hs y), .inr ⟨g, [], by simp, hb, by simp, by simpa using hm, by simpa using hh⟩⟩, by omega, hm⟩
end Go.Proofs.Ytdmomnpmicagcaa
