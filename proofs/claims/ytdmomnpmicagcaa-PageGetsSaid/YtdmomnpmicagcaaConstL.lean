/-
  The bytes of a constant.
-/
import Derived.Test.YtdmomnpmicagcaaKByte
import Derived.Test.YtdmomnpmicagcaaLAns
import Derived.Lib.SlBytesConst
namespace Go.Proofs.Ytdmomnpmicagcaa
open Go.RowKit
set_option linter.unusedVariables false
/-- The bytes of a constant. -/
theorem const_lv (w : World) (l : List Nat) (hl : ∀ x ∈ l, x < 256) (hm : l.length ≤ maxLen) (cs : Array Value) (hcs : cs = (yK.flat l).toArray) (n : Nat) (hn : n = l.length) (t : TypeId) (f : Nat × Nat) :
    Lv yK (w.alloc (.cells cs t f)) (w.heap.size + 1) (.slice (some ⟨w.heap.size, 0, none⟩) n n) l := by
  subst hn hcs
  refine ⟨_, _, rfl, Nat.le_refl _, hm, by simp, hl, fun _ => ⟨w.heap.size, 0, rfl, by omega, fun j u hj => ?_⟩⟩
  rw [Nat.zero_add, World.cell?_alloc_mark, List.getElem?_toArray]
  exact hj
end Go.Proofs.Ytdmomnpmicagcaa
