/-
  stookref00.CopyInts.
-/
import Derived.Test.YtapedjcchcgoeaaKInt
import Derived.Test.YtapedjcchcgoeaaLAns
import Derived.Test.YtapedjcchcgoeaaMem
namespace Go.Proofs.Ytapedjcchcgoeaa
open Go.RowKit
set_option linter.unusedVariables false

set_option maxHeartbeats 1000000 in
set_option maxRecDepth 100000 in
theorem copyInts_any (v : Value) (l : List Int) (B : Nat) (w : World) (h : Lv iK w B v l) (hsz : l.length ≤ 17592186044416) :
    Calls Try.prog 22 #[v] w (IsL1 iK l w) := by
  have H0 := Lib.hid h
  obtain ⟨A, c, rfl, _⟩ := h
  have hnil := Lib.hid (OwnL.nil_ iK w w.heap.size)
  go_enter Try.func22, Try.ntmps22
  go_wp2_with (at_builtin; go_must (refine wpList_append_l _ iK rfl _ _ rfl w.heap.size _ rfl [] hnil.out _ rfl _ l H0.out (by show _ * 8 ≤ _; simp; omega) (by simp [maxLen]; omega) (Nat.le_refl _) ?_; intro A3 c3 w1 hA hG))
  go_ret
  simp only [List.nil_append] at hA
  exact ⟨A3, c3, by simp, hA, (Below.refl w.heap.size w).grown hG (Nat.le_refl _) (by intro k hk; cases hk)⟩
end Go.Proofs.Ytapedjcchcgoeaa
