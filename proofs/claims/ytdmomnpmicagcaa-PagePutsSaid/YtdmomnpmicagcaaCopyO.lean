/-
  stookref00.Copy.
-/
import Derived.Test.YtdmomnpmicagcaaKByte
import Derived.Test.YtdmomnpmicagcaaLAns
import Derived.Test.YtdmomnpmicagcaaMem
namespace Go.Proofs.Ytdmomnpmicagcaa
open Go.RowKit
set_option linter.unusedVariables false

set_option maxHeartbeats 1000000 in
set_option maxRecDepth 100000 in
theorem copyO_any (v : Value) (l : List Nat) (B : Nat) (w : World) (h : Lv yK w B v l) (hsz : l.length ≤ 140737488355328) :
    Calls Try.prog 23 #[v] w (IsL1 yK l w) := by
  have H0 := Lib.hid h
  obtain ⟨A, c, rfl, _⟩ := h
  have hnil := Lib.hid (OwnL.nil_ yK w w.heap.size)
  go_enter Try.func23, Try.ntmps23
  go_wp2_with (at_builtin; go_must (refine wpList_append_l _ yK rfl _ _ rfl w.heap.size _ rfl [] hnil.out _ rfl _ l H0.out (by show _ * 1 ≤ _; simp; omega) (by simp [maxLen]; omega) (Nat.le_refl _) ?_; intro A3 c3 w1 hA hG))
  go_ret
  simp only [List.nil_append] at hA
  exact ⟨A3, c3, by simp, hA, (Below.refl w.heap.size w).grown hG (Nat.le_refl _) (by intro k hk; cases hk)⟩
end Go.Proofs.Ytdmomnpmicagcaa
