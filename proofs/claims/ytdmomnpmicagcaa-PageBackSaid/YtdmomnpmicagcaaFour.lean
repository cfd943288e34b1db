/-
  The four bytes of a sum, the lowest first; a row with its own sum behind it has always the same sum.
-/
import Derived.Test.YtdmomnpmicagcaaCMathB
namespace Go.Proofs.Ytdmomnpmicagcaa

/-- The four bytes of a number, the lowest first. -/
def four (n : Nat) : List Nat := [Cr.byt n 0, Cr.byt n 1, Cr.byt n 2, Cr.byt n 3]
theorem four_len (n : Nat) : (four n).length = 4 := rfl
theorem four_lt (n : Nat) : ∀ x ∈ four n, x < 256 := by
  intro x hx
  simp only [four, List.mem_cons, List.not_mem_nil, or_false] at hx
  rcases hx with rfl | rfl | rfl | rfl <;> exact Cr.byt_lt _ _
theorem le_four {n : Nat} (h : Cr.B32 n) : Cr.le (four n) = n := by
  unfold Cr.B32 at h
  simp only [four, Cr.le, Cr.byt]
  omega

namespace Fr
/-! ### A frame's own sum: behind its four bytes the sum of all is always the same number -/
def rest : Nat := Cr.flip (Cr.stepN 32 Cr.ones)
theorem of_frame {l : List Nat} (hl : ∀ x ∈ l, x < 256) : Cr.of (l ++ four (Cr.of l)) = rest := by
  have hb := Cr.of_b32 hl
  have h : Cr.flip (Cr.of l) ^^^ Cr.of l = Cr.ones := by rw [Cr.flip_eq, Nat.xor_assoc, Nat.xor_self, Nat.xor_zero]
  rw [Cr.of_append, Cr.more_eq, Cr.raw_le (four_lt _), le_four hb, h, four_len]
  rfl
end Fr
end Go.Proofs.Ytdmomnpmicagcaa
