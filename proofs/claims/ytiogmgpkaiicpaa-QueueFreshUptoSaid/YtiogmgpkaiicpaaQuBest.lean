/-
  Plain mathematics of chapter 7 (queue): which of an entry of a heap and those below it goes first.
-/
import Derived.Test.YtiogmgpkaiicpaaQuHeap
namespace Go.Proofs.Ytiogmgpkaiicpaa
namespace Qu
section
variable {α : Type}
/-- Which of k and its children below q goes first: p. -/
def Best (lt : α → α → Bool) (A : List (α × Nat)) (k p q : Nat) : Prop :=
  (∀ y, 2 * k + 1 ≤ y → y < q → ∀ a z, A[y]? = some a → A[p]? = some z → ah lt a z = false) ∧ (p ≠ k → ∀ z x, A[p]? = some z → A[k]? = some x → ah lt z x = true)
theorem Best.start (lt : α → α → Bool) (A : List (α × Nat)) (k : Nat) : Best lt A k k (2 * k + 1) := ⟨fun y h1 h2 => absurd h1 (by omega), fun h => absurd rfl h⟩
theorem Best.no {lt : α → α → Bool} {A : List (α × Nat)} {k p q : Nat} (h : Best lt A k p q) {a z : α × Nat} (ha : A[q]? = some a) (hz : A[p]? = some z) (hn : ah lt a z = false) : Best lt A k p (q + 1) := by
  refine ⟨fun y h1 h2 a' z' ha' hz' => ?_, h.2⟩
  by_cases e : y = q
  · subst e; rw [ha] at ha'; rw [hz] at hz'; cases ha'; cases hz'; exact hn
  · exact h.1 y h1 (by omega) a' z' ha' hz'
theorem Best.yes {lt : α → α → Bool} (ho : Order lt) {A : List (α × Nat)} {k p q : Nat} (h : Best lt A k p q) {a z : α × Nat} (ha : A[q]? = some a) (hz : A[p]? = some z) (hn : ah lt a z = true) : Best lt A k q (q + 1) := by
  refine ⟨fun y h1 h2 a' z' ha' hz' => ?_, fun _ z' x hz' hx => ?_⟩
  · rw [ha] at hz'
    cases hz'
    by_cases e : y = q
    · subst e; rw [ha] at ha'; cases ha'; exact (ah_order ho).irr _
    · have h3 := h.1 y h1 (by omega) a' z ha' hz
      cases h4 : ah lt a' a with
      | false => rfl
      | true => rw [(ah_order ho).trans _ _ _ h4 hn] at h3; cases h3
  · rw [ha] at hz'
    cases hz'
    by_cases e : p = k
    · subst e; rw [hx] at hz; cases hz; exact hn
    · exact (ah_order ho).trans _ _ _ hn (h.2 e z x hz hx)
theorem Best.kids {lt : α → α → Bool} {A : List (α × Nat)} {k p q : Nat} (h : Best lt A k p q) (hq : 2 * k + 2 < q ∨ A.length ≤ q) {z : α × Nat} (hz : A[p]? = some z) : ∀ y a, 0 < y → (y - 1) / 2 = k → A[y]? = some a → ah lt a z = false := fun y a h0 hy ha => by
  have := (List.getElem?_eq_some_iff.1 ha).1
  exact h.1 y (by omega) (by omega) a z ha hz
end
end Qu
end Go.Proofs.Ytiogmgpkaiicpaa
