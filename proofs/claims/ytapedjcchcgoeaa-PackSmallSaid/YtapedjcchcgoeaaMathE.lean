/-
  Plain mathematics of chapter 1 (leb): a count, and a counted row.
-/
import Derived.Test.YtapedjcchcgoeaaMathC
namespace Go.Proofs.Ytapedjcchcgoeaa.Mt
def count (l : List Nat) (a most : Int) : Nat × Nat × Nat :=
  if (get l a).2.2 ≠ 0 then (0, 0, (get l a).2.2) else if most < 0 ∨ most < ((get l a).1 : Nat) then (0, 0, 3) else get l a
theorem count_err {l : List Nat} {a most : Int} {e : Nat} (h : get l a = (0, 0, e)) (he : e ≠ 0) : count l a most = (0, 0, e) := by unfold count; rw [h, if_pos he]
theorem count_lim {l : List Nat} {a most : Int} {n k : Nat} (h : get l a = (n, k, 0)) (hm : most < 0 ∨ most < (n : Int)) : count l a most = (0, 0, 3) := by unfold count; rw [h, if_neg (by simp), if_pos hm]
theorem count_ok {l : List Nat} {a most : Int} {n k : Nat} (h : get l a = (n, k, 0)) (hm : ¬ (most < 0 ∨ most < (n : Int))) : count l a most = (n, k, 0) := by unfold count; rw [h, if_neg (by simp), if_neg hm]

theorem count_cases {l : List Nat} (hl : ∀ x ∈ l, x < 256) (a most : Int) :
    (∃ e, 2 ≤ e ∧ e ≤ 5 ∧ count l a most = (0, 0, e)) ∨
    (∃ (k n : Nat) (r : List Nat), a = (k : Int) ∧ k < l.length ∧ B64 n ∧ l.drop k = put n ++ r ∧ k + (put n).length ≤ l.length ∧ count l a most = (n, k + (put n).length, 0) ∧ (n : Int) ≤ most) := by
  rcases get_cases hl a with ⟨e, h1, h2, h3⟩ | ⟨k, n, r, h1, h2, h3, h4, h5, h6⟩
  · exact .inl ⟨e, h1, h2, count_err h3 (by omega)⟩
  · by_cases hm : most < 0 ∨ most < (n : Int)
    · exact .inl ⟨3, by omega, by omega, count_lim h6 hm⟩
    · exact .inr ⟨k, n, r, h1, h2, h3, h4, h5, count_ok h6 hm, by omega⟩

def getRow (l : List Nat) (a most : Int) : List Nat × Nat × Nat :=
  if (count l a most).2.2 ≠ 0 then ([], 0, (count l a most).2.2)
  else if l.length - (count l a most).2.1 < (count l a most).1 then ([], 0, 4)
  else ((l.drop (count l a most).2.1).take (count l a most).1, (count l a most).2.1 + (count l a most).1, 0)
theorem getRow_err {l : List Nat} {a most : Int} {e : Nat} (h : count l a most = (0, 0, e)) (he : e ≠ 0) : getRow l a most = ([], 0, e) := by unfold getRow; rw [h, if_pos he]
theorem getRow_short {l : List Nat} {a most : Int} {n k : Nat} (h : count l a most = (n, k, 0)) (hm : l.length - k < n) : getRow l a most = ([], 0, 4) := by unfold getRow; rw [h, if_neg (by simp), if_pos hm]
theorem getRow_ok {l : List Nat} {a most : Int} {n k : Nat} (h : count l a most = (n, k, 0)) (hm : ¬ l.length - k < n) : getRow l a most = ((l.drop k).take n, k + n, 0) := by unfold getRow; rw [h, if_neg (by simp), if_neg hm]
end Go.Proofs.Ytapedjcchcgoeaa.Mt
