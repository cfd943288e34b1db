/-
  Plain mathematics of chapter 1 (leb): the document's own way of reading a number.
-/
import Derived.Test.YtapedjcchcgoeaaMath
namespace Go.Proofs.Ytapedjcchcgoeaa.Mt
theorem val_snoc (s : List Nat) (c : Nat) : val (s ++ [c]) = val s + c % 128 * 128 ^ s.length := by
  induction s with
  | nil => simp [val]
  | cons x r ih =>
    simp only [List.cons_append, val, ih, List.length_cons, Nat.pow_succ]
    rw [Nat.mul_add, ← Nat.mul_assoc, Nat.mul_comm 128 (c % 128), Nat.mul_assoc (c % 128), Nat.mul_comm 128 (128 ^ _)]
    omega
theorem val_lt (s : List Nat) : val s < 128 ^ s.length := by
  induction s with
  | nil => simp [val]
  | cons x r ih => simp only [val, List.length_cons, Nat.pow_succ]; omega
theorem val_drop (s : List Nat) : ∀ j, val (s.drop j) ≤ val s := by
  induction s with
  | nil => intro j; simp [val]
  | cons x r ih =>
    intro j
    cases j with
    | zero => simp
    | succ j => have := ih j; simp only [List.drop_succ_cons, val]; omega
theorem take_snoc {s : List Nat} {k c : Nat} {r : List Nat} (h : s.drop k = c :: r) : s.take (k + 1) = s.take k ++ [c] := by
  rw [List.take_add, h]; rfl
theorem val_take {s : List Nat} {k c : Nat} {r : List Nat} (h : s.drop k = c :: r) : val (s.take (k + 1)) = val (s.take k) + c % 128 * 128 ^ k := by
  have hk : k < s.length := by
    rcases Nat.lt_or_ge k s.length with h1 | h1
    · exact h1
    · rw [List.drop_of_length_le h1] at h; cases h
  rw [take_snoc h, val_snoc, List.length_take, Nat.min_eq_left (by omega)]
theorem val_small {s : List Nat} {k c : Nat} {r : List Nat} (h : s.drop k = c :: r) (hk : k ≤ 9) (hc : c < 128) (h9 : 8 < k → c < 2) : val (s.take (k + 1)) < 18446744073709551616 := by
  have h1 := val_lt (s.take k)
  have h2 : (s.take k).length ≤ k := List.length_take_le _ _
  have h3 : val (s.take k) < 128 ^ k := Nat.lt_of_lt_of_le h1 (Nat.pow_le_pow_right (by decide) h2)
  rw [val_take h, Nat.mod_eq_of_lt hc]
  by_cases h8 : 8 < k
  · obtain rfl : k = 9 := by omega
    have := h9 h8
    omega
  · have h4 : c * 128 ^ k ≤ 127 * 128 ^ k := Nat.mul_le_mul_right _ (by omega)
    have h5 : (128 : Nat) ^ k ≤ 128 ^ 8 := Nat.pow_le_pow_right (by decide) (by omega)
    omega
theorem drop_byte {l : List Nat} {a k c : Nat} (hd : l.drop (a + k) = c :: l.drop (a + k + 1)) : (l.drop a).drop k = c :: l.drop (a + k + 1) := by rw [List.drop_drop]; exact hd
theorem horner {s : List Nat} {p d : Nat} {r : List Nat} (h : s.drop p = d :: r) : val (s.drop p) = d % 128 + 128 * val (s.drop (p + 1)) := by
  have hr2 : s.drop (p + 1) = r := by
    have := congrArg (List.drop 1) h
    simpa [List.drop_drop] using this
  rw [hr2, h]; rfl
theorem rd_take {s : List Nat} {k c : Nat} {r : List Nat} (hr : rd 0 0 s = rd k (val (s.take k)) (s.drop k)) (h : s.drop k = c :: r) (h9 : ¬ (k = 9 ∧ 1 < c)) (hc : 128 ≤ c) : rd 0 0 s = rd (k + 1) (val (s.take (k + 1))) (s.drop (k + 1)) := by
  have hr2 : s.drop (k + 1) = r := by
    have := congrArg (List.drop 1) h
    simpa [List.drop_drop] using this
  rw [hr, h, rd_on h9 hc, val_take h, hr2]
end Go.Proofs.Ytapedjcchcgoeaa.Mt
