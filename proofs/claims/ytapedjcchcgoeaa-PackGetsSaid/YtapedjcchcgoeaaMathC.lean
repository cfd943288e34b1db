/-
  Plain mathematics of chapter 1 (leb): what reading a number can tell.
-/
import Derived.Test.YtapedjcchcgoeaaMath
namespace Go.Proofs.Ytapedjcchcgoeaa.Mt
theorem rd_cases (f : Nat) : ∀ (i X : Nat) (s : List Nat), i + f = 9 → (∃ n k, rd i X s = (n, k, 0)) ∨ rd i X s = (0, 0, 4) ∨ rd i X s = (0, 0, 5) := by
  induction f with
  | zero =>
    intro i X s hi
    cases s with
    | nil => right; left; rfl
    | cons c r =>
      rw [rd]
      split
      · right; right; rfl
      · rw [if_pos (by omega)]; left; exact ⟨_, _, rfl⟩
  | succ f ih =>
    intro i X s hi
    cases s with
    | nil => right; left; rfl
    | cons c r =>
      rw [rd]
      split
      · right; right; rfl
      · by_cases h : c < 128
        · rw [if_pos h]; left; exact ⟨_, _, rfl⟩
        · rw [if_neg h]; exact ih (i + 1) _ r (by omega)

theorem get_cases {l : List Nat} (hl : ∀ x ∈ l, x < 256) (a : Int) :
    (∃ e, 2 ≤ e ∧ e ≤ 5 ∧ get l a = (0, 0, e)) ∨
    (∃ (k n : Nat) (r : List Nat), a = (k : Int) ∧ k < l.length ∧ B64 n ∧ l.drop k = put n ++ r ∧ k + (put n).length ≤ l.length ∧ get l a = (n, k + (put n).length, 0)) := by
  by_cases h : a < 0 ∨ (l.length : Int) < a
  · exact .inl ⟨2, by omega, by omega, get_arg h⟩
  · obtain ⟨k, rfl⟩ := Int.eq_ofNat_of_zero_le (show 0 ≤ a by omega)
    have hk : k ≤ l.length := by omega
    rcases rd_cases 9 0 0 (l.drop k) rfl with ⟨n, m, hr⟩ | hr | hr
    · obtain ⟨hb, hm, r, hs⟩ := rd_ok (fun x hx => hl x (List.mem_of_mem_drop hx)) hr
      have hlen := congrArg List.length hs
      have hp := put_len_pos n
      rw [List.length_drop, List.length_append] at hlen
      refine .inr ⟨k, n, r, rfl, by omega, hb, hs, by omega, ?_⟩
      rw [get_ok hk hr, hm]
    · exact .inl ⟨4, by omega, by omega, get_err hk hr (by decide)⟩
    · exact .inl ⟨5, by omega, by omega, get_err hk hr (by decide)⟩
end Go.Proofs.Ytapedjcchcgoeaa.Mt
