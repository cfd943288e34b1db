/-
  Plain mathematics of chapter 12: how many bytes a row has.
-/
import Derived.Test.YtapedjcchcgoeaaPkMath
namespace Go.Proofs.Ytapedjcchcgoeaa.Pk
theorem put_l1 {n : Nat} (h : n < 128) : (Mt.put n).length = 1 := by rw [Mt.put_small h]; rfl
theorem put_l2 {n : Nat} (h : 128 ≤ n) (h2 : n < 16384) : (Mt.put n).length = 2 := by
  rw [Mt.put_step h (by unfold Mt.B64; omega), Mt.put_small (by omega)]
  rfl
theorem put_l3 {n : Nat} (h : n < 2097152) : (Mt.put n).length ≤ 3 := by
  rcases Nat.lt_or_ge n 128 with h1 | h1
  · rw [put_l1 h1]; omega
  · rcases Nat.lt_or_ge n 16384 with h2 | h2
    · rw [put_l2 h1 h2]; omega
    · rw [Mt.put_step h1 (by unfold Mt.B64; omega), List.length_cons, put_l2 (by omega) (by omega)]
      exact Nat.le_refl _
theorem bytes_three : ∀ (l : List Int) (was : Int), Tok was → (∀ t ∈ l, Tok t) → (bytes was l).length ≤ 3 * l.length := by
  intro l
  induction l with
  | nil => intro was _ _; simp [bytes]
  | cons t r ih =>
    intro was hw hl
    have ht := hl t (by simp)
    have h1 := put_l3 (n := fold (t - was)) (by have := fold_tok ht hw; omega)
    have h2 := ih t ht (fun z hz => hl z (by simp [hz]))
    rw [bytes, List.length_append, List.length_cons]
    omega
/-- A row has no more than three bytes for each token, and three. -/
theorem putE_small {l : List Int} {p : List Nat} (h : putE l = (p, 0)) : p.length ≤ 3 + 3 * l.length := by
  unfold putE at h
  by_cases h1 : 65536 < l.length
  · rw [if_pos h1] at h
    simp at h
  · rw [if_neg h1] at h
    by_cases h2 : ∀ t ∈ l, Tok t
    · rw [if_pos h2] at h
      simp only [Prod.mk.injEq, and_true] at h
      subst h
      have h3 := put_l3 (n := l.length) (by omega)
      have h4 := bytes_three l 0 (by unfold Tok; omega) h2
      rw [List.length_append]
      omega
    · rw [if_neg h2] at h
      simp at h
/-- What has bytes has at most 65536 tokens. -/
theorem putE_len {l : List Int} {p : List Nat} (h : putE l = (p, 0)) : l.length ≤ 65536 := by
  unfold putE at h
  by_cases h1 : 65536 < l.length
  · rw [if_pos h1] at h
    simp at h
  · omega
theorem bytes_same (x : Int) : ∀ k : Nat, (bytes x (List.replicate k x)).length = k := by
  intro k
  induction k with
  | zero => rfl
  | succ k ih =>
    rw [List.replicate_succ, bytes, List.length_append, ih, show x - x = 0 by omega]
    have : (Mt.put (fold 0)).length = 1 := put_l1 (by decide)
    omega
/-- A token that is the one ahead has one byte. -/
theorem putE_same {x : Int} (hx : Tok x) {k : Nat} (hk : k < 65536) : putE (List.replicate (k + 1) x) = (Mt.put (k + 1) ++ bytes 0 (List.replicate (k + 1) x), 0) ∧ (Mt.put (k + 1) ++ bytes 0 (List.replicate (k + 1) x)).length = (Mt.put (k + 1)).length + (Mt.put (fold x)).length + k := by
  refine ⟨?_, ?_⟩
  · unfold putE
    rw [List.length_replicate, if_neg (by omega), if_pos (fun t ht => by rw [List.eq_of_mem_replicate ht]; exact hx)]
  · rw [List.replicate_succ, bytes, List.length_append, List.length_append, bytes_same, show x - 0 = x by omega]
    omega
end Go.Proofs.Ytapedjcchcgoeaa.Pk
