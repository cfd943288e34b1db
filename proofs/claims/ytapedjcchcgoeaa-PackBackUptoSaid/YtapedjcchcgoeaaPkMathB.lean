/-
  Plain mathematics of chapter 12: what is put is got; what is got is put.
-/
import Derived.Test.YtapedjcchcgoeaaPkMath
import Derived.Test.YtapedjcchcgoeaaMathB
namespace Go.Proofs.Ytapedjcchcgoeaa.Pk
theorem get_inv {b : List Nat} (hb : ∀ x ∈ b, x < 256) {k u j : Nat} (h : Mt.get b (k : Int) = (u, j, 0)) : ∃ r, b.drop k = Mt.put u ++ r ∧ j = k + (Mt.put u).length ∧ j ≤ b.length ∧ Mt.B64 u := by
  rcases Mt.get_cases hb (k : Int) with ⟨e, h1, _, h3⟩ | ⟨k', n, r, h1, _, h3, h4, h5, h6⟩
  · rw [h] at h3
    simp only [Prod.mk.injEq] at h3
    omega
  · obtain rfl : k = k' := by omega
    rw [h] at h6
    simp only [Prod.mk.injEq] at h6
    obtain ⟨rfl, rfl, -⟩ := h6
    exact ⟨r, h4, rfl, h5, h3⟩
theorem getL_inv {b : List Nat} (hb : ∀ x ∈ b, x < 256) : ∀ (n : Nat) (acc : List Int) (k : Nat) (l : List Int) (nx : Nat), Tok (acc.getLastD 0) → k ≤ b.length → getL b n acc k = (l, nx, 0) →
    ∃ t r, l = acc ++ t ∧ t.length = n ∧ (∀ x ∈ t, Tok x) ∧ b.drop k = bytes (acc.getLastD 0) t ++ r ∧ nx = k + (bytes (acc.getLastD 0) t).length ∧ nx ≤ b.length := by
  intro n
  induction n with
  | zero =>
    intro acc k l nx _ hk h
    simp only [getL, Prod.mk.injEq] at h
    obtain ⟨rfl, rfl, -⟩ := h
    exact ⟨[], b.drop k, by simp, rfl, by simp, by simp [bytes], by simp [bytes], hk⟩
  | succ n ih =>
    intro acc k l nx ht hk h
    rcases Mt.get_cases hb (k : Int) with ⟨e, h1, _, h3⟩ | ⟨k', u, r, h1, _, hu, h4, h5, h6⟩
    · rw [getL_err rfl (next_err h3 (by omega)) (by omega)] at h
      simp only [Prod.mk.injEq] at h
      omega
    · obtain rfl : k = k' := by omega
      by_cases hd : unfold u < -(acc.getLastD 0) ∨ 1048575 - acc.getLastD 0 < unfold u
      · rw [getL_err rfl (next_form h6 hd) (by omega)] at h
        simp only [Prod.mk.injEq] at h
        omega
      · rw [getL_ok rfl (next_ok h6 hd)] at h
        have hx : Tok (acc.getLastD 0 + unfold u) := by unfold Tok; omega
        obtain ⟨t, r', rfl, h7, h8, h9, h10, h11⟩ := ih _ _ _ _ (by rw [getLastD_snoc]; exact hx) h5 h
        rw [getLastD_snoc] at h9 h10
        have hf : fold (acc.getLastD 0 + unfold u - acc.getLastD 0) = u := by
          have e : acc.getLastD 0 + unfold u - acc.getLastD 0 = unfold u := by omega
          rw [e, fold_unfold]
        refine ⟨(acc.getLastD 0 + unfold u) :: t, r', by simp, by simp [h7], fun x hx' => ?_, ?_, ?_, h11⟩
        · rcases List.mem_cons.1 hx' with rfl | h
          · exact hx
          · exact h8 x h
        · rw [bytes, hf, h4, List.append_assoc, ← h9, ← List.drop_drop, h4, List.drop_left]
        · rw [bytes, hf, List.length_append, h10]; omega
/-- Where a row is read, the bytes that it was read of are those that are put of it. -/
theorem getE_inv {b : List Nat} (hb : ∀ x ∈ b, x < 256) {a : Int} {l : List Int} {nx : Nat} (h : getE b a = (l, nx, 0)) :
    ∃ (k : Nat) (r : List Nat), a = (k : Int) ∧ putE l = ((b.drop k).take (nx - k), 0) ∧ k < nx ∧ nx ≤ b.length ∧ l.length ≤ 65536 := by
  rcases Mt.count_cases hb a 65536 with ⟨e, h1, _, h3⟩ | ⟨k, n, r, rfl, hk, hn, h4, h5, h6, h7⟩
  · rw [getE_err h3 (by omega)] at h
    simp only [Prod.mk.injEq] at h
    omega
  · rw [getE_on h6] at h
    obtain ⟨t, r', hlt, hl, ht, h9, h10, h11⟩ := getL_inv hb n [] _ l nx (by unfold Tok; simp) h5 h
    rw [List.nil_append] at hlt
    subst hlt
    have hp := Mt.put_len_pos n
    have e0 : ([] : List Int).getLastD 0 = 0 := rfl
    rw [e0] at h9 h10
    refine ⟨k, r', rfl, ?_, by omega, h11, by omega⟩
    unfold putE
    rw [if_neg (by omega), if_pos ht, hl]
    congr 1
    have e1 : b.drop k = (Mt.put n ++ bytes 0 l) ++ r' := by
      rw [List.append_assoc, ← h9, ← List.drop_drop, h4, List.drop_left]
    rw [e1, List.take_left' (by rw [List.length_append]; omega)]
theorem getL_put : ∀ (t acc : List Int) (pre y : List Nat), Tok (acc.getLastD 0) → (∀ x ∈ t, Tok x) →
    getL (pre ++ (bytes (acc.getLastD 0) t ++ y)) t.length acc pre.length = (acc ++ t, pre.length + (bytes (acc.getLastD 0) t).length, 0) := by
  intro t
  induction t with
  | nil => intro acc pre y _ _; simp [getL, bytes]
  | cons x t ih =>
    intro acc pre y ha ht
    have hx := ht x (by simp)
    have hb : Mt.B64 (fold (x - acc.getLastD 0)) := by have := fold_tok hx ha; unfold Mt.B64; omega
    have hg := Mt.get_put hb pre (bytes x t ++ y)
    rw [bytes]
    have e1 : pre ++ (Mt.put (fold (x - acc.getLastD 0)) ++ bytes x t ++ y) = pre ++ Mt.put (fold (x - acc.getLastD 0)) ++ (bytes x t ++ y) := by simp
    rw [e1, List.length_cons]
    have hd : ¬ (unfold (fold (x - acc.getLastD 0)) < -(acc.getLastD 0) ∨ 1048575 - acc.getLastD 0 < unfold (fold (x - acc.getLastD 0))) := by
      rw [unfold_fold]; unfold Tok at hx; omega
    rw [getL_ok rfl (next_ok hg hd), unfold_fold]
    have e2 : acc.getLastD 0 + (x - acc.getLastD 0) = x := by omega
    rw [e2]
    have h := ih (acc ++ [x]) (pre ++ Mt.put (fold (x - acc.getLastD 0))) y (by rw [getLastD_snoc]; exact hx) (fun z hz => ht z (by simp [hz]))
    rw [getLastD_snoc, List.length_append] at h
    rw [h]
    simp only [List.append_assoc, List.singleton_append, List.length_append, Prod.mk.injEq, true_and, and_true]
    omega
/-- A row that is put anywhere among bytes is got there. -/
theorem getE_put {l : List Int} {p : List Nat} (h : putE l = (p, 0)) (pre y : List Nat) : getE (pre ++ (p ++ y)) (pre.length : Nat) = (l, pre.length + p.length, 0) := by
  unfold putE at h
  by_cases h1 : 65536 < l.length
  · rw [if_pos h1] at h
    simp at h
  · rw [if_neg h1] at h
    by_cases h2 : ∀ t ∈ l, Tok t
    · rw [if_pos h2] at h
      simp only [Prod.mk.injEq, and_true] at h
      subst h
      have hg := Mt.get_put (show Mt.B64 l.length by unfold Mt.B64; omega) pre (bytes 0 l ++ y)
      have e1 : pre ++ (Mt.put l.length ++ bytes 0 l ++ y) = pre ++ Mt.put l.length ++ (bytes 0 l ++ y) := by simp
      rw [e1, getE_on (Mt.count_ok hg (by omega))]
      have h := getL_put l [] (pre ++ Mt.put l.length) y (by unfold Tok; simp) h2
      rw [List.length_append] at h
      have e0 : ([] : List Int).getLastD 0 = 0 := rfl
      rw [e0] at h
      rw [h]
      simp only [List.nil_append, List.length_append, Prod.mk.injEq, true_and, and_true]
      omega
    · rw [if_neg h2] at h
      simp at h
theorem getL_bad {b : List Nat} : ∀ (n : Nat) (acc : List Int) (k : Nat) {l : List Int} {nx e : Nat}, getL b n acc k = (l, nx, e) → e ≠ 0 → l = [] ∧ nx = 0 := by
  intro n
  induction n with
  | zero =>
    intro acc k l nx e h he
    simp only [getL, Prod.mk.injEq] at h
    exact absurd h.2.2.symm he
  | succ n ih =>
    intro acc k l nx e h he
    rw [getL] at h
    by_cases hx : (next b (acc.getLastD 0) k).2.2 ≠ 0
    · rw [if_pos hx] at h
      simp only [Prod.mk.injEq] at h
      exact ⟨h.1.symm, h.2.1.symm⟩
    · rw [if_neg hx] at h
      exact ih _ _ h he
theorem getE_bad {b : List Nat} {a : Int} {l : List Int} {nx e : Nat} (h : getE b a = (l, nx, e)) (he : e ≠ 0) : l = [] ∧ nx = 0 := by
  unfold getE at h
  by_cases hx : (Mt.count b a 65536).2.2 ≠ 0
  · rw [if_pos hx] at h
    simp only [Prod.mk.injEq] at h
    exact ⟨h.1.symm, h.2.1.symm⟩
  · rw [if_neg hx] at h
    exact getL_bad _ _ _ h he
end Go.Proofs.Ytapedjcchcgoeaa.Pk
