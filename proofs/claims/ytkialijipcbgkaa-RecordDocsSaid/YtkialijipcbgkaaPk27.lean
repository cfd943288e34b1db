/-
  PutListM: What counted lists are, in bytes; a length as a word.
  PkDif: The numbers of a row's differences.
  PkMathB: Plain mathematics of chapter 12: what is put is got; what is got is put.
  PkMathC: Plain mathematics of chapter 12: how many bytes a row has.
-/
import Derived.Test.YtkialijipcbgkaaPk01
import Derived.Test.YtkialijipcbgkaaPk26
import Derived.Test.YtkialijipcbgkaaPk25
namespace Go.Proofs.Ytkialijipcbgkaa
open Go.RowKit
set_option linter.unusedVariables false

/-- The bytes of numbers, one behind the other. -/
def puts (l : List Nat) : List Nat := (l.map Mt.put).flatten
def putList (l : List Nat) : List Nat := Mt.put l.length ++ puts l
theorem puts_nil : puts [] = [] := rfl
theorem puts_snoc (l : List Nat) (c : Nat) : puts (l ++ [c]) = puts l ++ Mt.put c := by simp [puts]
theorem puts_len (l : List Nat) : (puts l).length ≤ 10 * l.length := by
  induction l with
  | nil => simp [puts]
  | cons x r ih =>
    have h := Mt.put_len_le x
    have e : puts (x :: r) = Mt.put x ++ puts r := by simp [puts]
    rw [e]
    simp only [List.length_append, List.length_cons]
    omega
theorem take_one {l : List Nat} {k c : Nat} {r : List Nat} (h : l.drop k = c :: r) : l.take (k + 1) = l.take k ++ [c] := by
  rw [List.take_add, h]; rfl

theorem Bv.alloc_ {w : World} {B : Nat} {v : Value} {l : List Nat} (h : Bv w B v l) (hB : B ≤ w.heap.size) (o : Obj) : Bv (w.alloc o) B v l :=
  h.below_ ((Below.refl B w).alloc hB o) (Nat.le_refl _)

theorem wrap_len (n : Nat) (h : n ≤ 140737488355328) : IntKind.u64.wrap (n : Int) = (n : Int) := by rw [IntKind.wrap_u64]; omega
end Go.Proofs.Ytkialijipcbgkaa
namespace Go.Proofs.Ytkialijipcbgkaa.Pk
def dif (was : Int) : List Int → List Nat
  | [] => []
  | t :: r => fold (t - was) :: dif t r
theorem dif_len (l : List Int) : ∀ was, (dif was l).length = l.length := by
  induction l with
  | nil => intro was; rfl
  | cons t r ih => intro was; rw [dif, List.length_cons, ih, List.length_cons]
theorem dif_app (a b : List Int) : ∀ was, dif was (a ++ b) = dif was a ++ dif (a.getLastD was) b := by
  induction a with
  | nil => intro was; rfl
  | cons t r ih =>
    intro was
    rw [List.cons_append, dif, dif, ih, List.cons_append]
    cases r with
    | nil => rfl
    | cons x r => simp [List.getLastD]
theorem dif_more {l : List Int} {k : Nat} {x : Int} (h : l[k]? = some x) : dif 0 (l.take (k + 1)) = dif 0 (l.take k) ++ [fold (x - (l.take k).getLastD 0)] := by
  rw [take_more h, dif_app]
  simp [dif]
theorem dif_puts (l : List Int) : ∀ was, puts (dif was l) = bytes was l := by
  induction l with
  | nil => intro was; rfl
  | cons t r ih =>
    intro was
    have h := ih t
    unfold puts at h ⊢
    rw [dif, bytes, List.map_cons, List.flatten_cons, h]
/-- What differences answers. -/
def difE (l : List Int) : List Nat × Nat := if 65536 < l.length then ([], 3) else if ∀ t ∈ l, Tok t then (dif 0 l, 0) else ([], 2)
theorem dif_put {l : List Int} (h : ¬ 65536 < l.length) (ht : ∀ t ∈ l, Tok t) : putE l = (putList (dif 0 l), 0) := by
  unfold putE putList
  rw [if_neg h, if_pos ht, dif_len, dif_puts]
theorem dif_cases (l : List Int) : (∃ e, 2 ≤ e ∧ e ≤ 3 ∧ difE l = ([], e) ∧ putE l = ([], e)) ∨ (l.length ≤ 65536 ∧ difE l = (dif 0 l, 0) ∧ putE l = (putList (dif 0 l), 0)) := by
  by_cases h : 65536 < l.length
  · exact .inl ⟨3, by omega, by omega, if_pos h, if_pos h⟩
  · by_cases ht : ∀ t ∈ l, Tok t
    · exact .inr ⟨by omega, (if_neg h).trans (if_pos ht), dif_put h ht⟩
    · exact .inl ⟨2, by omega, by omega, (if_neg h).trans (if_neg ht), (if_neg h).trans (if_neg ht)⟩
end Go.Proofs.Ytkialijipcbgkaa.Pk
namespace Go.Proofs.Ytkialijipcbgkaa.Pk
theorem get_inv {b : List Nat} (hb : ∀ x ∈ b, x < 256) {k u j : Nat} (h : Mt.get b (k : Int) = (u, j, 0)) : ∃ r, b.drop k = Mt.put u ++ r ∧ j = k + (Mt.put u).length ∧ j ≤ b.length ∧ Mt.B64 u := by
  rcases Mt.get_cases hb (k : Int) with ⟨e, h1, _, h3⟩ | ⟨k', n, r, h1, _, h3, h4, h5, h6⟩
  · rw [h] at h3
    simp only [Prod.mk.injEq] at h3
    omega
  · obtain rfl : k = k' := by omega
    rw [h] at h6
    simp only [Prod.mk.injEq] at h6
    obtain ⟨rfl, rfl, -⟩ := h6
    exact ⟨r, h4, rfl, h5, h3⟩
theorem getL_inv {b : List Nat} (hb : ∀ x ∈ b, x < 256) : ∀ (n : Nat) (acc : List Int) (k : Nat) (l : List Int) (nx : Nat), Tok (acc.getLastD 0) → k ≤ b.length → getL b n acc k = (l, nx, 0) →
    ∃ t r, l = acc ++ t ∧ t.length = n ∧ (∀ x ∈ t, Tok x) ∧ b.drop k = bytes (acc.getLastD 0) t ++ r ∧ nx = k + (bytes (acc.getLastD 0) t).length ∧ nx ≤ b.length := by
  intro n
  induction n with
  | zero =>
    intro acc k l nx _ hk h
    simp only [getL, Prod.mk.injEq] at h
    obtain ⟨rfl, rfl, -⟩ := h
    exact ⟨[], b.drop k, by simp, rfl, by simp, by simp [bytes], by simp [bytes], hk⟩
  | succ n ih =>
    intro acc k l nx ht hk h
    rcases Mt.get_cases hb (k : Int) with ⟨e, h1, _, h3⟩ | ⟨k', u, r, h1, _, hu, h4, h5, h6⟩
    · rw [getL_err rfl (next_err h3 (by omega)) (by omega)] at h
      simp only [Prod.mk.injEq] at h
      omega
    · obtain rfl : k = k' := by omega
      by_cases hd : unfold u < -(acc.getLastD 0) ∨ 1048575 - acc.getLastD 0 < unfold u
      · rw [getL_err rfl (next_form h6 hd) (by omega)] at h
        simp only [Prod.mk.injEq] at h
        omega
      · rw [getL_ok rfl (next_ok h6 hd)] at h
        have hx : Tok (acc.getLastD 0 + unfold u) := by unfold Tok; omega
        obtain ⟨t, r', rfl, h7, h8, h9, h10, h11⟩ := ih _ _ _ _ (by rw [getLastD_snoc]; exact hx) h5 h
        rw [getLastD_snoc] at h9 h10
        have hf : fold (acc.getLastD 0 + unfold u - acc.getLastD 0) = u := by
          have e : acc.getLastD 0 + unfold u - acc.getLastD 0 = unfold u := by omega
          rw [e, fold_unfold]
        refine ⟨(acc.getLastD 0 + unfold u) :: t, r', by simp, by simp [h7], fun x hx' => ?_, ?_, ?_, h11⟩
        · rcases List.mem_cons.1 hx' with rfl | h
          · exact hx
          · exact h8 x h
        · rw [bytes, hf, h4, List.append_assoc, ← h9, ← List.drop_drop, h4, List.drop_left]
        · rw [bytes, hf, List.length_append, h10]; omega
/-- Where a row is read, the bytes that it was read of are those that are put of it. -/
theorem getE_inv {b : List Nat} (hb : ∀ x ∈ b, x < 256) {a : Int} {l : List Int} {nx : Nat} (h : getE b a = (l, nx, 0)) :
    ∃ (k : Nat) (_ : List Nat), a = (k : Int) ∧ putE l = ((b.drop k).take (nx - k), 0) ∧ k < nx ∧ nx ≤ b.length ∧ l.length ≤ 65536 := by
  rcases Mt.count_cases hb a 65536 with ⟨e, h1, _, h3⟩ | ⟨k, n, r, rfl, hk, hn, h4, h5, h6, h7⟩
  · rw [getE_err h3 (by omega)] at h
    simp only [Prod.mk.injEq] at h
    omega
  · rw [getE_on h6] at h
    obtain ⟨t, r', hlt, hl, ht, h9, h10, h11⟩ := getL_inv hb n [] _ l nx (by unfold Tok; simp) h5 h
    rw [List.nil_append] at hlt
    subst hlt
    have hp := Mt.put_len_pos n
    have e0 : ([] : List Int).getLastD 0 = 0 := rfl
    rw [e0] at h9 h10
    refine ⟨k, r', rfl, ?_, by omega, h11, by omega⟩
    unfold putE
    rw [if_neg (by omega), if_pos ht, hl]
    congr 1
    have e1 : b.drop k = (Mt.put n ++ bytes 0 l) ++ r' := by
      rw [List.append_assoc, ← h9, ← List.drop_drop, h4, List.drop_left]
    rw [e1, List.take_left' (by rw [List.length_append]; omega)]
theorem getL_put : ∀ (t acc : List Int) (pre y : List Nat), Tok (acc.getLastD 0) → (∀ x ∈ t, Tok x) →
    getL (pre ++ (bytes (acc.getLastD 0) t ++ y)) t.length acc pre.length = (acc ++ t, pre.length + (bytes (acc.getLastD 0) t).length, 0) := by
  intro t
  induction t with
  | nil => intro acc pre y _ _; simp [getL, bytes]
  | cons x t ih =>
    intro acc pre y ha ht
    have hx := ht x (by simp)
    have hb : Mt.B64 (fold (x - acc.getLastD 0)) := by have := fold_tok hx ha; unfold Mt.B64; omega
    have hg := Mt.get_put hb pre (bytes x t ++ y)
    rw [bytes]
    have e1 : pre ++ (Mt.put (fold (x - acc.getLastD 0)) ++ bytes x t ++ y) = pre ++ Mt.put (fold (x - acc.getLastD 0)) ++ (bytes x t ++ y) := by simp
    rw [e1, List.length_cons]
    have hd : ¬ (unfold (fold (x - acc.getLastD 0)) < -(acc.getLastD 0) ∨ 1048575 - acc.getLastD 0 < unfold (fold (x - acc.getLastD 0))) := by
      rw [unfold_fold]; unfold Tok at hx; omega
    rw [getL_ok rfl (next_ok hg hd), unfold_fold]
    have e2 : acc.getLastD 0 + (x - acc.getLastD 0) = x := by omega
    rw [e2]
    have h := ih (acc ++ [x]) (pre ++ Mt.put (fold (x - acc.getLastD 0))) y (by rw [getLastD_snoc]; exact hx) (fun z hz => ht z (by simp [hz]))
    rw [getLastD_snoc, List.length_append] at h
    rw [h]
    simp only [List.append_assoc, List.singleton_append, List.length_append, Prod.mk.injEq, true_and, and_true]
    omega
/-- A row that is put anywhere among bytes is got there. -/
theorem getE_put {l : List Int} {p : List Nat} (h : putE l = (p, 0)) (pre y : List Nat) : getE (pre ++ (p ++ y)) (pre.length : Nat) = (l, pre.length + p.length, 0) := by
  unfold putE at h
  by_cases h1 : 65536 < l.length
  · rw [if_pos h1] at h
    simp at h
  · rw [if_neg h1] at h
    by_cases h2 : ∀ t ∈ l, Tok t
    · rw [if_pos h2] at h
      simp only [Prod.mk.injEq, and_true] at h
      subst h
      have hg := Mt.get_put (show Mt.B64 l.length by unfold Mt.B64; omega) pre (bytes 0 l ++ y)
      have e1 : pre ++ (Mt.put l.length ++ bytes 0 l ++ y) = pre ++ Mt.put l.length ++ (bytes 0 l ++ y) := by simp
      rw [e1, getE_on (Mt.count_ok hg (by omega))]
      have h := getL_put l [] (pre ++ Mt.put l.length) y (by unfold Tok; simp) h2
      rw [List.length_append] at h
      have e0 : ([] : List Int).getLastD 0 = 0 := rfl
      rw [e0] at h
      rw [h]
      simp only [List.nil_append, List.length_append, Prod.mk.injEq, true_and, and_true]
      omega
    · rw [if_neg h2] at h
      simp at h
theorem getL_bad {b : List Nat} : ∀ (n : Nat) (acc : List Int) (k : Nat) {l : List Int} {nx e : Nat}, getL b n acc k = (l, nx, e) → e ≠ 0 → l = [] ∧ nx = 0 := by
  intro n
  induction n with
  | zero =>
    intro acc k l nx e h he
    simp only [getL, Prod.mk.injEq] at h
    exact absurd h.2.2.symm he
  | succ n ih =>
    intro acc k l nx e h he
    rw [getL] at h
    by_cases hx : (next b (acc.getLastD 0) k).2.2 ≠ 0
    · rw [if_pos hx] at h
      simp only [Prod.mk.injEq] at h
      exact ⟨h.1.symm, h.2.1.symm⟩
    · rw [if_neg hx] at h
      exact ih _ _ h he
theorem getE_bad {b : List Nat} {a : Int} {l : List Int} {nx e : Nat} (h : getE b a = (l, nx, e)) (he : e ≠ 0) : l = [] ∧ nx = 0 := by
  unfold getE at h
  by_cases hx : (Mt.count b a 65536).2.2 ≠ 0
  · rw [if_pos hx] at h
    simp only [Prod.mk.injEq] at h
    exact ⟨h.1.symm, h.2.1.symm⟩
  · rw [if_neg hx] at h
    exact getL_bad _ _ _ h he
end Go.Proofs.Ytkialijipcbgkaa.Pk
namespace Go.Proofs.Ytkialijipcbgkaa.Pk
theorem put_l1 {n : Nat} (h : n < 128) : (Mt.put n).length = 1 := by rw [Mt.put_small h]; rfl
theorem put_l2 {n : Nat} (h : 128 ≤ n) (h2 : n < 16384) : (Mt.put n).length = 2 := by
  rw [Mt.put_step h (by unfold Mt.B64; omega), Mt.put_small (by omega)]
  rfl
theorem put_l3 {n : Nat} (h : n < 2097152) : (Mt.put n).length ≤ 3 := by
  rcases Nat.lt_or_ge n 128 with h1 | h1
  · rw [put_l1 h1]; omega
  · rcases Nat.lt_or_ge n 16384 with h2 | h2
    · rw [put_l2 h1 h2]; omega
    · rw [Mt.put_step h1 (by unfold Mt.B64; omega), List.length_cons, put_l2 (by omega) (by omega)]
      exact Nat.le_refl _
theorem bytes_three : ∀ (l : List Int) (was : Int), Tok was → (∀ t ∈ l, Tok t) → (bytes was l).length ≤ 3 * l.length := by
  intro l
  induction l with
  | nil => intro was _ _; simp [bytes]
  | cons t r ih =>
    intro was hw hl
    have ht := hl t (by simp)
    have h1 := put_l3 (n := fold (t - was)) (by have := fold_tok ht hw; omega)
    have h2 := ih t ht (fun z hz => hl z (by simp [hz]))
    rw [bytes, List.length_append, List.length_cons]
    omega
/-- A row has no more than three bytes for each token, and three. -/
theorem putE_small {l : List Int} {p : List Nat} (h : putE l = (p, 0)) : p.length ≤ 3 + 3 * l.length := by
  unfold putE at h
  by_cases h1 : 65536 < l.length
  · rw [if_pos h1] at h
    simp at h
  · rw [if_neg h1] at h
    by_cases h2 : ∀ t ∈ l, Tok t
    · rw [if_pos h2] at h
      simp only [Prod.mk.injEq, and_true] at h
      subst h
      have h3 := put_l3 (n := l.length) (by omega)
      have h4 := bytes_three l 0 (by unfold Tok; omega) h2
      rw [List.length_append]
      omega
    · rw [if_neg h2] at h
      simp at h
/-- What has bytes has at most 65536 tokens. -/
theorem putE_len {l : List Int} {p : List Nat} (h : putE l = (p, 0)) : l.length ≤ 65536 := by
  unfold putE at h
  by_cases h1 : 65536 < l.length
  · rw [if_pos h1] at h
    simp at h
  · omega
theorem bytes_same (x : Int) : ∀ k : Nat, (bytes x (List.replicate k x)).length = k := by
  intro k
  induction k with
  | zero => rfl
  | succ k ih =>
    rw [List.replicate_succ, bytes, List.length_append, ih, show x - x = 0 by omega]
    have : (Mt.put (fold 0)).length = 1 := put_l1 (by decide)
    omega
/-- A token that is the one ahead has one byte. -/
theorem putE_same {x : Int} (hx : Tok x) {k : Nat} (hk : k < 65536) : putE (List.replicate (k + 1) x) = (Mt.put (k + 1) ++ bytes 0 (List.replicate (k + 1) x), 0) ∧ (Mt.put (k + 1) ++ bytes 0 (List.replicate (k + 1) x)).length = (Mt.put (k + 1)).length + (Mt.put (fold x)).length + k := by
  refine ⟨?_, ?_⟩
  · unfold putE
    rw [List.length_replicate, if_neg (by omega), if_pos (fun t ht => by rw [List.eq_of_mem_replicate ht]; exact hx)]
  · rw [List.replicate_succ, bytes, List.length_append, List.length_append, bytes_same, show x - 0 = x by omega]
    omega
end Go.Proofs.Ytkialijipcbgkaa.Pk
