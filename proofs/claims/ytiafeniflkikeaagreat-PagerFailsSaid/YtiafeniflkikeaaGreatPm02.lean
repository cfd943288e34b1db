/- Parts of the proof. -/
import Derived.Test.YtiafeniflkikeaaGreatPm01
namespace Go.Proofs.YtiafeniflkikeaaGreat.Pg
theorem four_inj {m n : Nat} (hm : Cr.B32 m) (hn : Cr.B32 n) (h : four m = four n) : m = n := by
 have h1 := le_four hm
 rw [h, le_four hn] at h1
 exact h1.symm
theorem near {n : Int} {k : Nat} {b P Q : List Nat} (hk : k < 256) (hb : ∀ x ∈ b, x < 256) (h : putE n k b = (P, 0)) (hQ8 : ∀ x ∈ Q, x < 256) {p : Nat} (hp : p ≤ 508)
  (hat : ∀ i, ¬ (p ≤ i ∧ i < p + 4) → Q[i]? = P[i]?) (h0 : (getE n Q).2.2 = 0) : Q = P := by
 obtain ⟨hg, hP, hb4, hn0, hn1⟩ := getE_put h
 have hl : P.length = 512 := by rw [hP]; exact page_len hb4
 have hP8 : ∀ x ∈ P, x < 256 := by rw [hP]; exact page_lt hk hb
 obtain ⟨⟨k', c, e⟩, hq⟩ : ∃ r, getE n Q = r := ⟨_, rfl⟩
 rw [hq] at h0
 simp only at h0
 subst h0
 have hpq := putE_get hq
 obtain ⟨-, hQ, hc4, -, -⟩ := getE_put hpq
 have hQl : Q.length = 512 := by rw [hQ]; exact page_len hc4
 have tP : P.take 4 = four (Cr.of (P.drop 4)) := by rw [hP, page_take, page_drop]
 have tQ : Q.take 4 = four (Cr.of (Q.drop 4)) := by rw [hQ, page_take, page_drop]
 have dP8 : ∀ x ∈ P.drop 4, x < 256 := fun x hx => hP8 x (List.mem_of_mem_drop hx)
 have dQ8 : ∀ x ∈ Q.drop 4, x < 256 := fun x hx => hQ8 x (List.mem_of_mem_drop hx)
 by_cases h4 : 4 ≤ p
 ·have e1 : Q.take 4 = P.take 4 := by
   apply List.ext_getElem?
   intro i
   rw [List.getElem?_take, List.getElem?_take]
   by_cases hi : i < 4
   ·rw [if_pos hi, if_pos hi, hat i (by omega)]
   ·rw [if_neg hi, if_neg hi]
  have e2 : Cr.of (Q.drop 4) = Cr.of (P.drop 4) := four_inj (Cr.of_b32 dQ8) (Cr.of_b32 dP8) (by rw [← tQ, ← tP, e1])
  have e3 := (Cr.of_near dQ8 dP8 (by simp [hQl, hl]) (p := p - 4) (k := 4) (Nat.le_refl _) (by
   apply List.ext_getElem?
   intro i
   rw [List.getElem?_take, List.getElem?_take]
   by_cases hi : i < p - 4
   ·rw [if_pos hi, if_pos hi, List.getElem?_drop, List.getElem?_drop, hat (4 + i) (by omega)]
   ·rw [if_neg hi, if_neg hi]) (by
   apply List.ext_getElem?
   intro i
   rw [List.getElem?_drop, List.getElem?_drop, List.getElem?_drop, List.getElem?_drop, hat _ (by omega)])).1 e2
  rw [← List.take_append_drop 4 Q, e1, e3, List.take_append_drop]
 ·have num : ∀ i, i < 4 → Q.getD (4 + i) 0 = P.getD (4 + i) 0 := fun i hi => by
   rw [hQ, hP, page_at _ _ _ (by omega), page_at _ _ _ (by omega)]
   have : i = 0 ∨ i = 1 ∨ i = 2 ∨ i = 3 := by omega
   rcases this with rfl | rfl | rfl | rfl <;> rfl
  have e3 : Q.drop 4 = P.drop 4 := by
   apply List.ext_getElem?
   intro i
   rw [List.getElem?_drop, List.getElem?_drop]
   by_cases hi : i < 4
   ·have h1 := num i hi
    rw [List.getD_eq_getElem?_getD, List.getD_eq_getElem?_getD, List.getElem?_eq_getElem (show 4 + i < Q.length by omega), List.getElem?_eq_getElem (show 4 + i < P.length by omega)] at h1
    rw [List.getElem?_eq_getElem (show 4 + i < Q.length by omega), List.getElem?_eq_getElem (show 4 + i < P.length by omega)]
    simpa using h1
   ·rw [hat (4 + i) (by omega)]
  have e1 : Q.take 4 = P.take 4 := by rw [tQ, tP, e3]
  rw [← List.take_append_drop 4 Q, e1, e3, List.take_append_drop]
theorem one {n : Int} {k : Nat} {b P : List Nat} (hk : k < 256) (hb : ∀ x ∈ b, x < 256) (h : putE n k b = (P, 0)) {p y : Nat} (hp : p < 512) (hy : y < 256) (hne : P[p]? ≠ some y) :
  (getE n (P.set p y)).2.2 ≠ 0 := by
 intro h0
 obtain ⟨-, hP, hb4, -, -⟩ := getE_put h
 have hl : P.length = 512 := by rw [hP]; exact page_len hb4
 have hP8 : ∀ x ∈ P, x < 256 := by rw [hP]; exact page_lt hk hb
 have hQ8 : ∀ x ∈ P.set p y, x < 256 := fun x hx => by
  rcases List.mem_or_eq_of_mem_set hx with h | rfl
  ·exact hP8 x h
  ·exact hy
 have e := near (p := min p 508) hk hb h hQ8 (by omega) (fun i hi => by rw [List.getElem?_set, if_neg (by omega)]) h0
 apply hne
 rw [← e, List.getElem?_set, if_pos rfl, if_pos (by omega)]
theorem nz0 : Cr.raw 4294967295 (List.replicate 64 0) = 4231468184 := by decide +kernel
theorem nz1 : Cr.raw 4231468184 (List.replicate 64 0) = 4158167844 := by decide +kernel
theorem nz2 : Cr.raw 4158167844 (List.replicate 64 0) = 2345306063 := by decide +kernel
theorem nz3 : Cr.raw 2345306063 (List.replicate 64 0) = 1200442991 := by decide +kernel
theorem nz4 : Cr.raw 1200442991 (List.replicate 64 0) = 64332339 := by decide +kernel
theorem nz5 : Cr.raw 64332339 (List.replicate 64 0) = 1158271177 := by decide +kernel
theorem nz6 : Cr.raw 1158271177 (List.replicate 64 0) = 3425213895 := by decide +kernel
theorem nz7 : Cr.raw 3425213895 (List.replicate 60 0) = 329799228 := by decide +kernel
theorem noughts_raw : Cr.raw 4294967295 (List.replicate 508 0) = 329799228 := by
 have e : ∀ j : Nat, List.replicate (64 + j) 0 = List.replicate 64 0 ++ List.replicate j 0 := fun j => (List.replicate_append_replicate ..).symm
 rw [show 508 = 64 + 444 from rfl, e, Cr.raw_append, nz0, show 444 = 64 + 380 from rfl, e, Cr.raw_append, nz1, show 380 = 64 + 316 from rfl, e, Cr.raw_append, nz2, show 316 = 64 + 252 from rfl, e, Cr.raw_append, nz3, show 252 = 64 + 188 from rfl, e, Cr.raw_append, nz4, show 188 = 64 + 124 from rfl, e, Cr.raw_append, nz5, show 124 = 64 + 60 from rfl, e, Cr.raw_append, nz6, nz7]
theorem noughts_sum : four (Cr.of (List.replicate 508 0)) ≠ [0, 0, 0, 0] := by
 intro h
 have h32 : Cr.B32 (Cr.of (List.replicate 508 0)) := Cr.of_b32 (fun x hx => by rw [List.eq_of_mem_replicate hx]; omega)
 have h0 := four_inj h32 Cr.zero_b32 (h.trans (by decide))
 rw [Cr.of_eq, Cr.ones_eq, noughts_raw, Cr.flip_eq, Cr.ones_eq] at h0
 exact absurd h0 (by decide)
theorem noughts (n : Int) : (getE n (List.replicate 512 0)).2.2 ≠ 0 := by
 intro h
 obtain ⟨⟨k', c, e⟩, hq⟩ : ∃ r, getE n (List.replicate 512 0) = r := ⟨_, rfl⟩
 rw [hq] at h
 simp only at h
 subst h
 obtain ⟨-, hQ, hc4, -, -⟩ := getE_put (putE_get hq)
 have t : (List.replicate 512 0).take 4 = four (Cr.of ((List.replicate 512 0).drop 4)) := by rw [hQ, page_take, page_drop]
 rw [List.drop_replicate, List.take_replicate] at t
 exact noughts_sum t.symm
end Go.Proofs.YtiafeniflkikeaaGreat.Pg
namespace Go.Proofs.YtiafeniflkikeaaGreat.Mt
def putF : Nat → Nat → List Nat
 | 0, n => [n]
 | k + 1, n => if n < 128 then [n] else (n % 128 + 128) :: putF k (n / 128)
def put (n : Nat) : List Nat := putF 9 n
def B64 (n : Nat) : Prop := n < 18446744073709551616
theorem putF_succ (k n : Nat) : putF (k + 1) n = if n < 128 then [n] else (n % 128 + 128) :: putF k (n / 128) := rfl
theorem putF_more (k : Nat) : ∀ n, n < 128 ^ (k + 1) → putF (k + 1) n = putF k n := by
  induction k with
  | zero => intro n h; have : n < 128 := by simpa using h
            simp [putF, this]
  | succ k ih =>
    intro n h
    rw [putF_succ (k + 1) n, putF_succ k n]
    by_cases hn : n < 128
    · rw [if_pos hn, if_pos hn]
    · rw [if_neg hn, if_neg hn, ih (n / 128) (by rw [Nat.div_lt_iff_lt_mul (by decide)]; rw [Nat.pow_succ] at h; exact h)]
theorem put_small {n : Nat} (h : n < 128) : put n = [n] := by unfold put; rw [putF_succ 8, if_pos h]
theorem put_step {n : Nat} (h : 128 ≤ n) (hb : B64 n) : put n = (n % 128 + 128) :: put (n / 128) := by
 unfold B64 at hb
 show putF 9 n = _ :: putF 9 (n / 128)
 rw [putF_more 8 (n / 128) (by omega), putF_succ 8, if_neg (by omega)]
theorem putF_ne (k n : Nat) : putF k n ≠ [] := by cases k <;> simp only [putF] <;> (try split) <;> simp
theorem put_ne (n : Nat) : put n ≠ [] := putF_ne 9 n
theorem putF_len (k : Nat) : ∀ n, (putF k n).length ≤ k + 1 := by
  induction k with
  | zero => intro n; simp [putF]
  | succ k ih => intro n; rw [putF_succ]; split
                 · simp
                 · have := ih (n / 128); simp; omega
theorem put_len_le (n : Nat) : (put n).length ≤ 10 := putF_len 9 n
theorem put_len_pos (n : Nat) : 1 ≤ (put n).length := by
 have := put_ne n
 cases h : put n with
 | nil => exact absurd h this
 | cons => simp
theorem putF_lt (k : Nat) : ∀ n, n < 128 ^ k * 128 → ∀ x ∈ putF k n, x < 256 := by
 induction k with
 | zero => intro n h x hx; simp [putF] at hx; omega
 | succ k ih =>
  intro n h x hx
  rw [putF_succ] at hx
  by_cases hn : n < 128
  ·rw [if_pos hn] at hx; simp at hx; omega
  ·rw [if_neg hn] at hx
   rcases List.mem_cons.1 hx with rfl | hx
   ·omega
   ·exact ih (n / 128) (by rw [Nat.div_lt_iff_lt_mul (by decide)]; rw [Nat.pow_succ] at h; exact h) x hx
theorem put_lt {n : Nat} (hb : B64 n) : ∀ x ∈ put n, x < 256 := by unfold B64 at hb; exact putF_lt 9 n (by omega)
def ln (m : Nat) : Nat := if m = 0 then 0 else (put m).length
theorem ln_zero : ln 0 = 0 := rfl
theorem put_length {n : Nat} (hb : B64 n) : (put n).length = 1 + ln (n / 128) := by
 by_cases h : n < 128
 ·rw [put_small h]; have : n / 128 = 0 := by omega
  simp [ln, this]
 ·rw [put_step (by omega) hb]; have : n / 128 ≠ 0 := by omega
  simp [ln, this]; omega
theorem ln_step {m : Nat} (hb : B64 m) (h : 0 < m) : ln m = 1 + ln (m / 128) := by
 rw [← put_length hb]; unfold ln; rw [if_neg (by omega)]
theorem b64_div {m : Nat} (hb : B64 m) : B64 (m / 128) := by unfold B64 at *; omega
def rd (i X : Nat) : List Nat → Nat × Nat × Nat
 | [] => (0, 0, 4)
 | c :: r => if (i = 9 ∧ 1 < c) ∨ (0 < i ∧ c = 0) then (0, 0, 5) else if c < 128 then (X + c * 128 ^ i, i + 1, 0) else rd (i + 1) (X + c % 128 * 128 ^ i) r
def val : List Nat → Nat
 | [] => 0
 | c :: r => c % 128 + 128 * val r
theorem step_lt {k X c : Nat} (hX : X < 128 ^ k) : X + c % 128 * 128 ^ k < 128 ^ (k + 1) := by
 have h1 : c % 128 * 128 ^ k ≤ 127 * 128 ^ k := Nat.mul_le_mul_right _ (by omega)
 rw [Nat.pow_succ]; omega
def get (l : List Nat) (at_ : Int) : Nat × Nat × Nat :=
 if at_ < 0 ∨ (l.length : Int) < at_ then (0, 0, 2)
 else if (rd 0 0 (l.drop at_.toNat)).2.2 = 0 then ((rd 0 0 (l.drop at_.toNat)).1, at_.toNat + (rd 0 0 (l.drop at_.toNat)).2.1, 0) else (0, 0, (rd 0 0 (l.drop at_.toNat)).2.2)
theorem rd_nil (i X : Nat) : rd i X [] = (0, 0, 4) := rfl
theorem rd_form {i X c : Nat} {r : List Nat} (h : (i = 9 ∧ 1 < c) ∨ (0 < i ∧ c = 0)) : rd i X (c :: r) = (0, 0, 5) := by rw [rd, if_pos h]
theorem rd_last {i X c : Nat} {r : List Nat} (h : ¬ ((i = 9 ∧ 1 < c) ∨ (0 < i ∧ c = 0))) (hc : c < 128) : rd i X (c :: r) = (X + c * 128 ^ i, i + 1, 0) := by rw [rd, if_neg h, if_pos hc]
theorem rd_on {i X c : Nat} {r : List Nat} (h : ¬ (i = 9 ∧ 1 < c)) (hc : 128 ≤ c) : rd i X (c :: r) = rd (i + 1) (X + c % 128 * 128 ^ i) r := by rw [rd, if_neg (by omega), if_neg (by omega)]
theorem get_arg {l : List Nat} {a : Int} (h : a < 0 ∨ (l.length : Int) < a) : get l a = (0, 0, 2) := by unfold get; rw [if_pos h]
theorem get_ok {l : List Nat} {a n k : Nat} (h : a ≤ l.length) (hr : rd 0 0 (l.drop a) = (n, k, 0)) : get l a = (n, a + k, 0) := by
 unfold get
 rw [if_neg (by omega), Int.toNat_natCast, hr]; rfl
theorem get_err {l : List Nat} {a e : Nat} (h : a ≤ l.length) (hr : rd 0 0 (l.drop a) = (0, 0, e)) (he : e ≠ 0) : get l a = (0, 0, e) := by
 unfold get
 rw [if_neg (by omega), Int.toNat_natCast, hr]; simp [he]
theorem rd_putF (f : Nat) : ∀ (i X n : Nat) (r : List Nat), i + f = 9 → n < 128 ^ f * 2 → (0 < i → n ≠ 0) → rd i X (putF f n ++ r) = (X + n * 128 ^ i, i + (putF f n).length, 0) := by
 induction f with
 | zero =>
  intro i X n r hi hn h0
  have h0' := h0 (by omega)
  show rd i X (n :: r) = _
  rw [rd_last (by omega) (by omega)]
  simp [putF]
 | succ f ih =>
  intro i X n r hi hn h0
  rw [putF_succ]
  by_cases h : n < 128
  ·rw [if_pos h]
   show rd i X (n :: r) = _
   rw [rd_last (by omega) h]
   simp
  ·rw [if_neg h, List.cons_append, rd_on (by omega) (by omega), ih (i + 1) _ (n / 128) r (by omega) (by rw [Nat.div_lt_iff_lt_mul (by decide)]; rw [Nat.pow_succ] at hn; omega) (by omega)]
   have e1 : (n % 128 + 128) % 128 = n % 128 := by omega
   have e2 : n % 128 * 128 ^ i + n / 128 * 128 ^ (i + 1) = n * 128 ^ i := by
    rw [Nat.pow_succ, Nat.mul_comm (128 ^ i) 128, ← Nat.mul_assoc, ← Nat.add_mul]
    congr 1
    omega
   rw [e1, Nat.add_assoc, e2]
   simp
   omega
theorem rd_put {n : Nat} (hb : B64 n) (r : List Nat) : rd 0 0 (put n ++ r) = (n, (put n).length, 0) := by
 unfold B64 at hb
 have h := rd_putF 9 0 0 n r rfl (by omega) (by omega)
 simpa [put] using h
theorem rd_one (f : Nat) : ∀ (i X : Nat) (s : List Nat) (N K : Nat), i + f = 9 → (∀ x ∈ s, x < 256) → rd i X s = (N, K, 0) →
  ∃ n, N = X + n * 128 ^ i ∧ K = i + (putF f n).length ∧ (∃ r, s = putF f n ++ r) ∧ (0 < i → n ≠ 0) ∧ n < 128 ^ f * 2 := by
 induction f with
 | zero =>
  intro i X s N K hi hs h
  cases s with
  | nil => simp [rd] at h
  | cons c r =>
   have hc : c < 256 := hs c (by simp)
   rw [rd] at h
   split at h
   ·simp at h
   ·rw [if_pos (by omega)] at h
    simp only [Prod.mk.injEq] at h
    exact ⟨c, by omega, by simp [putF]; omega, ⟨r, rfl⟩, by omega, by omega⟩
 | succ f ih =>
  intro i X s N K hi hs h
  cases s with
  | nil => simp [rd] at h
  | cons c r =>
   have hc : c < 256 := hs c (by simp)
   rw [rd] at h
   split at h
   ·simp at h
   ·by_cases h1 : c < 128
    ·rw [if_pos h1] at h
     simp only [Prod.mk.injEq] at h
     have hp : 0 < 128 ^ f := Nat.pow_pos (by decide)
     refine ⟨c, by omega, ?_, ⟨r, ?_⟩, by omega, by rw [Nat.pow_succ]; omega⟩
     ·rw [putF_succ, if_pos h1]; simp; omega
     ·rw [putF_succ, if_pos h1]; rfl
    ·rw [if_neg h1] at h
     obtain ⟨m, hN, hK, ⟨r', hr⟩, hm0, hmb⟩ := ih (i + 1) _ r N K (by omega) (fun x hx => hs x (by simp [hx])) h
     have hm := hm0 (by omega)
     refine ⟨c % 128 + 128 * m, ?_, ?_, ⟨r', ?_⟩, by omega, by rw [Nat.pow_succ]; omega⟩
     ·rw [hN, Nat.pow_succ, Nat.add_mul, Nat.mul_comm 128 m, Nat.mul_assoc, Nat.mul_comm 128 (128 ^ i)]; omega
     ·rw [hK, putF_succ, if_neg (by omega)]
      have e : (c % 128 + 128 * m) / 128 = m := by omega
      rw [e]; simp; omega
     ·rw [putF_succ, if_neg (by omega)]
      have e : (c % 128 + 128 * m) / 128 = m := by omega
      have e2 : (c % 128 + 128 * m) % 128 + 128 = c := by omega
      rw [e, e2, hr]; rfl
theorem rd_ok {s : List Nat} {n k : Nat} (hs : ∀ x ∈ s, x < 256) (h : rd 0 0 s = (n, k, 0)) : B64 n ∧ k = (put n).length ∧ ∃ r, s = put n ++ r := by
 obtain ⟨m, hN, hK, hr, _, hb⟩ := rd_one 9 0 0 s n k rfl hs h
 have e : n = m := by simpa using hN
 subst e
 refine ⟨by unfold B64; omega, by simpa [put] using hK, hr⟩
end Go.Proofs.YtiafeniflkikeaaGreat.Mt
namespace Go.Proofs.YtiafeniflkikeaaGreat.Mt
theorem get_put {n : Nat} (hn : B64 n) (x y : List Nat) : get (x ++ put n ++ y) (x.length : Nat) = (n, x.length + (put n).length, 0) := by
 refine get_ok (by simp) ?_
 rw [List.append_assoc, List.drop_left]
 exact rd_put hn y
end Go.Proofs.YtiafeniflkikeaaGreat.Mt
namespace Go.Proofs.YtiafeniflkikeaaGreat.Mt
theorem rd_cases (f : Nat) : ∀ (i X : Nat) (s : List Nat), i + f = 9 → (∃ n k, rd i X s = (n, k, 0)) ∨ rd i X s = (0, 0, 4) ∨ rd i X s = (0, 0, 5) := by
 induction f with
 | zero =>
  intro i X s hi
  cases s with
  | nil => right; left; rfl
  | cons c r =>
   rw [rd]
   split
   ·right; right; rfl
   ·rw [if_pos (by omega)]; left; exact ⟨_, _, rfl⟩
 | succ f ih =>
  intro i X s hi
  cases s with
  | nil => right; left; rfl
  | cons c r =>
   rw [rd]
   split
   ·right; right; rfl
   ·by_cases h : c < 128
    ·rw [if_pos h]; left; exact ⟨_, _, rfl⟩
    ·rw [if_neg h]; exact ih (i + 1) _ r (by omega)
theorem get_cases {l : List Nat} (hl : ∀ x ∈ l, x < 256) (a : Int) :
  (∃ e, 2 ≤ e ∧ e ≤ 5 ∧ get l a = (0, 0, e)) ∨
  (∃ (k n : Nat) (r : List Nat), a = (k : Int) ∧ k < l.length ∧ B64 n ∧ l.drop k = put n ++ r ∧ k + (put n).length ≤ l.length ∧ get l a = (n, k + (put n).length, 0)) := by
 by_cases h : a < 0 ∨ (l.length : Int) < a
 ·exact .inl ⟨2, by omega, by omega, get_arg h⟩
 ·obtain ⟨k, rfl⟩ := Int.eq_ofNat_of_zero_le (show 0 ≤ a by omega)
  have hk : k ≤ l.length := by omega
  rcases rd_cases 9 0 0 (l.drop k) rfl with ⟨n, m, hr⟩ | hr | hr
  ·obtain ⟨hb, hm, r, hs⟩ := rd_ok (fun x hx => hl x (List.mem_of_mem_drop hx)) hr
   have hlen := congrArg List.length hs
   have hp := put_len_pos n
   rw [List.length_drop, List.length_append] at hlen
   refine .inr ⟨k, n, r, rfl, by omega, hb, hs, by omega, ?_⟩
   rw [get_ok hk hr, hm]
  ·exact .inl ⟨4, by omega, by omega, get_err hk hr (by decide)⟩
  ·exact .inl ⟨5, by omega, by omega, get_err hk hr (by decide)⟩
end Go.Proofs.YtiafeniflkikeaaGreat.Mt
