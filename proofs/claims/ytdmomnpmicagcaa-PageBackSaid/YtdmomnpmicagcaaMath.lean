/-
  Plain mathematics of chapter 1 (leb): the bytes of a number, how they are read, and what follows. No Go in sight.
-/
namespace Go.Proofs.Ytdmomnpmicagcaa.Mt

/-- The bytes of a number, with so many groups ahead of the last. -/
def putF : Nat → Nat → List Nat
  | 0, n => [n]
  | k + 1, n => if n < 128 then [n] else (n % 128 + 128) :: putF k (n / 128)
def put (n : Nat) : List Nat := putF 9 n

def B64 (n : Nat) : Prop := n < 18446744073709551616

theorem putF_succ (k n : Nat) : putF (k + 1) n = if n < 128 then [n] else (n % 128 + 128) :: putF k (n / 128) := rfl
theorem putF_more (k : Nat) : ∀ n, n < 128 ^ (k + 1) → putF (k + 1) n = putF k n := by
  induction k with
  | zero => intro n h; have : n < 128 := by simpa using h
            simp [putF, this]
  | succ k ih =>
    intro n h
    rw [putF_succ (k + 1) n, putF_succ k n]
    by_cases hn : n < 128
    · rw [if_pos hn, if_pos hn]
    · rw [if_neg hn, if_neg hn, ih (n / 128) (by rw [Nat.div_lt_iff_lt_mul (by decide)]; rw [Nat.pow_succ] at h; exact h)]

theorem put_small {n : Nat} (h : n < 128) : put n = [n] := by unfold put; rw [putF_succ 8, if_pos h]
theorem put_step {n : Nat} (h : 128 ≤ n) (hb : B64 n) : put n = (n % 128 + 128) :: put (n / 128) := by
  unfold B64 at hb
  show putF 9 n = _ :: putF 9 (n / 128)
  rw [putF_more 8 (n / 128) (by omega), putF_succ 8, if_neg (by omega)]

theorem putF_ne (k n : Nat) : putF k n ≠ [] := by cases k <;> simp only [putF] <;> (try split) <;> simp
theorem put_ne (n : Nat) : put n ≠ [] := putF_ne 9 n
theorem putF_len (k : Nat) : ∀ n, (putF k n).length ≤ k + 1 := by
  induction k with
  | zero => intro n; simp [putF]
  | succ k ih => intro n; rw [putF_succ]; split
                 · simp
                 · have := ih (n / 128); simp; omega
theorem put_len_le (n : Nat) : (put n).length ≤ 10 := putF_len 9 n
theorem put_len_pos (n : Nat) : 1 ≤ (put n).length := by
  have := put_ne n
  cases h : put n with
  | nil => exact absurd h this
  | cons => simp
theorem putF_lt (k : Nat) : ∀ n, n < 128 ^ k * 128 → ∀ x ∈ putF k n, x < 256 := by
  induction k with
  | zero => intro n h x hx; simp [putF] at hx; omega
  | succ k ih =>
    intro n h x hx
    rw [putF_succ] at hx
    by_cases hn : n < 128
    · rw [if_pos hn] at hx; simp at hx; omega
    · rw [if_neg hn] at hx
      rcases List.mem_cons.1 hx with rfl | hx
      · omega
      · exact ih (n / 128) (by rw [Nat.div_lt_iff_lt_mul (by decide)]; rw [Nat.pow_succ] at h; exact h) x hx
theorem put_lt {n : Nat} (hb : B64 n) : ∀ x ∈ put n, x < 256 := by unfold B64 at hb; exact putF_lt 9 n (by omega)

/-- The length of the bytes of what is left behind a first group. -/
def ln (m : Nat) : Nat := if m = 0 then 0 else (put m).length
theorem ln_zero : ln 0 = 0 := rfl
theorem put_length {n : Nat} (hb : B64 n) : (put n).length = 1 + ln (n / 128) := by
  by_cases h : n < 128
  · rw [put_small h]; have : n / 128 = 0 := by omega
    simp [ln, this]
  · rw [put_step (by omega) hb]; have : n / 128 ≠ 0 := by omega
    simp [ln, this]; omega
theorem ln_step {m : Nat} (hb : B64 m) (h : 0 < m) : ln m = 1 + ln (m / 128) := by
  rw [← put_length hb]; unfold ln; rw [if_neg (by omega)]
theorem b64_div {m : Nat} (hb : B64 m) : B64 (m / 128) := by unfold B64 at *; omega
theorem ln_le (m : Nat) : ln m ≤ 10 := by unfold ln; split; · omega
                                          · exact put_len_le m
theorem ln_pos {m : Nat} (h : 0 < m) : 1 ≤ ln m := by unfold ln; rw [if_neg (by omega)]; exact put_len_pos m

theorem putF_len_iff (k : Nat) : ∀ f n, k < f → ((putF f n).length ≤ k + 1 ↔ n < 128 ^ (k + 1)) := by
  induction k with
  | zero =>
    intro f n h
    obtain ⟨f, rfl⟩ : ∃ g, f = g + 1 := ⟨f - 1, by omega⟩
    rw [putF_succ]
    by_cases hn : n < 128
    · simp [hn]
    · rw [if_neg hn]
      have := putF_ne f (n / 128)
      have : 1 ≤ (putF f (n / 128)).length := by
        cases hh : putF f (n / 128) with
        | nil => exact absurd hh this
        | cons => simp
      simp only [List.length_cons]
      omega
  | succ k ih =>
    intro f n h
    obtain ⟨f, rfl⟩ : ∃ g, f = g + 1 := ⟨f - 1, by omega⟩
    rw [putF_succ]
    by_cases hn : n < 128
    · have : 128 ≤ 128 ^ (k + 1 + 1) := by
        have := Nat.pow_le_pow_right (show 0 < 128 by decide) (show 1 ≤ k + 1 + 1 by omega)
        simpa using this
      simp [hn]; omega
    · rw [if_neg hn]
      have h1 := ih f (n / 128) (by omega)
      have h2 : n / 128 < 128 ^ (k + 1) ↔ n < 128 ^ (k + 1 + 1) := by rw [Nat.div_lt_iff_lt_mul (by decide), ← Nat.pow_succ]
      rw [← h2, ← h1]
      simp
theorem put_ten (n : Nat) : (put n).length = 10 ↔ 9223372036854775808 ≤ n := by
  have h := putF_len_iff 8 9 n (by omega)
  have h2 := putF_len 9 n
  unfold put
  omega
theorem put_mono {n m : Nat} (h : n ≤ m) : (put n).length ≤ (put m).length := by
  have h2 := put_len_le n
  have h3 := put_len_pos m
  by_cases hm : (put m).length ≤ 9
  · obtain ⟨k, hk⟩ : ∃ k, (put m).length = k + 1 := ⟨(put m).length - 1, by omega⟩
    have h4 := (putF_len_iff k 9 m (by omega)).1 (by unfold put at hk; omega)
    have h5 := (putF_len_iff k 9 n (by omega)).2 (by omega)
    unfold put at *
    omega
  · omega

/-! ### Reading -/
/-- What reading tells, from place i on, of a number of which X was read: the number, its bytes, the error's number. -/
def rd (i X : Nat) : List Nat → Nat × Nat × Nat
  | [] => (0, 0, 4)
  | c :: r => if (i = 9 ∧ 1 < c) ∨ (0 < i ∧ c = 0) then (0, 0, 5) else if c < 128 then (X + c * 128 ^ i, i + 1, 0) else rd (i + 1) (X + c % 128 * 128 ^ i) r
def val : List Nat → Nat
  | [] => 0
  | c :: r => c % 128 + 128 * val r
theorem step_lt {k X c : Nat} (hX : X < 128 ^ k) : X + c % 128 * 128 ^ k < 128 ^ (k + 1) := by
  have h1 : c % 128 * 128 ^ k ≤ 127 * 128 ^ k := Nat.mul_le_mul_right _ (by omega)
  rw [Nat.pow_succ]; omega
def get (l : List Nat) (at_ : Int) : Nat × Nat × Nat :=
  if at_ < 0 ∨ (l.length : Int) < at_ then (0, 0, 2)
  else if (rd 0 0 (l.drop at_.toNat)).2.2 = 0 then ((rd 0 0 (l.drop at_.toNat)).1, at_.toNat + (rd 0 0 (l.drop at_.toNat)).2.1, 0) else (0, 0, (rd 0 0 (l.drop at_.toNat)).2.2)

theorem rd_nil (i X : Nat) : rd i X [] = (0, 0, 4) := rfl
theorem rd_form {i X c : Nat} {r : List Nat} (h : (i = 9 ∧ 1 < c) ∨ (0 < i ∧ c = 0)) : rd i X (c :: r) = (0, 0, 5) := by rw [rd, if_pos h]
theorem rd_last {i X c : Nat} {r : List Nat} (h : ¬ ((i = 9 ∧ 1 < c) ∨ (0 < i ∧ c = 0))) (hc : c < 128) : rd i X (c :: r) = (X + c * 128 ^ i, i + 1, 0) := by rw [rd, if_neg h, if_pos hc]
theorem rd_on {i X c : Nat} {r : List Nat} (h : ¬ (i = 9 ∧ 1 < c)) (hc : 128 ≤ c) : rd i X (c :: r) = rd (i + 1) (X + c % 128 * 128 ^ i) r := by rw [rd, if_neg (by omega), if_neg (by omega)]

theorem get_arg {l : List Nat} {a : Int} (h : a < 0 ∨ (l.length : Int) < a) : get l a = (0, 0, 2) := by unfold get; rw [if_pos h]
theorem get_ok {l : List Nat} {a n k : Nat} (h : a ≤ l.length) (hr : rd 0 0 (l.drop a) = (n, k, 0)) : get l a = (n, a + k, 0) := by
  unfold get
  rw [if_neg (by omega), Int.toNat_natCast, hr]; rfl
theorem get_err {l : List Nat} {a e : Nat} (h : a ≤ l.length) (hr : rd 0 0 (l.drop a) = (0, 0, e)) (he : e ≠ 0) : get l a = (0, 0, e) := by
  unfold get
  rw [if_neg (by omega), Int.toNat_natCast, hr]; simp [he]

/-! ### What is put is got -/
theorem rd_putF (f : Nat) : ∀ (i X n : Nat) (r : List Nat), i + f = 9 → n < 128 ^ f * 2 → (0 < i → n ≠ 0) → rd i X (putF f n ++ r) = (X + n * 128 ^ i, i + (putF f n).length, 0) := by
  induction f with
  | zero =>
    intro i X n r hi hn h0
    have h0' := h0 (by omega)
    show rd i X (n :: r) = _
    rw [rd_last (by omega) (by omega)]
    simp [putF]
  | succ f ih =>
    intro i X n r hi hn h0
    rw [putF_succ]
    by_cases h : n < 128
    · rw [if_pos h]
      show rd i X (n :: r) = _
      rw [rd_last (by omega) h]
      simp
    · rw [if_neg h, List.cons_append, rd_on (by omega) (by omega), ih (i + 1) _ (n / 128) r (by omega) (by rw [Nat.div_lt_iff_lt_mul (by decide)]; rw [Nat.pow_succ] at hn; omega) (by omega)]
      have e1 : (n % 128 + 128) % 128 = n % 128 := by omega
      have e2 : n % 128 * 128 ^ i + n / 128 * 128 ^ (i + 1) = n * 128 ^ i := by
        rw [Nat.pow_succ, Nat.mul_comm (128 ^ i) 128, ← Nat.mul_assoc, ← Nat.add_mul]
        congr 1
        omega
      rw [e1, Nat.add_assoc, e2]
      simp
      omega
theorem rd_put {n : Nat} (hb : B64 n) (r : List Nat) : rd 0 0 (put n ++ r) = (n, (put n).length, 0) := by
  unfold B64 at hb
  have h := rd_putF 9 0 0 n r rfl (by omega) (by omega)
  simpa [put] using h

theorem rd_one (f : Nat) : ∀ (i X : Nat) (s : List Nat) (N K : Nat), i + f = 9 → (∀ x ∈ s, x < 256) → rd i X s = (N, K, 0) →
    ∃ n, N = X + n * 128 ^ i ∧ K = i + (putF f n).length ∧ (∃ r, s = putF f n ++ r) ∧ (0 < i → n ≠ 0) ∧ n < 128 ^ f * 2 := by
  induction f with
  | zero =>
    intro i X s N K hi hs h
    cases s with
    | nil => simp [rd] at h
    | cons c r =>
      have hc : c < 256 := hs c (by simp)
      rw [rd] at h
      split at h
      · simp at h
      · rw [if_pos (by omega)] at h
        simp only [Prod.mk.injEq] at h
        exact ⟨c, by omega, by simp [putF]; omega, ⟨r, rfl⟩, by omega, by omega⟩
  | succ f ih =>
    intro i X s N K hi hs h
    cases s with
    | nil => simp [rd] at h
    | cons c r =>
      have hc : c < 256 := hs c (by simp)
      rw [rd] at h
      split at h
      · simp at h
      · by_cases h1 : c < 128
        · rw [if_pos h1] at h
          simp only [Prod.mk.injEq] at h
          have hp : 0 < 128 ^ f := Nat.pow_pos (by decide)
          refine ⟨c, by omega, ?_, ⟨r, ?_⟩, by omega, by rw [Nat.pow_succ]; omega⟩
          · rw [putF_succ, if_pos h1]; simp; omega
          · rw [putF_succ, if_pos h1]; rfl
        · rw [if_neg h1] at h
          obtain ⟨m, hN, hK, ⟨r', hr⟩, hm0, hmb⟩ := ih (i + 1) _ r N K (by omega) (fun x hx => hs x (by simp [hx])) h
          have hm := hm0 (by omega)
          refine ⟨c % 128 + 128 * m, ?_, ?_, ⟨r', ?_⟩, by omega, by rw [Nat.pow_succ]; omega⟩
          · rw [hN, Nat.pow_succ, Nat.add_mul, Nat.mul_comm 128 m, Nat.mul_assoc, Nat.mul_comm 128 (128 ^ i)]; omega
          · rw [hK, putF_succ, if_neg (by omega)]
            have e : (c % 128 + 128 * m) / 128 = m := by omega
            rw [e]; simp; omega
          · rw [putF_succ, if_neg (by omega)]
            have e : (c % 128 + 128 * m) / 128 = m := by omega
            have e2 : (c % 128 + 128 * m) % 128 + 128 = c := by omega
            rw [e, e2, hr]; rfl
theorem rd_ok {s : List Nat} {n k : Nat} (hs : ∀ x ∈ s, x < 256) (h : rd 0 0 s = (n, k, 0)) : B64 n ∧ k = (put n).length ∧ ∃ r, s = put n ++ r := by
  obtain ⟨m, hN, hK, hr, _, hb⟩ := rd_one 9 0 0 s n k rfl hs h
  have e : n = m := by simpa using hN
  subst e
  refine ⟨by unfold B64; omega, by simpa [put] using hK, hr⟩

theorem put_free {n m : Nat} (hn : B64 n) (hm : B64 m) (h : put n = (put m).take (put n).length) : n = m := by
  have h1 := rd_put hn ((put m).drop (put n).length)
  have h2 := rd_put hm []
  have e : put n ++ (put m).drop (put n).length = put m ++ [] := by
    rw [List.append_nil]
    have h3 := List.take_append_drop (put n).length (put m)
    rw [← h] at h3
    exact h3
  rw [e, h2] at h1
  have := congrArg Prod.fst h1
  exact this.symm
end Go.Proofs.Ytdmomnpmicagcaa.Mt
