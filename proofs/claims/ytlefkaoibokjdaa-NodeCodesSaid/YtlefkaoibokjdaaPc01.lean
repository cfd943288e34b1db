/-
  Math: Plain mathematics of chapter 1 (leb): the bytes of a number, how they are read, and what follows. No Go in sight.
  Mem: Words for memory: a slice of bytes that reads as a list of numbers, and what a call leaves behind.
  App: append on a slice of bytes that the call itself made: what it leaves, in the words of this text.
-/
import Derived.Test.YtlefkaoibokjdaaProg
import Derived.WalkKit
import Derived.WalkLawsBesides
import Derived.WalkSpells
import Derived.Outline
import Derived.Lib.Hide
import Derived.Laws.AppendOwnNone
namespace Go.Proofs.Ytlefkaoibokjdaa.Mt

/-- The bytes of a number, with so many groups ahead of the last. -/
def putF : Nat → Nat → List Nat
  | 0, n => [n]
  | k + 1, n => if n < 128 then [n] else (n % 128 + 128) :: putF k (n / 128)
def put (n : Nat) : List Nat := putF 9 n

def B64 (n : Nat) : Prop := n < 18446744073709551616

theorem putF_succ (k n : Nat) : putF (k + 1) n = if n < 128 then [n] else (n % 128 + 128) :: putF k (n / 128) := rfl
theorem putF_more (k : Nat) : ∀ n, n < 128 ^ (k + 1) → putF (k + 1) n = putF k n := by
  induction k with
  | zero => intro n h; have : n < 128 := by simpa using h
            simp [putF, this]
  | succ k ih =>
    intro n h
    rw [putF_succ (k + 1) n, putF_succ k n]
    by_cases hn : n < 128
    · rw [if_pos hn, if_pos hn]
    · rw [if_neg hn, if_neg hn, ih (n / 128) (by rw [Nat.div_lt_iff_lt_mul (by decide)]; rw [Nat.pow_succ] at h; exact h)]

theorem put_small {n : Nat} (h : n < 128) : put n = [n] := by unfold put; rw [putF_succ 8, if_pos h]
theorem put_step {n : Nat} (h : 128 ≤ n) (hb : B64 n) : put n = (n % 128 + 128) :: put (n / 128) := by
  unfold B64 at hb
  show putF 9 n = _ :: putF 9 (n / 128)
  rw [putF_more 8 (n / 128) (by omega), putF_succ 8, if_neg (by omega)]

theorem putF_ne (k n : Nat) : putF k n ≠ [] := by cases k <;> simp only [putF] <;> (try split) <;> simp
theorem put_ne (n : Nat) : put n ≠ [] := putF_ne 9 n
theorem putF_len (k : Nat) : ∀ n, (putF k n).length ≤ k + 1 := by
  induction k with
  | zero => intro n; simp [putF]
  | succ k ih => intro n; rw [putF_succ]; split
                 · simp
                 · have := ih (n / 128); simp; omega
theorem put_len_le (n : Nat) : (put n).length ≤ 10 := putF_len 9 n
theorem put_len_pos (n : Nat) : 1 ≤ (put n).length := by
  have := put_ne n
  cases h : put n with
  | nil => exact absurd h this
  | cons => simp
theorem putF_lt (k : Nat) : ∀ n, n < 128 ^ k * 128 → ∀ x ∈ putF k n, x < 256 := by
  induction k with
  | zero => intro n h x hx; simp [putF] at hx; omega
  | succ k ih =>
    intro n h x hx
    rw [putF_succ] at hx
    by_cases hn : n < 128
    · rw [if_pos hn] at hx; simp at hx; omega
    · rw [if_neg hn] at hx
      rcases List.mem_cons.1 hx with rfl | hx
      · omega
      · exact ih (n / 128) (by rw [Nat.div_lt_iff_lt_mul (by decide)]; rw [Nat.pow_succ] at h; exact h) x hx
theorem put_lt {n : Nat} (hb : B64 n) : ∀ x ∈ put n, x < 256 := by unfold B64 at hb; exact putF_lt 9 n (by omega)

/-- The length of the bytes of what is left behind a first group. -/
def ln (m : Nat) : Nat := if m = 0 then 0 else (put m).length
theorem ln_zero : ln 0 = 0 := rfl
theorem put_length {n : Nat} (hb : B64 n) : (put n).length = 1 + ln (n / 128) := by
  by_cases h : n < 128
  · rw [put_small h]; have : n / 128 = 0 := by omega
    simp [ln, this]
  · rw [put_step (by omega) hb]; have : n / 128 ≠ 0 := by omega
    simp [ln, this]; omega
theorem ln_step {m : Nat} (hb : B64 m) (h : 0 < m) : ln m = 1 + ln (m / 128) := by
  rw [← put_length hb]; unfold ln; rw [if_neg (by omega)]
theorem b64_div {m : Nat} (hb : B64 m) : B64 (m / 128) := by unfold B64 at *; omega
theorem ln_le (m : Nat) : ln m ≤ 10 := by unfold ln; split; · omega
                                          · exact put_len_le m
theorem ln_pos {m : Nat} (h : 0 < m) : 1 ≤ ln m := by unfold ln; rw [if_neg (by omega)]; exact put_len_pos m

theorem putF_len_iff (k : Nat) : ∀ f n, k < f → ((putF f n).length ≤ k + 1 ↔ n < 128 ^ (k + 1)) := by
  induction k with
  | zero =>
    intro f n h
    obtain ⟨f, rfl⟩ : ∃ g, f = g + 1 := ⟨f - 1, by omega⟩
    rw [putF_succ]
    by_cases hn : n < 128
    · simp [hn]
    · rw [if_neg hn]
      have := putF_ne f (n / 128)
      have : 1 ≤ (putF f (n / 128)).length := by
        cases hh : putF f (n / 128) with
        | nil => exact absurd hh this
        | cons => simp
      simp only [List.length_cons]
      omega
  | succ k ih =>
    intro f n h
    obtain ⟨f, rfl⟩ : ∃ g, f = g + 1 := ⟨f - 1, by omega⟩
    rw [putF_succ]
    by_cases hn : n < 128
    · have : 128 ≤ 128 ^ (k + 1 + 1) := by
        have := Nat.pow_le_pow_right (show 0 < 128 by decide) (show 1 ≤ k + 1 + 1 by omega)
        simpa using this
      simp [hn]; omega
    · rw [if_neg hn]
      have h1 := ih f (n / 128) (by omega)
      have h2 : n / 128 < 128 ^ (k + 1) ↔ n < 128 ^ (k + 1 + 1) := by rw [Nat.div_lt_iff_lt_mul (by decide), ← Nat.pow_succ]
      rw [← h2, ← h1]
      simp
theorem put_ten (n : Nat) : (put n).length = 10 ↔ 9223372036854775808 ≤ n := by
  have h := putF_len_iff 8 9 n (by omega)
  have h2 := putF_len 9 n
  unfold put
  omega
theorem put_mono {n m : Nat} (h : n ≤ m) : (put n).length ≤ (put m).length := by
  have h2 := put_len_le n
  have h3 := put_len_pos m
  by_cases hm : (put m).length ≤ 9
  · obtain ⟨k, hk⟩ : ∃ k, (put m).length = k + 1 := ⟨(put m).length - 1, by omega⟩
    have h4 := (putF_len_iff k 9 m (by omega)).1 (by unfold put at hk; omega)
    have h5 := (putF_len_iff k 9 n (by omega)).2 (by omega)
    unfold put at *
    omega
  · omega

/-! ### Reading -/
/-- What reading tells, from place i on, of a number of which X was read: the number, its bytes, the error's number. -/
def rd (i X : Nat) : List Nat → Nat × Nat × Nat
  | [] => (0, 0, 4)
  | c :: r => if (i = 9 ∧ 1 < c) ∨ (0 < i ∧ c = 0) then (0, 0, 5) else if c < 128 then (X + c * 128 ^ i, i + 1, 0) else rd (i + 1) (X + c % 128 * 128 ^ i) r
def val : List Nat → Nat
  | [] => 0
  | c :: r => c % 128 + 128 * val r
theorem step_lt {k X c : Nat} (hX : X < 128 ^ k) : X + c % 128 * 128 ^ k < 128 ^ (k + 1) := by
  have h1 : c % 128 * 128 ^ k ≤ 127 * 128 ^ k := Nat.mul_le_mul_right _ (by omega)
  rw [Nat.pow_succ]; omega
def get (l : List Nat) (at_ : Int) : Nat × Nat × Nat :=
  if at_ < 0 ∨ (l.length : Int) < at_ then (0, 0, 2)
  else if (rd 0 0 (l.drop at_.toNat)).2.2 = 0 then ((rd 0 0 (l.drop at_.toNat)).1, at_.toNat + (rd 0 0 (l.drop at_.toNat)).2.1, 0) else (0, 0, (rd 0 0 (l.drop at_.toNat)).2.2)

theorem rd_nil (i X : Nat) : rd i X [] = (0, 0, 4) := rfl
theorem rd_form {i X c : Nat} {r : List Nat} (h : (i = 9 ∧ 1 < c) ∨ (0 < i ∧ c = 0)) : rd i X (c :: r) = (0, 0, 5) := by rw [rd, if_pos h]
theorem rd_last {i X c : Nat} {r : List Nat} (h : ¬ ((i = 9 ∧ 1 < c) ∨ (0 < i ∧ c = 0))) (hc : c < 128) : rd i X (c :: r) = (X + c * 128 ^ i, i + 1, 0) := by rw [rd, if_neg h, if_pos hc]
theorem rd_on {i X c : Nat} {r : List Nat} (h : ¬ (i = 9 ∧ 1 < c)) (hc : 128 ≤ c) : rd i X (c :: r) = rd (i + 1) (X + c % 128 * 128 ^ i) r := by rw [rd, if_neg (by omega), if_neg (by omega)]

theorem get_arg {l : List Nat} {a : Int} (h : a < 0 ∨ (l.length : Int) < a) : get l a = (0, 0, 2) := by unfold get; rw [if_pos h]
theorem get_ok {l : List Nat} {a n k : Nat} (h : a ≤ l.length) (hr : rd 0 0 (l.drop a) = (n, k, 0)) : get l a = (n, a + k, 0) := by
  unfold get
  rw [if_neg (by omega), Int.toNat_natCast, hr]; rfl
theorem get_err {l : List Nat} {a e : Nat} (h : a ≤ l.length) (hr : rd 0 0 (l.drop a) = (0, 0, e)) (he : e ≠ 0) : get l a = (0, 0, e) := by
  unfold get
  rw [if_neg (by omega), Int.toNat_natCast, hr]; simp [he]

/-! ### What is put is got -/
theorem rd_putF (f : Nat) : ∀ (i X n : Nat) (r : List Nat), i + f = 9 → n < 128 ^ f * 2 → (0 < i → n ≠ 0) → rd i X (putF f n ++ r) = (X + n * 128 ^ i, i + (putF f n).length, 0) := by
  induction f with
  | zero =>
    intro i X n r hi hn h0
    have h0' := h0 (by omega)
    show rd i X (n :: r) = _
    rw [rd_last (by omega) (by omega)]
    simp [putF]
  | succ f ih =>
    intro i X n r hi hn h0
    rw [putF_succ]
    by_cases h : n < 128
    · rw [if_pos h]
      show rd i X (n :: r) = _
      rw [rd_last (by omega) h]
      simp
    · rw [if_neg h, List.cons_append, rd_on (by omega) (by omega), ih (i + 1) _ (n / 128) r (by omega) (by rw [Nat.div_lt_iff_lt_mul (by decide)]; rw [Nat.pow_succ] at hn; omega) (by omega)]
      have e1 : (n % 128 + 128) % 128 = n % 128 := by omega
      have e2 : n % 128 * 128 ^ i + n / 128 * 128 ^ (i + 1) = n * 128 ^ i := by
        rw [Nat.pow_succ, Nat.mul_comm (128 ^ i) 128, ← Nat.mul_assoc, ← Nat.add_mul]
        congr 1
        omega
      rw [e1, Nat.add_assoc, e2]
      simp
      omega
theorem rd_put {n : Nat} (hb : B64 n) (r : List Nat) : rd 0 0 (put n ++ r) = (n, (put n).length, 0) := by
  unfold B64 at hb
  have h := rd_putF 9 0 0 n r rfl (by omega) (by omega)
  simpa [put] using h

theorem rd_one (f : Nat) : ∀ (i X : Nat) (s : List Nat) (N K : Nat), i + f = 9 → (∀ x ∈ s, x < 256) → rd i X s = (N, K, 0) →
    ∃ n, N = X + n * 128 ^ i ∧ K = i + (putF f n).length ∧ (∃ r, s = putF f n ++ r) ∧ (0 < i → n ≠ 0) ∧ n < 128 ^ f * 2 := by
  induction f with
  | zero =>
    intro i X s N K hi hs h
    cases s with
    | nil => simp [rd] at h
    | cons c r =>
      have hc : c < 256 := hs c (by simp)
      rw [rd] at h
      split at h
      · simp at h
      · rw [if_pos (by omega)] at h
        simp only [Prod.mk.injEq] at h
        exact ⟨c, by omega, by simp [putF]; omega, ⟨r, rfl⟩, by omega, by omega⟩
  | succ f ih =>
    intro i X s N K hi hs h
    cases s with
    | nil => simp [rd] at h
    | cons c r =>
      have hc : c < 256 := hs c (by simp)
      rw [rd] at h
      split at h
      · simp at h
      · by_cases h1 : c < 128
        · rw [if_pos h1] at h
          simp only [Prod.mk.injEq] at h
          have hp : 0 < 128 ^ f := Nat.pow_pos (by decide)
          refine ⟨c, by omega, ?_, ⟨r, ?_⟩, by omega, by rw [Nat.pow_succ]; omega⟩
          · rw [putF_succ, if_pos h1]; simp; omega
          · rw [putF_succ, if_pos h1]; rfl
        · rw [if_neg h1] at h
          obtain ⟨m, hN, hK, ⟨r', hr⟩, hm0, hmb⟩ := ih (i + 1) _ r N K (by omega) (fun x hx => hs x (by simp [hx])) h
          have hm := hm0 (by omega)
          refine ⟨c % 128 + 128 * m, ?_, ?_, ⟨r', ?_⟩, by omega, by rw [Nat.pow_succ]; omega⟩
          · rw [hN, Nat.pow_succ, Nat.add_mul, Nat.mul_comm 128 m, Nat.mul_assoc, Nat.mul_comm 128 (128 ^ i)]; omega
          · rw [hK, putF_succ, if_neg (by omega)]
            have e : (c % 128 + 128 * m) / 128 = m := by omega
            rw [e]; simp; omega
          · rw [putF_succ, if_neg (by omega)]
            have e : (c % 128 + 128 * m) / 128 = m := by omega
            have e2 : (c % 128 + 128 * m) % 128 + 128 = c := by omega
            rw [e, e2, hr]; rfl
theorem rd_ok {s : List Nat} {n k : Nat} (hs : ∀ x ∈ s, x < 256) (h : rd 0 0 s = (n, k, 0)) : B64 n ∧ k = (put n).length ∧ ∃ r, s = put n ++ r := by
  obtain ⟨m, hN, hK, hr, _, hb⟩ := rd_one 9 0 0 s n k rfl hs h
  have e : n = m := by simpa using hN
  subst e
  refine ⟨by unfold B64; omega, by simpa [put] using hK, hr⟩

theorem put_free {n m : Nat} (hn : B64 n) (hm : B64 m) (h : put n = (put m).take (put n).length) : n = m := by
  have h1 := rd_put hn ((put m).drop (put n).length)
  have h2 := rd_put hm []
  have e : put n ++ (put m).drop (put n).length = put m ++ [] := by
    rw [List.append_nil]
    have h3 := List.take_append_drop (put n).length (put m)
    rw [← h] at h3
    exact h3
  rw [e, h2] at h1
  have := congrArg Prod.fst h1
  exact this.symm
end Go.Proofs.Ytlefkaoibokjdaa.Mt
namespace Go.Proofs.Ytlefkaoibokjdaa
open Go.RowKit
set_option linter.unusedVariables false

/-- The slice with address A and length l.length holds the bytes l, in a block below B. -/
def Bts (w : World) (B : Nat) (A : Option Addr) (l : List Nat) : Prop :=
  (∀ x ∈ l, x < 256) ∧ (0 < l.length → ∃ b off, A = some ⟨b, off, none⟩ ∧ b < B ∧ ∀ j c, l[j]? = some c → w.cell? ⟨b, off + j, none⟩ = some (.int .u8 (c : Nat)))

section
variable {w w' : World} {B B' : Nat} {A : Option Addr} {l : List Nat}
theorem Bts.nil_ (w : World) (B : Nat) (A : Option Addr) : Bts w B A [] := ⟨by simp, by simp⟩
theorem Bts.at_ (h : Bts w B A l) {k : Nat} (hk : k < l.length) :
    ∃ b off c, A = some ⟨b, off, none⟩ ∧ b < B ∧ c < 256 ∧ l.drop k = c :: l.drop (k + 1) ∧ w.cell? ⟨b, off + k, none⟩ = some (.int .u8 (c : Nat)) := by
  obtain ⟨b, off, e, hb, hc⟩ := h.2 (by omega)
  exact ⟨b, off, l[k], e, hb, h.1 _ (List.getElem_mem hk), List.drop_eq_getElem_cons hk, hc k _ (List.getElem?_eq_getElem hk)⟩
theorem Bts.below (h : Bts w B A l) (hb : Below B' w w') (hB : B ≤ B') : Bts w' B A l :=
  ⟨h.1, fun hn => by
    obtain ⟨b, off, e, hl, hc⟩ := h.2 hn
    exact ⟨b, off, e, hl, fun j c hj => (hb.cell (p := ⟨b, off + j, none⟩) (by show b < B'; omega)).trans (hc j c hj)⟩⟩
theorem Bts.mono (h : Bts w B A l) (hB : B ≤ B') : Bts w B' A l :=
  ⟨h.1, fun hn => by
    obtain ⟨b, off, e, hl, hc⟩ := h.2 hn
    exact ⟨b, off, e, by omega, hc⟩⟩
end

/-- A call that answers this bool, and turns nothing that was there. -/
def IsBool (b : Bool) (w : World) (e : Ending) (w' : World) : Prop := e = .returned (.bool b) ∧ Below w.heap.size w w'
end Go.Proofs.Ytlefkaoibokjdaa
namespace Go.Proofs.Ytlefkaoibokjdaa
open Go.RowKit
set_option linter.unusedVariables false

def u8 (x : Nat) : Value := .int .u8 (x : Nat)

/-- The call's own slice v, in a block from base on, holds the bytes l. -/
def OwnB (w : World) (base : Nat) (v : Value) (l : List Nat) : Prop := (∀ x ∈ l, x < 256) ∧ w.ownsRow base 5 1 v l.length (l.map u8)

/-- The value v is a slice that holds the bytes l, in a block below B. -/
def Bv (w : World) (B : Nat) (v : Value) (l : List Nat) : Prop := ∃ A c, v = .slice A l.length c ∧ l.length ≤ c ∧ c ≤ maxLen ∧ (A = none → c = 0) ∧ Bts w B A l

theorem info5 : (Try.prog.info? 5).map (fun i => (i.zero, i.size, i.bytes)) = some (some (.int .u8 0), 1, 1) := by kernel_rfl

section
variable {w w' : World} {base B : Nat} {v : Value} {l : List Nat}
theorem OwnB.nil_ (w : World) (base : Nat) : OwnB w base (.slice none 0 0) [] := ⟨by simp, World.ownsRow_nil w base _ 1⟩
theorem OwnB.lt_ (h : OwnB w base v l) : ∀ k, v.ownBlock = some k → base ≤ k ∧ k < w.heap.size := h.2.lt
theorem OwnB.form_ (h : OwnB w base v l) : Bv w w.heap.size v l := by
  obtain ⟨hb, hl, ⟨rfl, h0⟩ | ⟨g, cap, cur, rfl, hg, hh, hn, hc, hs, ht⟩⟩ := h
  · obtain rfl : l = [] := List.eq_nil_of_length_eq_zero h0
    exact ⟨none, 0, rfl, by simp, by simp [maxLen], by simp, Bts.nil_ _ _ _⟩
  · refine ⟨some ⟨g, 0, none⟩, cap, rfl, hn, hc, by simp, hb, fun _ => ⟨g, 0, rfl, ?_, fun j c hj => ?_⟩⟩
    · rcases Nat.lt_or_ge g w.heap.size with h1 | h1
      · exact h1
      · rw [Array.getElem?_eq_none h1] at hh; cases hh
    · rw [Nat.zero_add, cell_of_row w g j cur _ (0, 0) hh]
      have hj' : j < l.length := (List.getElem?_eq_some_iff.1 hj).1
      have h2 : (l.map u8)[j]? = some (u8 c) := by rw [List.getElem?_map, hj]; rfl
      rw [← ht, List.getElem?_take, if_pos (by omega)] at h2
      simpa [u8] using h2
theorem OwnB.kept_ (h : OwnB w base v l) {row : Option Nat} (hg : w.grownBy w' row) (hne : v.ownBlock = none ∨ v.ownBlock ≠ row) : OwnB w' base v l := ⟨h.1, h.2.kept hg hne⟩
theorem OwnB.alloc_ (h : OwnB w base v l) (o : Obj) : OwnB (w.alloc o) base v l := ⟨h.1, h.2.alloc o⟩
theorem OwnB.drewN_ (h : OwnB w base v l) (n : Nat) : OwnB (w.drewN n) base v l := h
theorem OwnB.below_ (h : OwnB w base v l) {B : Nat} (hb : Below B w w') (hB : w.heap.size ≤ B) : OwnB w' base v l := by
  refine ⟨h.1, h.2.1, ?_⟩
  rcases h.2.2 with hn | ⟨g, cap, cur, rfl, hg, hh, hr⟩
  · exact .inl hn
  · refine .inr ⟨g, cap, cur, rfl, hg, ?_, hr⟩
    have hlt : g < w.heap.size := (Array.getElem?_eq_some_iff.1 hh).1
    rw [hb.block g (by omega)]
    exact hh
theorem OwnB.mono_ (h : OwnB w base v l) {base' : Nat} (hb : base' ≤ base) : OwnB w base' v l := by
  refine ⟨h.1, h.2.1, ?_⟩
  rcases h.2.2 with hn | ⟨g, cap, cur, rfl, hg, hr⟩
  · exact .inl hn
  · exact .inr ⟨g, cap, cur, rfl, by omega, hr⟩
theorem OwnB.lit_ (w : World) {base : Nat} (hb : base ≤ w.heap.size) {c : Nat} {x : Int} (hx : x = (c : Nat)) (hc : c < 256) : OwnB (w.alloc (.cells #[.int .u8 x] 5)) base (.slice (some ⟨w.heap.size, 0, none⟩) 1 1) [c] := by
  subst hx
  exact ⟨by simpa using hc, by simpa [u8] using World.ownsRow_lit (base := base) (e := 5) (size := 1) w #[.int .u8 (c : Nat)] 1 hb (by simp [maxLen]) (by simp)⟩
theorem Bv.below_ (h : Bv w B v l) {B' : Nat} (hb : Below B' w w') (hB : B ≤ B') : Bv w' B v l := by
  obtain ⟨A, c, e, h1, h2, h3, h4⟩ := h
  exact ⟨A, c, e, h1, h2, h3, h4.below hb hB⟩
theorem Bv.mono_ (h : Bv w B v l) {B' : Nat} (hB : B ≤ B') : Bv w B' v l := by
  obtain ⟨A, c, e, h1, h2, h3, h4⟩ := h
  exact ⟨A, c, e, h1, h2, h3, h4.mono hB⟩
theorem Bv.take_ {A : Option Addr} {n c : Nat} (h : Bv w B (.slice A n c) l) {k : Nat} (hk : k ≤ l.length) : Bv w B (.slice A k c) (l.take k) := by
  obtain ⟨A', c', e, h1, h2, h3, h4, h5⟩ := h
  injection e with e1 e2 e3
  subst e1 e3
  refine ⟨A, c, by rw [List.length_take, Nat.min_eq_left hk], by rw [List.length_take]; omega, h2, h3, fun x hx => h4 x (List.mem_of_mem_take hx), fun hp => ?_⟩
  obtain ⟨b, off, e, hb, hc⟩ := h5 (by rw [List.length_take] at hp; omega)
  refine ⟨b, off, e, hb, fun j u hj => hc j u ?_⟩
  rw [List.getElem?_take] at hj
  split at hj
  · exact hj
  · cases hj
theorem Bv.one_ (w : World) {c : Nat} {x : Int} (hx : x = (c : Nat)) (hc : c < 256) : Bv (w.alloc (.cells #[.int .u8 x] 5)) (w.heap.size + 1) (.slice (some ⟨w.heap.size, 0, none⟩) 1 1) [c] := by
  subst hx
  have h := (OwnB.lit_ w (Nat.le_refl _) rfl hc).form_
  simpa using h
end

theorem or128 (q : Nat) : bits BinOp.or IntKind.u8 ((q : Int) % 256) 128 = ((q % 128 + 128 : Nat) : Int) := by
  have h := (bits_nat .u8 8 (by decide) wraps_u8 (q % 256) 128 (by omega) (by decide)).2
  have hd : ∀ a : Nat, a < 256 → (a ||| 128) = a % 128 + 128 := by decide +kernel
  rw [hd _ (by omega)] at h
  have e : (q : Int) % 256 = ((q % 256 : Nat) : Int) := by simp
  rw [e]
  refine h.trans ?_
  congr 2
  omega

theorem and127 (c : Nat) (hc : c < 256) : bits BinOp.and IntKind.u8 (c : Int) 127 = ((c % 128 : Nat) : Int) := by
  have h := bits_mask .u8 8 (by decide) wraps_u8 7 (by decide) (c : Int) (by omega) (by omega)
  refine h.trans ?_
  simp

theorem wraps_u64 (n : Int) (h₀ : 0 ≤ n) (h₁ : n < 2 ^ 64) : IntKind.u64.wrap n = n := by rw [IntKind.wrap_u64]; omega

theorem or_step (k X c : Nat) (hk : k ≤ 9) (hX : X < 128 ^ k) (hc : c < 256) (h9 : 8 < k → c % 128 < 2) :
    bits BinOp.or IntKind.u64 (X : Int) (IntKind.u64.wrap (IntKind.u64.wrap (bits BinOp.and IntKind.u8 (c : Int) 127) * 2 ^ (7 * k))) = ((X + c % 128 * 128 ^ k : Nat) : Int) := by
  have e : (128 : Nat) ^ k = 2 ^ (7 * k) := by rw [Nat.pow_mul]
  rw [e] at hX ⊢
  have hlt : c % 128 * 2 ^ (7 * k) < 2 ^ 64 := by
    by_cases h8 : 8 < k
    · obtain rfl : k = 9 := by omega
      have := h9 h8
      omega
    · have h1 : c % 128 * 2 ^ (7 * k) < 128 * 2 ^ (7 * k) := Nat.mul_lt_mul_of_pos_right (by omega) (Nat.two_pow_pos _)
      have h2 : (2 : Nat) ^ (7 * k) ≤ 2 ^ 56 := Nat.pow_le_pow_right (by decide) (by omega)
      omega
  have hX64 : X < 2 ^ 64 := by
    have h2 : (2 : Nat) ^ (7 * k) ≤ 2 ^ 63 := Nat.pow_le_pow_right (by decide) (by omega)
    omega
  rw [and127 c hc, wraps_u64 ((c % 128 : Nat) : Int) (by omega) (by omega)]
  have e2 : ((c % 128 : Nat) : Int) * 2 ^ (7 * k) = ((c % 128 * 2 ^ (7 * k) : Nat) : Int) := by simp
  rw [e2, wraps_u64 ((c % 128 * 2 ^ (7 * k) : Nat) : Int) (by omega) (by exact_mod_cast hlt), (bits_nat .u64 64 (by decide) wraps_u64 X _ hX64 hlt).2, Nat.or_comm, Nat.mul_comm, ← Nat.two_pow_add_eq_or_of_lt hX, Nat.mul_comm, Nat.add_comm]

/-- What an append leaves. -/
structure Apd (w w' : World) (base : Nat) (v v' : Value) (l : List Nat) : Prop where
  own : OwnB w' base v' l
  grown : w.grownBy w' v.ownBlock

set_option maxRecDepth 100000 in
theorem run_append_bytes (w : World) (base : Nat) (v : Value) (l : List Nat) (hown : OwnB w base v l) (x : Value) (B : Nat) (m : List Nat) (hx : Bv w B x m) (hsz : l.length + m.length ≤ 140737488355328) (hbase : base ≤ w.heap.size) :
    ∃ v' w', (Builtin.append_ #[27, 27] 27 #[v, x]).run Try.prog w = .ok v' w' ∧ Apd w w' base v v' (l ++ m) := by
  obtain ⟨i0, hi, hz0, hz1, hz2⟩ := info_parts info5
  obtain ⟨A, c, rfl, hmc, hcm, hnil, hm⟩ := hx
  cases A with
  | none =>
    obtain rfl := hnil rfl
    obtain rfl : m = [] := List.eq_nil_of_length_eq_zero (by omega)
    refine ⟨v, w, run_append_owned_none w base _ _ _ i0 1 Try.underlying27 hi v l.length _ hown.2, by simpa using hown, ⟨rfl, rfl, rfl, Nat.le_refl _, fun _ _ _ => rfl⟩⟩
  | some ad =>
    have hnews : ∀ j u, (m.map u8)[j]? = some u → w.cell? (ad.add j) = some u := by
      intro j u hu
      rw [List.getElem?_map] at hu
      cases hj : m[j]? with
      | none => rw [hj] at hu; cases hu
      | some c =>
        rw [hj] at hu
        have hj' : j < m.length := (List.getElem?_eq_some_iff.1 hj).1
        obtain ⟨b, off, e, _, hc⟩ := hm.2 (by omega)
        injection e with e
        subst e
        have := hc j c hj
        have ea : (⟨b, off, none⟩ : Addr).add j = ⟨b, off + j, none⟩ := by unfold Addr.add; split <;> simp_all
        rw [ea, this]
        simpa [u8] using hu
    obtain ⟨v', w', hr, h1, h2, h3⟩ := run_append_own w base 27 27 5 i0 (.int .u8 0) 1 1 Try.underlying27 hi hz0 hz1 hz2 rfl (by decide) v l.length (l.map u8) hown.2 ad m.length c (m.map u8) (by simp) hnews
      (by intro u hu; obtain ⟨_, _, rfl⟩ := List.mem_map.1 hu; rfl) (by simp only [maxLen]; omega) (by omega) hbase
    refine ⟨v', w', hr, ⟨⟨?_, by simpa using h1⟩, h2⟩⟩
    intro x hx
    rcases List.mem_append.1 hx with h | h
    · exact hown.1 x h
    · exact hm.1 x h

theorem wpList_append_bytes (w : World) {ops : Array Oper} {rest : List Oper} {o : Oper} {a : Act} {Q : Exit → Act → World → Prop} (hgd : o.guard = none) (s t : Operand)
    (ho : o.op = .call { callee := .builtin .append, args := #[s, t], argTypes := #[27, 27] }) (hty : o.type = 27)
    (base : Nat) (v : Value) (hs : a.eval s = v) (l : List Nat) (hown : OwnB w base v l) (x : Value) (hx0 : a.eval t = x) (B : Nat) (m : List Nat) (hx : Bv w B x m) (hsz : l.length + m.length ≤ 140737488355328) (hbase : base ≤ w.heap.size)
    (h : ∀ A c w', Apd w w' base v (.slice A (l ++ m).length c) (l ++ m) → wpList Try.prog ops Q rest (a.put o.dst (.slice A (l ++ m).length c)) w') : wpList Try.prog ops Q (o :: rest) a w :=
  wpList_plain hgd fun K hK => by
    obtain ⟨v', w', hr, hA⟩ := run_append_bytes w base v l hown x B m hx hsz hbase
    obtain ⟨A, c, rfl, _⟩ := hA.own.form_
    unfold Oper.wp execOp
    simp only [ho, resolve, invoke, builtin, Sem.run_bind, Sem.run_pure, Result.andThen_ok, List.map_toArray, List.map_cons, List.map_nil, hs, hx0, hr, hty]
    exact hK _ _ (h A c w' hA)
end Go.Proofs.Ytlefkaoibokjdaa
