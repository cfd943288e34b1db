/-
  RcMath: Plain mathematics of chapter 13 (record): a record's bytes.
  ShMath: Plain mathematics of chapter 4 (sha): words of 32 bits, a block pressed, what stands behind bytes. No Go in sight.
  ShOps: Words of 32 bits as the model's numbers: what Go's operations make of them. stookref04.turn, constant, begin.
  ShConst: stookref04.constant answers the constants.
-/
import Derived.Test.YtkialijipcbgkaaPk27
import Derived.Test.YtkialijipcbgkaaProg
import Derived.WalkKit
import Derived.Outline
import Derived.Below
import Derived.Lib.Hide
import Derived.Deep.WholeRow
namespace Go.Proofs.Ytkialijipcbgkaa.Rc
structure Rec where
  dig : List Nat
  id : Nat
  len : Int
  toks : List Int
  deriving DecidableEq
/-- A number's lowest bytes, the lowest first. -/
def le (n k : Nat) : List Nat := (List.range k).map fun i => n / 256 ^ i % 256
theorem le_len (n k : Nat) : (le n k).length = k := by simp [le]
theorem le_succ (n k : Nat) : le n (k + 1) = le n k ++ [n / 256 ^ k % 256] := by simp [le, List.range_succ]
theorem le_lt (n k : Nat) : ∀ x ∈ le n k, x < 256 := by
  intro x hx
  obtain ⟨i, _, rfl⟩ := List.mem_map.1 hx
  exact Nat.mod_lt _ (by omega)
theorem le_at (n : Nat) {i k : Nat} (h : i < k) : (le n k)[i]? = some (n / 256 ^ i % 256) := by simp [le, h]
/-- The number of eight bytes from 32 on, the highest k of them. -/
def hi (b : List Nat) : Nat → Nat
  | 0 => 0
  | k + 1 => 256 * hi b k + b.getD (39 - k) 0
theorem hi_lt {b : List Nat} (hb : ∀ x ∈ b, x < 256) : ∀ k, hi b k < 256 ^ k := by
  intro k
  induction k with
  | zero => simp [hi]
  | succ k ih =>
    have h : b.getD (39 - k) 0 < 256 := by
      rw [List.getD_eq_getElem?_getD]
      cases hq : b[39 - k]? with
      | none => simp
      | some x => exact hb x (List.mem_of_getElem? hq)
    rw [hi, Nat.pow_succ]
    omega
def put (r : Rec) (row : List Nat) : List Nat := r.dig ++ le r.id 8 ++ Mt.put r.len.toNat ++ row
def putE (r : Rec) : List Nat × Nat :=
  if r.len < 0 ∨ 4096 < r.len then ([], 2) else if (Pk.putE r.toks).2 ≠ 0 then ([], (Pk.putE r.toks).2) else (put r (Pk.putE r.toks).1, 0)
def zero : Rec := ⟨List.replicate 32 0, 0, 0, []⟩
def getE (b : List Nat) : Rec × Nat :=
  if b.length < 40 then (zero, 4)
  else if (Mt.count b 40 4096).2.2 ≠ 0 then (zero, (Mt.count b 40 4096).2.2)
  else if (Pk.getE b (Mt.count b 40 4096).2.1).2.2 ≠ 0 then (zero, (Pk.getE b (Mt.count b 40 4096).2.1).2.2)
  else if (Pk.getE b (Mt.count b 40 4096).2.1).2.1 ≠ b.length then (zero, 5)
  else (⟨b.take 32, hi b 8, (Mt.count b 40 4096).1, (Pk.getE b (Mt.count b 40 4096).2.1).1⟩, 0)
section
variable {b : List Nat} {r : Rec}
theorem putE_arg (h : r.len < 0 ∨ 4096 < r.len) : putE r = ([], 2) := if_pos h
theorem putE_err {e : Nat} {y : List Nat} (h : ¬ (r.len < 0 ∨ 4096 < r.len)) (hp : Pk.putE r.toks = (y, e)) (he : e ≠ 0) : putE r = ([], e) := by
  unfold putE; rw [if_neg h, hp, if_pos he]
theorem putE_ok {y : List Nat} (h : ¬ (r.len < 0 ∨ 4096 < r.len)) (hp : Pk.putE r.toks = (y, 0)) : putE r = (put r y, 0) := by
  unfold putE; rw [if_neg h, hp, if_neg (by simp)]
theorem getE_short (h : b.length < 40) : getE b = (zero, 4) := if_pos h
theorem getE_cnt {e : Nat} (h : ¬ b.length < 40) (hc : Mt.count b 40 4096 = (0, 0, e)) (he : e ≠ 0) : getE b = (zero, e) := by
  unfold getE; rw [if_neg h, hc, if_pos he]
theorem getE_row {n k e j : Nat} {l : List Int} (h : ¬ b.length < 40) (hc : Mt.count b 40 4096 = (n, k, 0)) (hg : Pk.getE b (k : Nat) = (l, j, e)) (he : e ≠ 0) : getE b = (zero, e) := by
  unfold getE; rw [if_neg h, hc, if_neg (by simp), hg, if_pos he]
theorem getE_form {n k j : Nat} {l : List Int} (h : ¬ b.length < 40) (hc : Mt.count b 40 4096 = (n, k, 0)) (hg : Pk.getE b (k : Nat) = (l, j, 0)) (hj : j ≠ b.length) : getE b = (zero, 5) := by
  unfold getE; rw [if_neg h, hc, if_neg (by simp), hg, if_neg (by simp), if_pos hj]
theorem getE_ok {n k j : Nat} {l : List Int} (h : ¬ b.length < 40) (hc : Mt.count b 40 4096 = (n, k, 0)) (hg : Pk.getE b (k : Nat) = (l, j, 0)) (hj : j = b.length) : getE b = (⟨b.take 32, hi b 8, n, l⟩, 0) := by
  unfold getE; rw [if_neg h, hc, if_neg (by simp), hg, if_neg (by simp), if_neg (by simpa using hj)]
end
/-- The eight bytes of a number, read again. -/
theorem hi_of {b : List Nat} {n : Nat} (hn : n < 18446744073709551616) (hb : ∀ i, i < 8 → b[32 + i]? = some (n / 256 ^ i % 256)) : hi b 8 = n := by
  have e : ∀ i, i < 8 → b.getD (32 + i) 0 = n / 256 ^ i % 256 := fun i hi => by rw [List.getD_eq_getElem?_getD, hb i hi]; rfl
  have e0 := e 0 (by omega)
  have e1 := e 1 (by omega)
  have e2 := e 2 (by omega)
  have e3 := e 3 (by omega)
  have e4 := e 4 (by omega)
  have e5 := e 5 (by omega)
  have e6 := e 6 (by omega)
  have e7 := e 7 (by omega)
  simp only [Nat.reduceAdd, Nat.reducePow] at e0 e1 e2 e3 e4 e5 e6 e7
  simp only [hi, Nat.reduceSub]
  omega
/-- The bytes of the number that is read are those that it was read of. -/
theorem le_hi {b : List Nat} (hb : ∀ x ∈ b, x < 256) (h : 40 ≤ b.length) : le (hi b 8) 8 = (b.drop 32).take 8 := by
  have g : ∀ i, i < 8 → ∃ x, x < 256 ∧ b[32 + i]? = some x ∧ b.getD (32 + i) 0 = x := fun i hi => by
    obtain ⟨x, hx⟩ : ∃ x, b[32 + i]? = some x := ⟨_, List.getElem?_eq_getElem (by omega)⟩
    exact ⟨x, hb x (List.mem_of_getElem? hx), hx, by rw [List.getD_eq_getElem?_getD, hx]; rfl⟩
  obtain ⟨x0, l0, g0, d0⟩ := g 0 (by omega)
  obtain ⟨x1, l1, g1, d1⟩ := g 1 (by omega)
  obtain ⟨x2, l2, g2, d2⟩ := g 2 (by omega)
  obtain ⟨x3, l3, g3, d3⟩ := g 3 (by omega)
  obtain ⟨x4, l4, g4, d4⟩ := g 4 (by omega)
  obtain ⟨x5, l5, g5, d5⟩ := g 5 (by omega)
  obtain ⟨x6, l6, g6, d6⟩ := g 6 (by omega)
  obtain ⟨x7, l7, g7, d7⟩ := g 7 (by omega)
  simp only [Nat.reduceAdd] at d0 d1 d2 d3 d4 d5 d6 d7
  have hh : hi b 8 = 256 * (256 * (256 * (256 * (256 * (256 * (256 * x7 + x6) + x5) + x4) + x3) + x2) + x1) + x0 := by
    simp only [hi, Nat.reduceSub, d0, d1, d2, d3, d4, d5, d6, d7]; omega
  apply List.ext_getElem?
  intro i
  by_cases h8 : i < 8
  · rw [le_at _ h8, List.getElem?_take, if_pos h8, List.getElem?_drop, hh]
    have hi8 : i = 0 ∨ i = 1 ∨ i = 2 ∨ i = 3 ∨ i = 4 ∨ i = 5 ∨ i = 6 ∨ i = 7 := by omega
    rcases hi8 with rfl | rfl | rfl | rfl | rfl | rfl | rfl | rfl
    · rw [g0]; congr 1; simp only [Nat.reducePow]; omega
    · rw [g1]; congr 1; simp only [Nat.reducePow]; omega
    · rw [g2]; congr 1; simp only [Nat.reducePow]; omega
    · rw [g3]; congr 1; simp only [Nat.reducePow]; omega
    · rw [g4]; congr 1; simp only [Nat.reducePow]; omega
    · rw [g5]; congr 1; simp only [Nat.reducePow]; omega
    · rw [g6]; congr 1; simp only [Nat.reducePow]; omega
    · rw [g7]; congr 1; simp only [Nat.reducePow]; omega
  · rw [List.getElem?_eq_none (by rw [le_len]; omega), List.getElem?_eq_none (by rw [List.length_take]; omega)]
/-- Get of Put is the record. -/
theorem getE_put {r : Rec} {p : List Nat} (hd : r.dig.length = 32) (hid : r.id < 18446744073709551616) (h : putE r = (p, 0)) : getE p = (r, 0) := by
  unfold putE at h
  by_cases h1 : r.len < 0 ∨ 4096 < r.len
  · rw [if_pos h1] at h; simp at h
  · rw [if_neg h1] at h
    by_cases h2 : (Pk.putE r.toks).2 ≠ 0
    · rw [if_pos h2] at h
      simp only [Prod.mk.injEq] at h
      exact absurd h.2 h2
    · rw [if_neg h2] at h
      obtain ⟨⟨q, e⟩, hq⟩ : ∃ x, Pk.putE r.toks = x := ⟨_, rfl⟩
      rw [hq] at h h2
      simp only [ne_eq, Decidable.not_not] at h2
      subst h2
      simp only [Prod.mk.injEq, and_true] at h
      subst h
      have hlen : (r.dig ++ le r.id 8).length = 40 := by rw [List.length_append, hd, le_len]
      have hB : Mt.B64 r.len.toNat := by unfold Mt.B64; omega
      have hg := Mt.get_put hB (r.dig ++ le r.id 8) q
      have hp : put r q = r.dig ++ le r.id 8 ++ Mt.put r.len.toNat ++ q := rfl
      rw [← hp, hlen] at hg
      have hpg := Pk.getE_put hq (r.dig ++ le r.id 8 ++ Mt.put r.len.toNat) []
      rw [List.append_nil, ← hp] at hpg
      have hl : (r.dig ++ le r.id 8 ++ Mt.put r.len.toNat).length = 40 + (Mt.put r.len.toNat).length := by rw [List.length_append, hlen]
      rw [hl] at hpg
      have hpl : (put r q).length = 40 + (Mt.put r.len.toNat).length + q.length := by rw [hp, List.length_append, hl]
      rw [getE_ok (by rw [hpl]; omega) (Mt.count_ok hg (by omega)) hpg hpl.symm]
      have t1 : (put r q).take 32 = r.dig := by rw [hp, List.append_assoc, List.append_assoc, List.take_left' hd]
      have t2 : hi (put r q) 8 = r.id := hi_of hid (fun i hi => by
        rw [hp, List.append_assoc, List.append_assoc, List.getElem?_append_right (by omega), hd, show 32 + i - 32 = i by omega, List.getElem?_append_left (by rw [le_len]; exact hi)]
        exact le_at _ hi)
      have t3 : ((r.len.toNat : Nat) : Int) = r.len := by omega
      rw [t1, t2, t3]
/-- Where Get answers OK, Put of it are the bytes. -/
theorem putE_get {b : List Nat} (hb : ∀ x ∈ b, x < 256) {r : Rec} (h : getE b = (r, 0)) : putE r = (b, 0) ∧ r.dig.length = 32 ∧ (∀ x ∈ r.dig, x < 256) ∧ r.id < 18446744073709551616 := by
  by_cases h1 : b.length < 40
  · rw [getE_short h1] at h; simp at h
  · rcases Mt.count_cases hb 40 4096 with ⟨e, h2, _, h3⟩ | ⟨k, n, y, hk, _, hn, h4, h5, h6, h7⟩
    · rw [getE_cnt h1 h3 (by omega)] at h; simp only [Prod.mk.injEq] at h; omega
    · obtain rfl : k = 40 := by omega
      obtain ⟨⟨l, j, e⟩, hg⟩ : ∃ x, Pk.getE b ((40 + (Mt.put n).length : Nat) : Int) = x := ⟨_, rfl⟩
      by_cases he : e = 0
      · subst he
        by_cases hj : j = b.length
        · rw [getE_ok h1 h6 hg hj] at h
          simp only [Prod.mk.injEq, and_true] at h
          subst h hj
          obtain ⟨k', y', hk', hp, -, -, -⟩ := Pk.getE_inv hb hg
          obtain rfl : k' = 40 + (Mt.put n).length := by omega
          refine ⟨?_, by simp; omega, fun x hx => hb x (List.mem_of_mem_take hx), by have := hi_lt hb 8; simpa using this⟩
          have e1 : putE ⟨b.take 32, hi b 8, (n : Int), l⟩ = (put ⟨b.take 32, hi b 8, (n : Int), l⟩ ((b.drop (40 + (Mt.put n).length)).take (b.length - (40 + (Mt.put n).length))), 0) :=
            putE_ok (by show ¬ ((n : Int) < 0 ∨ 4096 < (n : Int)); omega) hp
          rw [e1]
          congr 1
          show b.take 32 ++ le (hi b 8) 8 ++ Mt.put ((n : Int)).toNat ++ _ = b
          have z0 : (b.drop (40 + (Mt.put n).length)).take (b.length - (40 + (Mt.put n).length)) = b.drop (40 + (Mt.put n).length) := List.take_of_length_le (by rw [List.length_drop]; exact Nat.le_refl _)
          have z1 : (b.drop 32).take 8 ++ b.drop 40 = b.drop 32 := by
            have := List.take_append_drop 8 (b.drop 32)
            rwa [List.drop_drop] at this
          have z2 : Mt.put n ++ b.drop (40 + (Mt.put n).length) = b.drop 40 := by
            rw [← List.drop_drop, h4, List.drop_left]
          rw [le_hi hb (by omega), Int.toNat_natCast, z0, List.append_assoc, List.append_assoc, z2, z1, List.take_append_drop]
        · rw [getE_form h1 h6 hg hj] at h; simp at h
      · rw [getE_row h1 h6 hg he] at h
        simp only [Prod.mk.injEq] at h
        exact absurd h.2 he
/-- What Get answers with an error is the zero record. -/
theorem getE_bad {b : List Nat} (hb : ∀ x ∈ b, x < 256) {r : Rec} {e : Nat} (h : getE b = (r, e)) (he : e ≠ 0) : r = zero := by
  by_cases h1 : b.length < 40
  · rw [getE_short h1] at h; simp only [Prod.mk.injEq] at h; exact h.1.symm
  · rcases Mt.count_cases hb 40 4096 with ⟨e', h2, _, h3⟩ | ⟨k, n, y, hk, _, hn, h4, h5, h6, h7⟩
    · rw [getE_cnt h1 h3 (by omega)] at h; simp only [Prod.mk.injEq] at h; exact h.1.symm
    · obtain ⟨⟨l, j, e'⟩, hg⟩ : ∃ x, Pk.getE b ((k + (Mt.put n).length : Nat) : Int) = x := ⟨_, rfl⟩
      by_cases hz : e' = 0
      · subst hz
        by_cases hj : j = b.length
        · rw [getE_ok h1 h6 hg hj] at h
          simp only [Prod.mk.injEq] at h
          exact absurd h.2.symm he
        · rw [getE_form h1 h6 hg hj] at h; simp only [Prod.mk.injEq] at h; exact h.1.symm
      · rw [getE_row h1 h6 hg hz] at h
        simp only [Prod.mk.injEq] at h; exact h.1.symm
end Go.Proofs.Ytkialijipcbgkaa.Rc
namespace Go.Proofs.Ytkialijipcbgkaa.Sh

abbrev W32 := BitVec 32
/-- A word turned right. -/
def rot (x : W32) (n : Nat) : W32 := x >>> n ||| x <<< (32 - n)
def sig0 (x : W32) : W32 := rot x 7 ^^^ rot x 18 ^^^ x >>> 3
def sig1 (x : W32) : W32 := rot x 17 ^^^ rot x 19 ^^^ x >>> 10
def Sig0 (x : W32) : W32 := rot x 2 ^^^ rot x 13 ^^^ rot x 22
def Sig1 (x : W32) : W32 := rot x 6 ^^^ rot x 11 ^^^ rot x 25
def ch (e f g : W32) : W32 := e &&& f ||| ~~~e &&& g
def maj (a b c : W32) : W32 := a &&& b ||| a &&& c ||| b &&& c

def consts : List W32 := [
  0x428a2f98, 0x71374491, 0xb5c0fbcf, 0xe9b5dba5, 0x3956c25b, 0x59f111f1, 0x923f82a4, 0xab1c5ed5,
  0xd807aa98, 0x12835b01, 0x243185be, 0x550c7dc3, 0x72be5d74, 0x80deb1fe, 0x9bdc06a7, 0xc19bf174,
  0xe49b69c1, 0xefbe4786, 0x0fc19dc6, 0x240ca1cc, 0x2de92c6f, 0x4a7484aa, 0x5cb0a9dc, 0x76f988da,
  0x983e5152, 0xa831c66d, 0xb00327c8, 0xbf597fc7, 0xc6e00bf3, 0xd5a79147, 0x06ca6351, 0x14292967,
  0x27b70a85, 0x2e1b2138, 0x4d2c6dfc, 0x53380d13, 0x650a7354, 0x766a0abb, 0x81c2c92e, 0x92722c85,
  0xa2bfe8a1, 0xa81a664b, 0xc24b8b70, 0xc76c51a3, 0xd192e819, 0xd6990624, 0xf40e3585, 0x106aa070,
  0x19a4c116, 0x1e376c08, 0x2748774c, 0x34b0bcb5, 0x391c0cb3, 0x4ed8aa4a, 0x5b9cca4f, 0x682e6ff3,
  0x748f82ee, 0x78a5636f, 0x84c87814, 0x8cc70208, 0x90befffa, 0xa4506ceb, 0xbef9a3f7, 0xc67178f2]
theorem consts_len : consts.length = 64 := rfl
def kc (i : Nat) : W32 := consts.getD i 0

/-- Four bytes as a word, the highest first. -/
def word (b0 b1 b2 b3 : W32) : W32 := b0 <<< 24 ||| b1 <<< 16 ||| b2 <<< 8 ||| b3
/-- The words of a block: the first k of the 64. -/
def sched (b : List Nat) : Nat → List W32
  | 0 => []
  | i + 1 => sched b i ++ [if i < 16 then word (BitVec.ofNat 32 (b.getD (4 * i) 0)) (BitVec.ofNat 32 (b.getD (4 * i + 1) 0)) (BitVec.ofNat 32 (b.getD (4 * i + 2) 0)) (BitVec.ofNat 32 (b.getD (4 * i + 3) 0))
      else (sched b i).getD (i - 16) 0 + (sched b i).getD (i - 7) 0 + sig0 ((sched b i).getD (i - 15) 0) + sig1 ((sched b i).getD (i - 2) 0)]
theorem sched_len (b : List Nat) (k : Nat) : (sched b k).length = k := by
  induction k with
  | zero => rfl
  | succ k ih => rw [sched, List.length_append, ih]; rfl
/-- What a round starts from and comes to: eight words. -/
structure St where
  a : W32
  b : W32
  c : W32
  d : W32
  e : W32
  f : W32
  g : W32
  h : W32
def St.list (s : St) : List W32 := [s.a, s.b, s.c, s.d, s.e, s.f, s.g, s.h]
def t1 (s : St) (k w : W32) : W32 := s.h + Sig1 s.e + ch s.e s.f s.g + k + w
def t2 (s : St) : W32 := Sig0 s.a + maj s.a s.b s.c
def round (s : St) (k w : W32) : St := ⟨t1 s k w + t2 s, s.a, s.b, s.c, s.d + t1 s k w, s.e, s.f, s.g⟩
/-- The first k rounds. -/
def rounds (s : St) (w : List W32) : Nat → St
  | 0 => s
  | k + 1 => round (rounds s w k) (kc k) (w.getD k 0)
def St.add (s t : St) : St := ⟨s.a + t.a, s.b + t.b, s.c + t.c, s.d + t.d, s.e + t.e, s.f + t.f, s.g + t.g, s.h + t.h⟩
def press (s : St) (b : List Nat) : St := s.add (rounds s (sched b 64) 64)
def begin : St := ⟨0x6a09e667, 0xbb67ae85, 0x3c6ef372, 0xa54ff53a, 0x510e527f, 0x9b05688c, 0x1f83d9ab, 0x5be0cd19⟩

/-- What stands behind n bytes. -/
def noughts (n : Nat) : Nat := (119 - n % 64) % 64
def eight (n : Nat) : List Nat := [n / 2 ^ 56 % 256, n / 2 ^ 48 % 256, n / 2 ^ 40 % 256, n / 2 ^ 32 % 256, n / 2 ^ 24 % 256, n / 2 ^ 16 % 256, n / 2 ^ 8 % 256, n % 256]
def behind (n : Nat) : List Nat := 128 :: (List.replicate (noughts n) 0 ++ eight (8 * n))
theorem behind_len (n : Nat) : (behind n).length = noughts n + 9 := by simp [behind, eight]
theorem behind_whole (n : Nat) : (n + (behind n).length) % 64 = 0 := by rw [behind_len]; unfold noughts; omega
theorem eight_lt (n : Nat) : ∀ x ∈ eight n, x < 256 := by
  intro x hx
  simp only [eight, List.mem_cons, List.not_mem_nil, or_false] at hx
  rcases hx with rfl | rfl | rfl | rfl | rfl | rfl | rfl | rfl <;> omega
theorem behind_lt (n : Nat) : ∀ x ∈ behind n, x < 256 := by
  intro x hx
  rcases List.mem_cons.1 hx with rfl | hx
  · omega
  · rcases List.mem_append.1 hx with hx | hx
    · rw [List.eq_of_mem_replicate hx]; omega
    · exact eight_lt _ x hx

/-- The bytes of a word, the highest first. -/
def hi (x : W32) : List Nat := [x.toNat / 16777216 % 256, x.toNat / 65536 % 256, x.toNat / 256 % 256, x.toNat % 256]
def St.bytes (s : St) : List Nat := s.list.flatMap hi
/-- All blocks pressed, one behind the other. -/
def blocks (s : St) : Nat → List Nat → St
  | 0, _ => s
  | k + 1, l => blocks (press s (l.take 64)) k (l.drop 64)
def sum (l : List Nat) : List Nat := (blocks begin ((l.length + (behind l.length).length) / 64) (l ++ behind l.length)).bytes
end Go.Proofs.Ytkialijipcbgkaa.Sh
namespace Go.Proofs.Ytkialijipcbgkaa
open Go.RowKit
set_option linter.unusedVariables false

/-- A word's number: BitVec.toNat, out of the reach of what simp knows of it. -/
def nt (x : Sh.W32) : Nat := x.toNat
theorem nt_lt (x : Sh.W32) : nt x < 4294967296 := x.isLt
theorem nt_inj {x y : Sh.W32} (h : nt x = nt y) : x = y := BitVec.eq_of_toNat_eq h
/-- A word as Go's uint32. -/
def wv (x : Sh.W32) : Value := .int .u32 (nt x : Nat)

theorem of_nat32 (x : Sh.W32) : BitVec.ofInt 32 ((nt x : Nat) : Int) = x := by
  rw [BitVec.ofInt_natCast]; simp [nt]
theorem wrap_nt (x : Sh.W32) : IntKind.u32.wrap ((nt x : Nat) : Int) = ((nt x : Nat) : Int) := by
  have := nt_lt x
  rw [IntKind.wrap_u32]; omega
theorem xor_bv (x y : Sh.W32) : bits .xor .u32 ((nt x : Nat) : Int) ((nt y : Nat) : Int) = ((nt (x ^^^ y) : Nat) : Int) := by
  show IntKind.u32.wrap ((BitVec.ofInt 32 ((nt x : Nat) : Int) ^^^ BitVec.ofInt 32 ((nt y : Nat) : Int)).toNat : Int) = _
  rw [of_nat32, of_nat32]
  exact wrap_nt _
theorem and_bv (x y : Sh.W32) : bits .and .u32 ((nt x : Nat) : Int) ((nt y : Nat) : Int) = ((nt (x &&& y) : Nat) : Int) := by
  show IntKind.u32.wrap ((BitVec.ofInt 32 ((nt x : Nat) : Int) &&& BitVec.ofInt 32 ((nt y : Nat) : Int)).toNat : Int) = _
  rw [of_nat32, of_nat32]
  exact wrap_nt _
theorem or_bv (x y : Sh.W32) : bits .or .u32 ((nt x : Nat) : Int) ((nt y : Nat) : Int) = ((nt (x ||| y) : Nat) : Int) := by
  show IntKind.u32.wrap ((BitVec.ofInt 32 ((nt x : Nat) : Int) ||| BitVec.ofInt 32 ((nt y : Nat) : Int)).toNat : Int) = _
  rw [of_nat32, of_nat32]
  exact wrap_nt _
theorem add_bv (x y : Sh.W32) : (((nt x : Nat) : Int) + ((nt y : Nat) : Int)) % 4294967296 = ((nt (x + y) : Nat) : Int) := by
  unfold nt
  rw [BitVec.toNat_add]; omega
theorem shr_bv (x : Sh.W32) (n : Nat) : ((nt x : Nat) : Int) / 2 ^ n = ((nt (x >>> n) : Nat) : Int) := by
  unfold nt
  rw [BitVec.toNat_ushiftRight, Nat.shiftRight_eq_div_pow]
  simp
theorem shl_bv (x : Sh.W32) (n : Nat) : ((nt x : Nat) : Int) * 2 ^ n % 4294967296 = ((nt (x <<< n) : Nat) : Int) := by
  unfold nt
  rw [BitVec.toNat_shiftLeft, Nat.shiftLeft_eq]
  simp
theorem not_bv (x : Sh.W32) : bits .xor .u32 IntKind.u32.max ((nt x : Nat) : Int) = ((nt (~~~x) : Nat) : Int) := by
  have h : (IntKind.u32.max : Int) = ((nt (BitVec.allOnes 32) : Nat) : Int) := rfl
  rw [h, xor_bv, BitVec.allOnes_xor]

/-- A call that answers this word, and turns nothing. -/
def IsW (x : Sh.W32) (w : World) (e : Ending) (w' : World) : Prop := e = .returned (.int .u32 (nt x : Nat)) ∧ w = w'

set_option maxHeartbeats 400000 in
theorem turn_any (x : Sh.W32) (n : Nat) (hn : n ≤ 32) (w : World) : Calls Try.prog 96 #[.int .u32 (nt x : Nat), .int .i64 n] w (IsW (Sh.rot x n) w) := by
  have h1 := shr_bv x n
  have h2 := shl_bv x (32 - n)
  have h3 := or_bv (x >>> n) (x <<< (32 - n))
  have h4 : ((32 : Int) - (n : Int)).toNat = 32 - n := by omega
  have h5 : (0 : Int) ≤ 32 - (n : Int) := by omega
  go_enter Try.func96, Try.ntmps96
  go_wp2
  go_ret
  exact ⟨by rfl, rfl⟩

/-- A list of words as the cells of an array. -/
def wvs (l : List Sh.W32) : Array Value := (l.map wv).toArray
theorem wvs_at (l : List Sh.W32) {k : Nat} (h : k < l.length) : (wvs l)[k]? = some (.int .u32 (nt (l.getD k 0) : Nat)) := by
  simp [wvs, wv, List.getD, List.getElem?_eq_getElem h]


/-- The bits turned over: a law at the operation (the walk's own simp runs away at 'all bits'). -/
theorem unary_eq (x : Sh.W32) : Op.unary .xor (.int .u32 (nt x : Nat)) = (pure (.int .u32 (nt (~~~x) : Nat)) : Sem Value) := by
  show Op.intBits .xor .u32 IntKind.u32.max (nt x : Nat) = _
  rw [← not_bv]; rfl
theorem unary_bv (x : Sh.W32) (w : World) : (Op.unary .xor (.int .u32 (nt x : Nat))).run Try.prog w = .ok (.int .u32 (nt (~~~x) : Nat)) w := by
  show (Op.intBits .xor .u32 IntKind.u32.max (nt x : Nat)).run Try.prog w = _
  rw [← not_bv]; rfl
theorem wp_notu {o : Oper} {a : Act} {w : World} {K : Act → World → Prop} {Q : Exit → Act → World → Prop} (t : TypeId) (s : Operand) (ho : o.op = .unOp .xor t s) (x : Sh.W32) (hx : a.eval s = .int .u32 (nt x : Nat))
    (h : K (a.put o.dst (.int .u32 (nt (~~~x) : Nat))) w) : o.wp Try.prog a w K Q := by
  unfold Oper.wp execOp
  rw [ho]
  simp only [hx, Sem.run_bind, unary_bv, Result.andThen, Sem.run_pure, Oper.upon]
  exact h
theorem wpList_notu {ops : Array Oper} {rest : List Oper} {o : Oper} {a : Act} {w : World} {Q : Exit → Act → World → Prop} (hg : o.guard = none) (t : TypeId) (s : Operand) (ho : o.op = .unOp .xor t s) (x : Sh.W32) (hx : a.eval s = .int .u32 (nt x : Nat))
    (h : wpList Try.prog ops Q rest (a.put o.dst (.int .u32 (nt (~~~x) : Nat))) w) : wpList Try.prog ops Q (o :: rest) a w :=
  wpList_plain hg fun _ hK => wp_notu t s ho x hx (hK _ _ h)
end Go.Proofs.Ytkialijipcbgkaa
namespace Go.Proofs.Ytkialijipcbgkaa
open Go.RowKit
set_option linter.unusedVariables false

/-- The constants, as Go lays them. -/
def kcells : Array Value := #[.int .u32 1116352408, .int .u32 1899447441, .int .u32 3049323471, .int .u32 3921009573, .int .u32 961987163, .int .u32 1508970993, .int .u32 2453635748, .int .u32 2870763221, .int .u32 3624381080, .int .u32 310598401, .int .u32 607225278, .int .u32 1426881987, .int .u32 1925078388, .int .u32 2162078206, .int .u32 2614888103, .int .u32 3248222580, .int .u32 3835390401, .int .u32 4022224774, .int .u32 264347078, .int .u32 604807628, .int .u32 770255983, .int .u32 1249150122, .int .u32 1555081692, .int .u32 1996064986, .int .u32 2554220882, .int .u32 2821834349, .int .u32 2952996808, .int .u32 3210313671, .int .u32 3336571891, .int .u32 3584528711, .int .u32 113926993, .int .u32 338241895, .int .u32 666307205, .int .u32 773529912, .int .u32 1294757372, .int .u32 1396182291, .int .u32 1695183700, .int .u32 1986661051, .int .u32 2177026350, .int .u32 2456956037, .int .u32 2730485921, .int .u32 2820302411, .int .u32 3259730800, .int .u32 3345764771, .int .u32 3516065817, .int .u32 3600352804, .int .u32 4094571909, .int .u32 275423344, .int .u32 430227734, .int .u32 506948616, .int .u32 659060556, .int .u32 883997877, .int .u32 958139571, .int .u32 1322822218, .int .u32 1537002063, .int .u32 1747873779, .int .u32 1955562222, .int .u32 2024104815, .int .u32 2227730452, .int .u32 2361852424, .int .u32 2428436474, .int .u32 2756734187, .int .u32 3204031479, .int .u32 3329325298]
theorem kcells_eq : kcells = wvs Sh.consts := by rfl
theorem kcells_at {k : Nat} (hk : k < 64) : kcells[k]? = some (.int .u32 (nt (Sh.kc k) : Nat)) := by
  rw [kcells_eq]
  exact wvs_at Sh.consts (by rw [Sh.consts_len]; exact hk)
theorem kcells_size : kcells.size = 64 := by rfl
theorem one_of (l : List Sh.W32) : (wvs l).all (·.oneCell') = true := by
  rw [Array.all_eq_true_iff_forall_mem]
  intro v hv
  simp only [wvs, List.mem_toArray, List.mem_map] at hv
  obtain ⟨x, _, rfl⟩ := hv
  rfl
theorem kcells_one : kcells.all (·.oneCell') = true := by rw [kcells_eq]; exact one_of _
theorem wpList_build_at {ops : Array Oper} {rest : List Oper} {o : Oper} {a : Act} {w : World} {Q : Exit → Act → World → Prop} (hg : o.guard = none) (t : TypeId) (parts : Array (Nat × Operand)) (ho : o.op = .build t parts) (c : Array Value)
    (hf : Try.prog.built t (parts.map fun (i, x) => (i, a.eval x)).toList = some c)
    (h : wpList Try.prog ops Q rest (a.put o.dst (.agg c)) w) : wpList Try.prog ops Q (o :: rest) a w :=
  wpList_build hg t parts ho (by rw [hf]; rfl) (by rw [hf]; exact h)
def noughts52 : Array Value := Array.replicate 64 (.int .u32 0)

set_option maxRecDepth 100000 in
theorem zero52 : (Try.prog.info? 138).map (fun i => (i.zero, i.size)) = some (some (.agg noughts52), 64) := by kernel_rfl
set_option maxRecDepth 100000 in
theorem size52 : (Try.prog.info? 138).map (·.size) = some 64 := by kernel_rfl

set_option maxHeartbeats 1000000 in
set_option maxRecDepth 100000 in
theorem constant_any (k : Nat) (hk : k < 64) (w : World) : Calls Try.prog 97 #[.int .i64 k] w (fun e w' => e = .returned (.int .u32 (nt (Sh.kc k) : Nat)) ∧ Below w.heap.size w w') := by
  have hat := kcells_at hk
  have hb : (k : Int) < 64 := by omega
  go_enter Try.func97, Try.ntmps97
  go_wp2_with (first
    | (refine wpList_build_at rfl _ _ rfl kcells (by kernel_rfl) ?_)
    | (refine wpList_store_row rfl _ _ _ rfl w.heap.size kcells rfl rfl 138 _ (heap_alloc_new w _) (by rw [kcells_size]; exact size52) (by rw [kcells_size]; rfl) kcells_one ?_
       rw [World.setRow_alloc_new]))
  go_ret
  exact ⟨rfl, (Below.refl w.heap.size w).alloc (Nat.le_refl _) _⟩

theorem size23 : (Try.prog.info? 100).map (·.size) = some 8 := by kernel_rfl
/-- A state as Go's array. -/
def stv (s : Sh.St) : Array Value := #[wv s.a, wv s.b, wv s.c, wv s.d, wv s.e, wv s.f, wv s.g, wv s.h]
theorem stv_size (s : Sh.St) : (stv s).size = 8 := rfl
theorem stv_one (s : Sh.St) : (stv s).all (·.oneCell') = true := one_of s.list
/-- A call that answers this state, and turns nothing that was there. -/
def IsSt (s : Sh.St) (w : World) (e : Ending) (w' : World) : Prop := e = .returned (.agg (stv s)) ∧ Below w.heap.size w w'
theorem begin_cells : stv Sh.begin = #[.int .u32 1779033703, .int .u32 3144134277, .int .u32 1013904242, .int .u32 2773480762, .int .u32 1359893119, .int .u32 2600822924, .int .u32 528734635, .int .u32 1541459225] := by rfl

set_option maxHeartbeats 1000000 in
set_option maxRecDepth 100000 in
theorem begin_any (w : World) : Calls Try.prog 72 #[] w (IsSt Sh.begin w) := by
  go_enter Try.func72, Try.ntmps72
  go_wp2_with (first
    | (refine wpList_build_at rfl _ _ rfl (stv Sh.begin) (by kernel_rfl) ?_)
    | (refine wpList_store_row rfl _ _ _ rfl w.heap.size (stv Sh.begin) rfl rfl 100 _ (heap_alloc_new w _) (by rw [stv_size]; exact size23) (by rw [stv_size]; rfl) (stv_one _) ?_
       rw [World.setRow_alloc_new]))
  refine bodyPost_ret (v := .agg (stv Sh.begin)) (results_cell_row rfl _ _ w.heap.size 100 _ (0, 0) _ rfl (heap_alloc_new w _) Try.underlying100 rfl (by rw [stv_size]; exact size23)) rfl ⟨rfl, (Below.refl w.heap.size w).alloc (Nat.le_refl _) _⟩
end Go.Proofs.Ytkialijipcbgkaa
