/-
  Plain mathematics of chapter 4 (sha): words of 32 bits, a block pressed, what stands behind bytes. No Go in sight.
-/
namespace Go.Proofs.Ytejipcnihgpdhaa.Sh

abbrev W32 := BitVec 32
/-- A word turned right. -/
def rot (x : W32) (n : Nat) : W32 := x >>> n ||| x <<< (32 - n)
def sig0 (x : W32) : W32 := rot x 7 ^^^ rot x 18 ^^^ x >>> 3
def sig1 (x : W32) : W32 := rot x 17 ^^^ rot x 19 ^^^ x >>> 10
def Sig0 (x : W32) : W32 := rot x 2 ^^^ rot x 13 ^^^ rot x 22
def Sig1 (x : W32) : W32 := rot x 6 ^^^ rot x 11 ^^^ rot x 25
def ch (e f g : W32) : W32 := e &&& f ||| ~~~e &&& g
def maj (a b c : W32) : W32 := a &&& b ||| a &&& c ||| b &&& c

def consts : List W32 := [
  0x428a2f98, 0x71374491, 0xb5c0fbcf, 0xe9b5dba5, 0x3956c25b, 0x59f111f1, 0x923f82a4, 0xab1c5ed5,
  0xd807aa98, 0x12835b01, 0x243185be, 0x550c7dc3, 0x72be5d74, 0x80deb1fe, 0x9bdc06a7, 0xc19bf174,
  0xe49b69c1, 0xefbe4786, 0x0fc19dc6, 0x240ca1cc, 0x2de92c6f, 0x4a7484aa, 0x5cb0a9dc, 0x76f988da,
  0x983e5152, 0xa831c66d, 0xb00327c8, 0xbf597fc7, 0xc6e00bf3, 0xd5a79147, 0x06ca6351, 0x14292967,
  0x27b70a85, 0x2e1b2138, 0x4d2c6dfc, 0x53380d13, 0x650a7354, 0x766a0abb, 0x81c2c92e, 0x92722c85,
  0xa2bfe8a1, 0xa81a664b, 0xc24b8b70, 0xc76c51a3, 0xd192e819, 0xd6990624, 0xf40e3585, 0x106aa070,
  0x19a4c116, 0x1e376c08, 0x2748774c, 0x34b0bcb5, 0x391c0cb3, 0x4ed8aa4a, 0x5b9cca4f, 0x682e6ff3,
  0x748f82ee, 0x78a5636f, 0x84c87814, 0x8cc70208, 0x90befffa, 0xa4506ceb, 0xbef9a3f7, 0xc67178f2]
theorem consts_len : consts.length = 64 := rfl
def kc (i : Nat) : W32 := consts.getD i 0

/-- Four bytes as a word, the highest first. -/
def word (b0 b1 b2 b3 : W32) : W32 := b0 <<< 24 ||| b1 <<< 16 ||| b2 <<< 8 ||| b3
/-- The words of a block: the first k of the 64. -/
def sched (b : List Nat) : Nat → List W32
  | 0 => []
  | i + 1 => sched b i ++ [if i < 16 then word (BitVec.ofNat 32 (b.getD (4 * i) 0)) (BitVec.ofNat 32 (b.getD (4 * i + 1) 0)) (BitVec.ofNat 32 (b.getD (4 * i + 2) 0)) (BitVec.ofNat 32 (b.getD (4 * i + 3) 0))
      else (sched b i).getD (i - 16) 0 + (sched b i).getD (i - 7) 0 + sig0 ((sched b i).getD (i - 15) 0) + sig1 ((sched b i).getD (i - 2) 0)]
theorem sched_len (b : List Nat) (k : Nat) : (sched b k).length = k := by
  induction k with
  | zero => rfl
  | succ k ih => rw [sched, List.length_append, ih]; rfl
/-- What a round starts from and comes to: eight words. -/
structure St where
  a : W32
  b : W32
  c : W32
  d : W32
  e : W32
  f : W32
  g : W32
  h : W32
def St.list (s : St) : List W32 := [s.a, s.b, s.c, s.d, s.e, s.f, s.g, s.h]
def t1 (s : St) (k w : W32) : W32 := s.h + Sig1 s.e + ch s.e s.f s.g + k + w
def t2 (s : St) : W32 := Sig0 s.a + maj s.a s.b s.c
def round (s : St) (k w : W32) : St := ⟨t1 s k w + t2 s, s.a, s.b, s.c, s.d + t1 s k w, s.e, s.f, s.g⟩
/-- The first k rounds. -/
def rounds (s : St) (w : List W32) : Nat → St
  | 0 => s
  | k + 1 => round (rounds s w k) (kc k) (w.getD k 0)
def St.add (s t : St) : St := ⟨s.a + t.a, s.b + t.b, s.c + t.c, s.d + t.d, s.e + t.e, s.f + t.f, s.g + t.g, s.h + t.h⟩
def press (s : St) (b : List Nat) : St := s.add (rounds s (sched b 64) 64)
def begin : St := ⟨0x6a09e667, 0xbb67ae85, 0x3c6ef372, 0xa54ff53a, 0x510e527f, 0x9b05688c, 0x1f83d9ab, 0x5be0cd19⟩

/-- What stands behind n bytes. -/
def noughts (n : Nat) : Nat := (119 - n % 64) % 64
def eight (n : Nat) : List Nat := [n / 2 ^ 56 % 256, n / 2 ^ 48 % 256, n / 2 ^ 40 % 256, n / 2 ^ 32 % 256, n / 2 ^ 24 % 256, n / 2 ^ 16 % 256, n / 2 ^ 8 % 256, n % 256]
def behind (n : Nat) : List Nat := 128 :: (List.replicate (noughts n) 0 ++ eight (8 * n))
theorem behind_len (n : Nat) : (behind n).length = noughts n + 9 := by simp [behind, eight]
theorem behind_whole (n : Nat) : (n + (behind n).length) % 64 = 0 := by rw [behind_len]; unfold noughts; omega
theorem eight_lt (n : Nat) : ∀ x ∈ eight n, x < 256 := by
  intro x hx
  simp only [eight, List.mem_cons, List.not_mem_nil, or_false] at hx
  rcases hx with rfl | rfl | rfl | rfl | rfl | rfl | rfl | rfl <;> omega
theorem behind_lt (n : Nat) : ∀ x ∈ behind n, x < 256 := by
  intro x hx
  rcases List.mem_cons.1 hx with rfl | hx
  · omega
  · rcases List.mem_append.1 hx with hx | hx
    · rw [List.eq_of_mem_replicate hx]; omega
    · exact eight_lt _ x hx

/-- The bytes of a word, the highest first. -/
def hi (x : W32) : List Nat := [x.toNat / 16777216 % 256, x.toNat / 65536 % 256, x.toNat / 256 % 256, x.toNat % 256]
def St.bytes (s : St) : List Nat := s.list.flatMap hi
/-- All blocks pressed, one behind the other. -/
def blocks (s : St) : Nat → List Nat → St
  | 0, _ => s
  | k + 1, l => blocks (press s (l.take 64)) k (l.drop 64)
def sum (l : List Nat) : List Nat := (blocks begin ((l.length + (behind l.length).length) / 64) (l ++ behind l.length)).bytes
end Go.Proofs.Ytejipcnihgpdhaa.Sh
