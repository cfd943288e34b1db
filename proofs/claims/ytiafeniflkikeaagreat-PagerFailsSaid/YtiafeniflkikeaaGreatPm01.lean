/- Parts of the proof. -/

namespace Go.Proofs.YtiafeniflkikeaaGreat.Cr
def B32 (n : Nat) : Prop := n < 4294967296
def step (r : Nat) : Nat := if r % 2 = 0 then r / 2 else r / 2 ^^^ 2197175160
def stepN : Nat → Nat → Nat
 | 0, r => r
 | k + 1, r => step (stepN k r)
def take (r c : Nat) : Nat := stepN 8 (r ^^^ c)
def raw (r : Nat) (l : List Nat) : Nat := l.foldl take r
def ones : Nat := 4294967295
def flip (r : Nat) : Nat := ones ^^^ r
def more (s : Nat) (l : List Nat) : Nat := flip (raw (flip s) l)
def of (l : List Nat) : Nat := more 0 l
theorem xor_b32 {a b : Nat} (ha : B32 a) (hb : B32 b) : B32 (a ^^^ b) := by
 have := Nat.xor_lt_two_pow (x := a) (y := b) (n := 32) ha hb
 exact this
theorem byte_b32 {c : Nat} (h : c < 256) : B32 c := by unfold B32; omega
theorem step_b32 {r : Nat} (h : B32 r) : B32 (step r) := by
 unfold step
 split
 ·unfold B32 at *; omega
 ·exact xor_b32 (by unfold B32 at *; omega) (by unfold B32; omega)
theorem stepN_b32 {r : Nat} (h : B32 r) (k : Nat) : B32 (stepN k r) := by
 induction k with
 | zero => exact h
 | succ k ih => exact step_b32 ih
theorem take_b32 {r c : Nat} (h : B32 r) (hc : c < 256) : B32 (take r c) := stepN_b32 (xor_b32 h (byte_b32 hc)) 8
theorem raw_b32 {l : List Nat} (hl : ∀ x ∈ l, x < 256) : ∀ {r : Nat}, B32 r → B32 (raw r l) := by
 induction l with
 | nil => intro r h; exact h
 | cons c l ih => intro r h; exact ih (fun x hx => hl x (by simp [hx])) (take_b32 h (hl c (by simp)))
theorem ones_b32 : B32 ones := by unfold B32 ones; omega
theorem zero_b32 : B32 0 := by unfold B32; omega
theorem ones_eq : ones = 4294967295 := rfl
attribute [irreducible] ones
theorem flip_b32 {r : Nat} (h : B32 r) : B32 (flip r) := xor_b32 ones_b32 h
theorem more_b32 {s : Nat} {l : List Nat} (h : B32 s) (hl : ∀ x ∈ l, x < 256) : B32 (more s l) := flip_b32 (raw_b32 hl (flip_b32 h))
theorem of_b32 {l : List Nat} (hl : ∀ x ∈ l, x < 256) : B32 (of l) := by
 show B32 (more 0 l)
 exact more_b32 zero_b32 hl
theorem raw_nil (r : Nat) : raw r [] = r := rfl
theorem raw_cons (r c : Nat) (l : List Nat) : raw r (c :: l) = raw (take r c) l := List.foldl_cons ..
theorem raw_append (r : Nat) (l m : List Nat) : raw r (l ++ m) = raw (raw r l) m := List.foldl_append ..
theorem raw_snoc (r : Nat) (l : List Nat) (c : Nat) : raw r (l ++ [c]) = take (raw r l) c := raw_append r l [c]
theorem raw_step {r : Nat} {l : List Nat} {k c : Nat} (h : l.drop k = c :: l.drop (k + 1)) : raw r (l.take (k + 1)) = take (raw r (l.take k)) c := by
 have h1 : l.take (k + 1) = l.take k ++ [c] := by
  rw [List.take_add (l := l) (i := k) (j := 1), h]; rfl
 rw [h1, raw_snoc]
theorem xor_cancel (a b : Nat) : a ^^^ b ^^^ b = a := by rw [Nat.xor_assoc, Nat.xor_self, Nat.xor_zero]
theorem xor_swap (a b c d : Nat) : (a ^^^ b) ^^^ (c ^^^ d) = (a ^^^ c) ^^^ (b ^^^ d) := by
 rw [Nat.xor_assoc, ← Nat.xor_assoc b c d, Nat.xor_comm b c, Nat.xor_assoc c b d, ← Nat.xor_assoc]
theorem xor_eq_zero {a b : Nat} (h : a ^^^ b = 0) : a = b := by
 have := xor_cancel a b
 rw [h, Nat.zero_xor] at this
 exact this.symm
theorem step_xor (a b : Nat) : step (a ^^^ b) = step a ^^^ step b := by
 have hd : (a ^^^ b) / 2 = a / 2 ^^^ b / 2 := Nat.xor_div_two
 have hm : (a ^^^ b) % 2 = (a + b) % 2 := by
  have := Nat.xor_mod_two_pow (a := a) (b := b) (n := 1)
  rw [Nat.pow_one] at this
  rw [this]
  rcases Nat.mod_two_eq_zero_or_one a with ha | ha <;> rcases Nat.mod_two_eq_zero_or_one b with hb | hb <;> rw [ha, hb, Nat.add_mod, ha, hb] <;> rfl
 unfold step
 rw [hd, hm]
 rcases Nat.mod_two_eq_zero_or_one a with ha | ha <;> rcases Nat.mod_two_eq_zero_or_one b with hb | hb
 ·rw [if_pos (by omega), if_pos ha, if_pos hb]
 ·rw [if_neg (by omega), if_pos ha, if_neg (by omega), Nat.xor_assoc]
 ·rw [if_neg (by omega), if_neg (by omega), if_pos hb, Nat.xor_assoc, Nat.xor_assoc, Nat.xor_comm (b / 2)]
 ·rw [if_pos (by omega), if_neg (by omega), if_neg (by omega), xor_swap, Nat.xor_self, Nat.xor_zero]
theorem stepN_xor (k a b : Nat) : stepN k (a ^^^ b) = stepN k a ^^^ stepN k b := by
 induction k with
 | zero => rfl
 | succ k ih => show step (stepN k (a ^^^ b)) = _; rw [ih, step_xor]; rfl
theorem step_zero {r : Nat} (hr : B32 r) (h : step r = 0) : r = 0 := by
 unfold step at h
 split at h
 ·omega
 ·have := xor_eq_zero h
  unfold B32 at hr
  omega
theorem step_inj {a b : Nat} (ha : B32 a) (hb : B32 b) (h : step a = step b) : a = b := by
 apply xor_eq_zero
 apply step_zero (xor_b32 ha hb)
 rw [step_xor, h, Nat.xor_self]
theorem stepN_inj (k : Nat) {a b : Nat} (ha : B32 a) (hb : B32 b) (h : stepN k a = stepN k b) : a = b := by
 induction k with
 | zero => exact h
 | succ k ih => exact ih (step_inj (stepN_b32 ha k) (stepN_b32 hb k) h)
theorem take_inj {a b c : Nat} (ha : B32 a) (hb : B32 b) (hc : c < 256) (h : take a c = take b c) : a = b := by
 have h1 := stepN_inj 8 (xor_b32 ha (byte_b32 hc)) (xor_b32 hb (byte_b32 hc)) h
 have h2 := congrArg (· ^^^ c) h1
 simpa [xor_cancel] using h2
def against (l m : List Nat) : List Nat := List.zipWith (· ^^^ ·) l m
theorem take_xor (a b c d : Nat) : take (a ^^^ b) (c ^^^ d) = take a c ^^^ take b d := by
 unfold take
 rw [xor_swap, stepN_xor]
theorem raw_against {l m : List Nat} (h : l.length = m.length) : ∀ (a b : Nat), raw (a ^^^ b) (against l m) = raw a l ^^^ raw b m := by
 induction l generalizing m with
 | nil => intro a b; cases m with
  | nil => rfl
  | cons => simp at h
 | cons c l ih =>
  intro a b
  cases m with
  | nil => simp at h
  | cons d m =>
   show raw (take (a ^^^ b) (c ^^^ d)) (against l m) = raw (take a c) l ^^^ raw (take b d) m
   rw [take_xor, ih (by simpa using h)]
theorem flip_eq (r : Nat) : flip r = ones ^^^ r := rfl
theorem flip_flip (r : Nat) : flip (flip r) = r := by rw [flip_eq, flip_eq, ← Nat.xor_assoc, Nat.xor_self, Nat.zero_xor]
theorem flip_zero : flip 0 = ones := by rw [flip_eq, Nat.xor_zero]
theorem more_eq (s : Nat) (l : List Nat) : more s l = flip (raw (flip s) l) := rfl
theorem of_eq (l : List Nat) : of l = flip (raw ones l) := by rw [← flip_zero]; rfl
def le : List Nat → Nat
 | [] => 0
 | c :: l => c + 256 * le l
theorem le_lt {l : List Nat} (hl : ∀ x ∈ l, x < 256) : le l < 256 ^ l.length := by
 induction l with
 | nil => simp [le]
 | cons c l ih =>
  have h1 := ih (fun x hx => hl x (by simp [hx]))
  have h2 := hl c (by simp)
  simp only [le, List.length_cons, Nat.pow_succ]
  omega
theorem stepN_shift (k : Nat) : ∀ x, stepN k (x * 2 ^ k) = x := by
 induction k with
 | zero => intro x; simp [stepN]
 | succ k ih =>
  intro x
  show step (stepN k (x * 2 ^ (k + 1))) = x
  rw [Nat.pow_succ, Nat.mul_comm (2 ^ k) 2, ← Nat.mul_assoc, ih (x * 2)]
  unfold step
  rw [if_pos (by omega)]
  omega
theorem stepN_add (j k x : Nat) : stepN j (stepN k x) = stepN (j + k) x := by
 induction j with
 | zero => simp [stepN]
 | succ j ih => rw [Nat.succ_add]; show step (stepN j (stepN k x)) = step (stepN (j + k) x); rw [ih]
theorem xor_low {c x : Nat} (h : c < 256) : c ^^^ 256 * x = c + 256 * x := by
 have h1 := Nat.two_pow_add_eq_or_of_lt (i := 8) (b := c) h x
 apply Nat.eq_of_testBit_eq
 intro i
 rw [Nat.testBit_xor]
 have h2 : (c + 256 * x).testBit i = (256 * x ||| c).testBit i := by rw [← h1, Nat.add_comm]
 rw [h2, Nat.testBit_or]
 have h3 : (256 * x).testBit i = (decide (8 ≤ i) && x.testBit (i - 8)) := by
  have := Nat.testBit_two_pow_mul (i := 8) (a := x) (j := i)
  exact this
 by_cases hi : 8 ≤ i
 ·have h4 : c.testBit i = false := Nat.testBit_lt_two_pow (Nat.lt_of_lt_of_le (m := 2 ^ 8) h (Nat.pow_le_pow_right (by omega) hi))
  simp [h4]
 ·rw [h3]; simp [hi]
theorem raw_le {l : List Nat} (hl : ∀ x ∈ l, x < 256) : ∀ r, raw r l = stepN (8 * l.length) (r ^^^ le l) := by
 induction l with
 | nil => intro r; simp [raw, le, stepN]
 | cons c l ih =>
  intro r
  have h1 := hl c (by simp)
  rw [raw_cons, ih (fun x hx => hl x (by simp [hx]))]
  have h2 : le l = stepN 8 (256 * le l) := by have := stepN_shift 8 (le l); rw [Nat.mul_comm] at this; exact this.symm
  unfold take
  rw [h2, ← stepN_xor, stepN_add, Nat.xor_assoc, xor_low h1]
  rfl
theorem le_zero {l : List Nat} (h : le l = 0) : ∀ x ∈ l, x = 0 := by
 induction l with
 | nil => simp
 | cons c l ih =>
  simp only [le] at h
  intro x hx
  rcases List.mem_cons.1 hx with rfl | hx
  ·omega
  ·exact ih (by omega) x hx
theorem raw_four {l : List Nat} (hl : ∀ x ∈ l, x < 256) (h4 : l.length ≤ 4) (h : raw 0 l = 0) : ∀ x ∈ l, x = 0 := by
 have h1 := le_lt hl
 have h2 : 256 ^ l.length ≤ 256 ^ 4 := Nat.pow_le_pow_right (by decide) h4
 apply le_zero
 have h3 : B32 (le l) := by unfold B32; omega
 rw [raw_le hl, Nat.zero_xor] at h
 apply stepN_inj (8 * l.length) h3 (b := 0) zero_b32
 rw [h]
 have := stepN_shift (8 * l.length) 0
 rw [Nat.zero_mul] at this
 exact this.symm
theorem of_burst {p d e s : List Nat} (hd : ∀ x ∈ d, x < 256) (he : ∀ x ∈ e, x < 256) (hs : ∀ x ∈ s, x < 256) (hp : ∀ x ∈ p, x < 256) (hl : d.length = e.length) (h4 : d.length ≤ 4) : of (p ++ d ++ s) = of (p ++ e ++ s) ↔ d = e := by
 constructor
 ·intro h
  unfold of more at h
  have h1 : raw (flip 0) (p ++ d ++ s) = raw (flip 0) (p ++ e ++ s) := by
   have := congrArg flip h
   rwa [flip_flip, flip_flip] at this
  rw [raw_append, raw_append, raw_append, raw_append] at h1
  obtain ⟨r, hr⟩ : ∃ r, raw (flip 0) p = r := ⟨_, rfl⟩
  have hrb : B32 r := by rw [← hr]; exact raw_b32 hp (flip_b32 zero_b32)
  rw [hr] at h1
  have h2 : ∀ {l : List Nat}, (∀ x ∈ l, x < 256) → ∀ {a b : Nat}, B32 a → B32 b → raw a l = raw b l → a = b := by
   intro l
   induction l with
   | nil => intro _ a b _ _ h; exact h
   | cons c l ih =>
    intro hl a b ha hb h
    have hc := hl c (by simp)
    exact take_inj ha hb hc (ih (fun x hx => hl x (by simp [hx])) (take_b32 ha hc) (take_b32 hb hc) h)
  have h3 := h2 hs (raw_b32 hd hrb) (raw_b32 he hrb) h1
  have h5 := raw_against hl r r
  rw [Nat.xor_self, h3, Nat.xor_self] at h5
  have h6 : ∀ x ∈ against d e, x < 256 := by
   intro x hx
   obtain ⟨i, hi, rfl⟩ := List.mem_iff_getElem.1 hx
   simp only [against, List.getElem_zipWith]
   exact Nat.xor_lt_two_pow (n := 8) (hd _ (List.getElem_mem _)) (he _ (List.getElem_mem _))
  have h7 := raw_four h6 (by simp [against]; omega) h5
  apply List.ext_getElem hl
  intro i h8 h9
  have h10 : d[i] ^^^ e[i] ∈ against d e := by
   have : (against d e)[i]'(by simp [against]; omega) = d[i] ^^^ e[i] := by simp [against]
   rw [← this]
   exact List.getElem_mem _
  exact xor_eq_zero (h7 _ h10)
 ·intro h; rw [h]
end Go.Proofs.YtiafeniflkikeaaGreat.Cr
namespace Go.Proofs.YtiafeniflkikeaaGreat.Cr
def byt (n i : Nat) : Nat := n / 2 ^ (8 * i) % 256
theorem byt_lt (n i : Nat) : byt n i < 256 := by unfold byt; omega
theorem parts_eq (l : List Nat) (p k : Nat) : l = l.take p ++ (l.drop p).take k ++ l.drop (p + k) := by
 rw [List.append_assoc, ← List.drop_drop, List.take_append_drop, List.take_append_drop]
theorem of_near {l m : List Nat} (hl : ∀ x ∈ l, x < 256) (hm : ∀ x ∈ m, x < 256) (hlen : l.length = m.length) {p k : Nat} (h4 : k ≤ 4) (ha : l.take p = m.take p) (hb : l.drop (p + k) = m.drop (p + k)) : of l = of m ↔ l = m := by
 constructor
 ·intro h
  rw [parts_eq l p k, parts_eq m p k, ← ha, ← hb] at h
  have h1 := (of_burst (fun x hx => hl x (List.mem_of_mem_drop (List.mem_of_mem_take hx))) (fun x hx => hm x (List.mem_of_mem_drop (List.mem_of_mem_take hx))) (fun x hx => hl x (List.mem_of_mem_drop hx)) (fun x hx => hl x (List.mem_of_mem_take hx)) (by simp [hlen]) (by simp; omega)).1 h
  rw [parts_eq l p k, parts_eq m p k, ha, hb, h1]
 ·intro h; rw [h]
theorem take_snoc {l : List Nat} {k x : Nat} (h : l.drop k = x :: l.drop (k + 1)) : l.take (k + 1) = l.take k ++ [x] := by
 rw [List.take_add (l := l) (i := k) (j := 1), h]; rfl
end Go.Proofs.YtiafeniflkikeaaGreat.Cr
namespace Go.Proofs.YtiafeniflkikeaaGreat
def four (n : Nat) : List Nat := [Cr.byt n 0, Cr.byt n 1, Cr.byt n 2, Cr.byt n 3]
theorem four_len (n : Nat) : (four n).length = 4 := rfl
theorem four_lt (n : Nat) : ∀ x ∈ four n, x < 256 := by
 intro x hx
 simp only [four, List.mem_cons, List.not_mem_nil, or_false] at hx
 rcases hx with rfl | rfl | rfl | rfl <;> exact Cr.byt_lt _ _
theorem le_four {n : Nat} (h : Cr.B32 n) : Cr.le (four n) = n := by
 unfold Cr.B32 at h
 simp only [four, Cr.le, Cr.byt]
 omega
namespace Fr
def rest : Nat := Cr.flip (Cr.stepN 32 Cr.ones)
end Fr
end Go.Proofs.YtiafeniflkikeaaGreat
namespace Go.Proofs.YtiafeniflkikeaaGreat.Pg
def head (n kind m : Nat) : List Nat := [n % 256, n / 256 % 256, n / 65536 % 256, n / 16777216 % 256, kind, 0, m % 256, m / 256 % 256]
def rest (n kind : Nat) (b : List Nat) : List Nat := head n kind b.length ++ b ++ List.replicate (500 - b.length) 0
def page (n kind : Nat) (b : List Nat) : List Nat := four (Cr.of (rest n kind b)) ++ rest n kind b
def putE (n : Int) (kind : Nat) (b : List Nat) : List Nat × Nat :=
 if n < 0 ∨ 65536 ≤ n then ([], 2) else if 496 < b.length then ([], 3) else (page n.toNat kind b, 0)
def size (b : List Nat) : Nat := b.getD 10 0 + 256 * b.getD 11 0
def body (b : List Nat) : List Nat := (b.drop 12).take (size b)
def getE (n : Int) (b : List Nat) : Nat × List Nat × Nat :=
 if n < 0 ∨ 65536 ≤ n then (0, [], 2) else if b.length < 512 then (0, [], 4) else if 512 < b.length then (0, [], 5)
 else if b.take 4 ≠ four (Cr.of (b.drop 4)) then (0, [], 6)
 else if 496 < size b then (0, [], 5)
 else if page n.toNat (b.getD 8 0) (body b) ≠ b then (0, [], 5)
 else (b.getD 8 0, body b, 0)
section
variable {n : Int} {k : Nat} {b : List Nat}
theorem putE_arg (h : n < 0 ∨ 65536 ≤ n) : putE n k b = ([], 2) := if_pos h
theorem putE_lim (h : ¬ (n < 0 ∨ 65536 ≤ n)) (hb : 496 < b.length) : putE n k b = ([], 3) := by unfold putE; rw [if_neg h, if_pos hb]
theorem putE_ok (h : ¬ (n < 0 ∨ 65536 ≤ n)) (hb : ¬ 496 < b.length) : putE n k b = (page n.toNat k b, 0) := by unfold putE; rw [if_neg h, if_neg hb]
theorem getE_arg (h : n < 0 ∨ 65536 ≤ n) : getE n b = (0, [], 2) := if_pos h
theorem getE_short (h : ¬ (n < 0 ∨ 65536 ≤ n)) (h1 : b.length < 512) : getE n b = (0, [], 4) := by unfold getE; rw [if_neg h, if_pos h1]
theorem getE_long (h : ¬ (n < 0 ∨ 65536 ≤ n)) (h1 : ¬ b.length < 512) (h2 : 512 < b.length) : getE n b = (0, [], 5) := by unfold getE; rw [if_neg h, if_neg h1, if_pos h2]
theorem getE_sum (h : ¬ (n < 0 ∨ 65536 ≤ n)) (h1 : ¬ b.length < 512) (h2 : ¬ 512 < b.length) (h3 : b.take 4 ≠ four (Cr.of (b.drop 4))) : getE n b = (0, [], 6) := by
 unfold getE; rw [if_neg h, if_neg h1, if_neg h2, if_pos h3]
theorem getE_size (h : ¬ (n < 0 ∨ 65536 ≤ n)) (h1 : ¬ b.length < 512) (h2 : ¬ 512 < b.length) (h3 : b.take 4 = four (Cr.of (b.drop 4))) (h4 : 496 < size b) : getE n b = (0, [], 5) := by
 unfold getE; rw [if_neg h, if_neg h1, if_neg h2, if_neg (by simpa using h3), if_pos h4]
theorem getE_form (h : ¬ (n < 0 ∨ 65536 ≤ n)) (h1 : ¬ b.length < 512) (h2 : ¬ 512 < b.length) (h3 : b.take 4 = four (Cr.of (b.drop 4))) (h4 : ¬ 496 < size b) (h5 : page n.toNat (b.getD 8 0) (body b) ≠ b) : getE n b = (0, [], 5) := by
 unfold getE; rw [if_neg h, if_neg h1, if_neg h2, if_neg (by simpa using h3), if_neg h4, if_pos h5]
theorem getE_ok (h : ¬ (n < 0 ∨ 65536 ≤ n)) (h1 : ¬ b.length < 512) (h2 : ¬ 512 < b.length) (h3 : b.take 4 = four (Cr.of (b.drop 4))) (h4 : ¬ 496 < size b) (h5 : page n.toNat (b.getD 8 0) (body b) = b) : getE n b = (b.getD 8 0, body b, 0) := by
 unfold getE; rw [if_neg h, if_neg h1, if_neg h2, if_neg (by simpa using h3), if_neg h4, if_neg (by simpa using h5)]
end
theorem head_len (n k m : Nat) : (head n k m).length = 8 := rfl
theorem head_lt {n k m : Nat} (hk : k < 256) : ∀ x ∈ head n k m, x < 256 := by
 intro x hx
 simp only [head, List.mem_cons, List.not_mem_nil, or_false] at hx
 rcases hx with rfl | rfl | rfl | rfl | rfl | rfl | rfl | rfl <;> omega
theorem rest_len {n k : Nat} {b : List Nat} (hb : b.length ≤ 496) : (rest n k b).length = 508 := by
 simp only [rest, List.length_append, head_len, List.length_replicate]; omega
theorem rest_lt {n k : Nat} {b : List Nat} (hk : k < 256) (hb : ∀ x ∈ b, x < 256) : ∀ x ∈ rest n k b, x < 256 := by
 intro x hx
 rcases List.mem_append.1 hx with h | h
 ·rcases List.mem_append.1 h with h | h
  ·exact head_lt hk x h
  ·exact hb x h
 ·rw [List.eq_of_mem_replicate h]; omega
theorem page_len {n k : Nat} {b : List Nat} (hb : b.length ≤ 496) : (page n k b).length = 512 := by
 rw [page, List.length_append, rest_len hb]; rfl
theorem page_lt {n k : Nat} {b : List Nat} (hk : k < 256) (hb : ∀ x ∈ b, x < 256) : ∀ x ∈ page n k b, x < 256 := by
 intro x hx
 rcases List.mem_append.1 hx with h | h
 ·exact four_lt _ x h
 ·exact rest_lt hk hb x h
theorem page_take (n k : Nat) (b : List Nat) : (page n k b).take 4 = four (Cr.of (rest n k b)) := List.take_left' rfl
theorem page_drop (n k : Nat) (b : List Nat) : (page n k b).drop 4 = rest n k b := List.drop_left' rfl
theorem page_at (n k : Nat) (b : List Nat) {i : Nat} (hi : i < 8) : (page n k b).getD (4 + i) 0 = (head n k b.length).getD i 0 := by
 have h1 : (page n k b)[4 + i]? = (head n k b.length)[i]? := by
  rw [← List.getElem?_drop, page_drop, rest, List.append_assoc, List.getElem?_append_left (by rw [head_len]; exact hi)]
 rw [List.getD_eq_getElem?_getD, List.getD_eq_getElem?_getD, h1]
theorem page_size {n k : Nat} {b : List Nat} (hb : b.length ≤ 496) : size (page n k b) = b.length := by
 unfold size
 have h6 := page_at n k b (i := 6) (by omega)
 have h7 := page_at n k b (i := 7) (by omega)
 rw [show 10 = 4 + 6 from rfl, show 11 = 4 + 7 from rfl, h6, h7]
 show b.length % 256 + 256 * (b.length / 256 % 256) = _
 omega
theorem page_body {n k : Nat} {b : List Nat} (hb : b.length ≤ 496) : body (page n k b) = b := by
 unfold body
 rw [page_size hb, show 12 = 4 + 8 from rfl, ← List.drop_drop, page_drop, rest, List.append_assoc, List.drop_left' (head_len _ _ _), List.take_left' rfl]
theorem page_kind (n k : Nat) (b : List Nat) : (page n k b).getD 8 0 = k := page_at n k b (i := 4) (by omega)
theorem getE_put {n : Int} {k : Nat} {b p : List Nat} (h : putE n k b = (p, 0)) : getE n p = (k, b, 0) ∧ p = page n.toNat k b ∧ b.length ≤ 496 ∧ 0 ≤ n ∧ n < 65536 := by
 by_cases h1 : n < 0 ∨ 65536 ≤ n
 ·rw [putE_arg h1] at h; simp at h
 ·by_cases h2 : 496 < b.length
  ·rw [putE_lim h1 h2] at h; simp at h
  ·rw [putE_ok h1 h2] at h
   simp only [Prod.mk.injEq, and_true] at h
   subst h
   have hl := page_len (n := n.toNat) (k := k) (show b.length ≤ 496 by omega)
   refine ⟨?_, rfl, by omega, by omega, by omega⟩
   have hk := page_kind n.toNat k b
   have hb := page_body (n := n.toNat) (k := k) (show b.length ≤ 496 by omega)
   have hs := page_size (n := n.toNat) (k := k) (show b.length ≤ 496 by omega)
   have := getE_ok (n := n) (b := page n.toNat k b) h1 (by omega) (by omega) (by rw [page_take, page_drop]) (by rw [hs]; omega) (by rw [hk, hb])
   rwa [hk, hb] at this
theorem putE_get {n : Int} {k : Nat} {b c : List Nat} (h : getE n b = (k, c, 0)) : putE n k c = (b, 0) := by
 by_cases h0 : n < 0 ∨ 65536 ≤ n
 ·rw [getE_arg h0] at h; simp at h
 by_cases h1 : b.length < 512
 ·rw [getE_short h0 h1] at h; simp at h
 by_cases h2 : 512 < b.length
 ·rw [getE_long h0 h1 h2] at h; simp at h
 by_cases h3 : b.take 4 = four (Cr.of (b.drop 4))
 ·by_cases h4 : 496 < size b
  ·rw [getE_size h0 h1 h2 h3 h4] at h; simp at h
  by_cases h5 : page n.toNat (b.getD 8 0) (body b) = b
  ·rw [getE_ok h0 h1 h2 h3 h4 h5] at h
   simp only [Prod.mk.injEq, and_true] at h
   obtain ⟨rfl, rfl⟩ := h
   have hl : (body b).length ≤ 496 := by unfold body; rw [List.length_take]; omega
   rw [putE_ok h0 (by omega), h5]
  ·rw [getE_form h0 h1 h2 h3 h4 h5] at h; simp at h
 ·rw [getE_sum h0 h1 h2 h3] at h; simp at h
theorem getE_bad {n : Int} {k e : Nat} {b c : List Nat} (h : getE n b = (k, c, e)) (he : e ≠ 0) : k = 0 ∧ c = [] := by
 by_cases h0 : n < 0 ∨ 65536 ≤ n
 ·rw [getE_arg h0] at h; simp only [Prod.mk.injEq] at h; exact ⟨h.1.symm, h.2.1.symm⟩
 by_cases h1 : b.length < 512
 ·rw [getE_short h0 h1] at h; simp only [Prod.mk.injEq] at h; exact ⟨h.1.symm, h.2.1.symm⟩
 by_cases h2 : 512 < b.length
 ·rw [getE_long h0 h1 h2] at h; simp only [Prod.mk.injEq] at h; exact ⟨h.1.symm, h.2.1.symm⟩
 by_cases h3 : b.take 4 = four (Cr.of (b.drop 4))
 ·by_cases h4 : 496 < size b
  ·rw [getE_size h0 h1 h2 h3 h4] at h; simp only [Prod.mk.injEq] at h; exact ⟨h.1.symm, h.2.1.symm⟩
  by_cases h5 : page n.toNat (b.getD 8 0) (body b) = b
  ·rw [getE_ok h0 h1 h2 h3 h4 h5] at h
   simp only [Prod.mk.injEq] at h
   omega
  ·rw [getE_form h0 h1 h2 h3 h4 h5] at h; simp only [Prod.mk.injEq] at h; exact ⟨h.1.symm, h.2.1.symm⟩
 ·rw [getE_sum h0 h1 h2 h3] at h; simp only [Prod.mk.injEq] at h; exact ⟨h.1.symm, h.2.1.symm⟩
end Go.Proofs.YtiafeniflkikeaaGreat.Pg
