/-
  CMath: Plain mathematics of chapter 2 (crc): a step, a byte taken in, sums, and what follows. No Go in sight.
  CFrame: From what a row says of its arguments to the words of chapter 2's text: numbers of 32 and of 8 bits.
  Cat: Rows, one behind the other.
-/
import Derived.Test.YtlefkaoibokjdaaPc04
import Derived.Test.YtlefkaoibokjdaaPc01
namespace Go.Proofs.Ytlefkaoibokjdaa.Cr

def B32 (n : Nat) : Prop := n < 4294967296
def step (r : Nat) : Nat := if r % 2 = 0 then r / 2 else r / 2 ^^^ 2197175160
def stepN : Nat → Nat → Nat
  | 0, r => r
  | k + 1, r => step (stepN k r)
def take (r c : Nat) : Nat := stepN 8 (r ^^^ c)
def raw (r : Nat) (l : List Nat) : Nat := l.foldl take r
def ones : Nat := 4294967295
def flip (r : Nat) : Nat := ones ^^^ r
def more (s : Nat) (l : List Nat) : Nat := flip (raw (flip s) l)
def of (l : List Nat) : Nat := more 0 l
def join (a b n : Nat) : Nat := raw a (List.replicate n 0) ^^^ b

theorem xor_b32 {a b : Nat} (ha : B32 a) (hb : B32 b) : B32 (a ^^^ b) := by
  have := Nat.xor_lt_two_pow (x := a) (y := b) (n := 32) ha hb
  exact this
theorem byte_b32 {c : Nat} (h : c < 256) : B32 c := by unfold B32; omega
theorem step_b32 {r : Nat} (h : B32 r) : B32 (step r) := by
  unfold step
  split
  · unfold B32 at *; omega
  · exact xor_b32 (by unfold B32 at *; omega) (by unfold B32; omega)
theorem stepN_b32 {r : Nat} (h : B32 r) (k : Nat) : B32 (stepN k r) := by
  induction k with
  | zero => exact h
  | succ k ih => exact step_b32 ih
theorem take_b32 {r c : Nat} (h : B32 r) (hc : c < 256) : B32 (take r c) := stepN_b32 (xor_b32 h (byte_b32 hc)) 8
theorem raw_b32 {l : List Nat} (hl : ∀ x ∈ l, x < 256) : ∀ {r : Nat}, B32 r → B32 (raw r l) := by
  induction l with
  | nil => intro r h; exact h
  | cons c l ih => intro r h; exact ih (fun x hx => hl x (by simp [hx])) (take_b32 h (hl c (by simp)))
theorem ones_b32 : B32 ones := by unfold B32 ones; omega
theorem zero_b32 : B32 0 := by unfold B32; omega
theorem ones_eq : ones = 4294967295 := rfl
attribute [irreducible] ones
theorem flip_b32 {r : Nat} (h : B32 r) : B32 (flip r) := xor_b32 ones_b32 h
theorem more_b32 {s : Nat} {l : List Nat} (h : B32 s) (hl : ∀ x ∈ l, x < 256) : B32 (more s l) := flip_b32 (raw_b32 hl (flip_b32 h))
theorem of_b32 {l : List Nat} (hl : ∀ x ∈ l, x < 256) : B32 (of l) := by
  show B32 (more 0 l)
  exact more_b32 zero_b32 hl
theorem raw_nil (r : Nat) : raw r [] = r := rfl
theorem raw_cons (r c : Nat) (l : List Nat) : raw r (c :: l) = raw (take r c) l := List.foldl_cons ..
theorem raw_append (r : Nat) (l m : List Nat) : raw r (l ++ m) = raw (raw r l) m := List.foldl_append ..
theorem raw_snoc (r : Nat) (l : List Nat) (c : Nat) : raw r (l ++ [c]) = take (raw r l) c := raw_append r l [c]
theorem raw_step {r : Nat} {l : List Nat} {k c : Nat} (h : l.drop k = c :: l.drop (k + 1)) : raw r (l.take (k + 1)) = take (raw r (l.take k)) c := by
  have h1 : l.take (k + 1) = l.take k ++ [c] := by
    rw [List.take_add (l := l) (i := k) (j := 1), h]; rfl
  rw [h1, raw_snoc]
theorem raw_zeros_succ (r k : Nat) : raw r (List.replicate (k + 1) 0) = take (raw r (List.replicate k 0)) 0 := by
  rw [List.replicate_succ', raw_snoc]

theorem xor_cancel (a b : Nat) : a ^^^ b ^^^ b = a := by rw [Nat.xor_assoc, Nat.xor_self, Nat.xor_zero]
theorem xor_swap (a b c d : Nat) : (a ^^^ b) ^^^ (c ^^^ d) = (a ^^^ c) ^^^ (b ^^^ d) := by
  rw [Nat.xor_assoc, ← Nat.xor_assoc b c d, Nat.xor_comm b c, Nat.xor_assoc c b d, ← Nat.xor_assoc]
theorem xor_eq_zero {a b : Nat} (h : a ^^^ b = 0) : a = b := by
  have := xor_cancel a b
  rw [h, Nat.zero_xor] at this
  exact this.symm

theorem step_xor (a b : Nat) : step (a ^^^ b) = step a ^^^ step b := by
  have hd : (a ^^^ b) / 2 = a / 2 ^^^ b / 2 := Nat.xor_div_two
  have hm : (a ^^^ b) % 2 = (a + b) % 2 := by
    have := Nat.xor_mod_two_pow (a := a) (b := b) (n := 1)
    rw [Nat.pow_one] at this
    rw [this]
    rcases Nat.mod_two_eq_zero_or_one a with ha | ha <;> rcases Nat.mod_two_eq_zero_or_one b with hb | hb <;> rw [ha, hb, Nat.add_mod, ha, hb] <;> rfl
  unfold step
  rw [hd, hm]
  rcases Nat.mod_two_eq_zero_or_one a with ha | ha <;> rcases Nat.mod_two_eq_zero_or_one b with hb | hb
  · rw [if_pos (by omega), if_pos ha, if_pos hb]
  · rw [if_neg (by omega), if_pos ha, if_neg (by omega), Nat.xor_assoc]
  · rw [if_neg (by omega), if_neg (by omega), if_pos hb, Nat.xor_assoc, Nat.xor_assoc, Nat.xor_comm (b / 2)]
  · rw [if_pos (by omega), if_neg (by omega), if_neg (by omega), xor_swap, Nat.xor_self, Nat.xor_zero]
theorem stepN_xor (k a b : Nat) : stepN k (a ^^^ b) = stepN k a ^^^ stepN k b := by
  induction k with
  | zero => rfl
  | succ k ih => show step (stepN k (a ^^^ b)) = _; rw [ih, step_xor]; rfl
theorem step_zero {r : Nat} (hr : B32 r) (h : step r = 0) : r = 0 := by
  unfold step at h
  split at h
  · omega
  · have := xor_eq_zero h
    unfold B32 at hr
    omega
theorem step_inj {a b : Nat} (ha : B32 a) (hb : B32 b) (h : step a = step b) : a = b := by
  apply xor_eq_zero
  apply step_zero (xor_b32 ha hb)
  rw [step_xor, h, Nat.xor_self]
theorem stepN_inj (k : Nat) {a b : Nat} (ha : B32 a) (hb : B32 b) (h : stepN k a = stepN k b) : a = b := by
  induction k with
  | zero => exact h
  | succ k ih => exact ih (step_inj (stepN_b32 ha k) (stepN_b32 hb k) h)
theorem take_inj {a b c : Nat} (ha : B32 a) (hb : B32 b) (hc : c < 256) (h : take a c = take b c) : a = b := by
  have h1 := stepN_inj 8 (xor_b32 ha (byte_b32 hc)) (xor_b32 hb (byte_b32 hc)) h
  have h2 := congrArg (· ^^^ c) h1
  simpa [xor_cancel] using h2

/-! ### Rows put against one another -/
def against (l m : List Nat) : List Nat := List.zipWith (· ^^^ ·) l m
theorem take_xor (a b c d : Nat) : take (a ^^^ b) (c ^^^ d) = take a c ^^^ take b d := by
  unfold take
  rw [xor_swap, stepN_xor]
theorem raw_against {l m : List Nat} (h : l.length = m.length) : ∀ (a b : Nat), raw (a ^^^ b) (against l m) = raw a l ^^^ raw b m := by
  induction l generalizing m with
  | nil => intro a b; cases m with
    | nil => rfl
    | cons => simp at h
  | cons c l ih =>
    intro a b
    cases m with
    | nil => simp at h
    | cons d m =>
      show raw (take (a ^^^ b) (c ^^^ d)) (against l m) = raw (take a c) l ^^^ raw (take b d) m
      rw [take_xor, ih (by simpa using h)]
theorem against_zeros (l : List Nat) : against l (List.replicate l.length 0) = l := by
  induction l with
  | nil => rfl
  | cons c l ih => show (c ^^^ 0) :: against l (List.replicate l.length 0) = _; rw [ih, Nat.xor_zero]

theorem flip_eq (r : Nat) : flip r = ones ^^^ r := rfl
theorem flip_flip (r : Nat) : flip (flip r) = r := by rw [flip_eq, flip_eq, ← Nat.xor_assoc, Nat.xor_self, Nat.zero_xor]
theorem flip_zero : flip 0 = ones := by rw [flip_eq, Nat.xor_zero]
theorem more_eq (s : Nat) (l : List Nat) : more s l = flip (raw (flip s) l) := rfl
theorem of_eq (l : List Nat) : of l = flip (raw ones l) := by rw [← flip_zero]; rfl
theorem join_eq (a b n : Nat) : join a b n = raw a (List.replicate n 0) ^^^ b := rfl

/-- Pieces: more behind the first. -/
theorem of_append (l m : List Nat) : of (l ++ m) = more (of l) m := by
  rw [of_eq, of_eq, more_eq, raw_append, flip_flip]
theorem zeros_against (m : List Nat) : against (List.replicate m.length 0) m = m := by
  induction m with
  | nil => rfl
  | cons c m ih => show (0 ^^^ c) :: against (List.replicate m.length 0) m = _; rw [ih, Nat.zero_xor]
/-- Pieces: both sums joined. -/
theorem join_of (l m : List Nat) : join (of l) (of m) m.length = of (l ++ m) := by
  have h := raw_against (l := List.replicate m.length 0) (m := m) (by simp) (of l) ones
  rw [zeros_against] at h
  have e : flip (of l) = of l ^^^ ones := by rw [flip_eq, Nat.xor_comm]
  rw [of_append, more_eq, e, h, join_eq, of_eq m, flip_eq, flip_eq, ← Nat.xor_assoc, ← Nat.xor_assoc, Nat.xor_comm ones]
theorem xor_three (o a b c : Nat) : o ^^^ (a ^^^ b ^^^ c) = (o ^^^ a) ^^^ (o ^^^ b) ^^^ (o ^^^ c) := by
  rw [xor_swap o a o b, Nat.xor_self, Nat.zero_xor, ← Nat.xor_assoc, ← Nat.xor_assoc, ← Nat.xor_assoc, Nat.xor_comm _ o, Nat.xor_assoc o a b]
/-- Three rows put against one another. -/
theorem of_against {l m n : List Nat} (h : l.length = m.length) (h2 : m.length = n.length) : of (against (against l m) n) = of l ^^^ of m ^^^ of n := by
  have h3 : (against l m).length = n.length := by simp [against]; omega
  have a1 := raw_against h3 (ones ^^^ ones) ones
  rw [raw_against h] at a1
  rw [Nat.xor_self, Nat.zero_xor] at a1
  rw [of_eq, of_eq, of_eq, of_eq, a1, flip_eq, flip_eq, flip_eq, flip_eq, xor_three]

/-! ### Four bytes side by side -/
/-- A number of bytes, the lowest first. -/
def le : List Nat → Nat
  | [] => 0
  | c :: l => c + 256 * le l
theorem le_lt {l : List Nat} (hl : ∀ x ∈ l, x < 256) : le l < 256 ^ l.length := by
  induction l with
  | nil => simp [le]
  | cons c l ih =>
    have h1 := ih (fun x hx => hl x (by simp [hx]))
    have h2 := hl c (by simp)
    simp only [le, List.length_cons, Nat.pow_succ]
    omega
theorem stepN_shift (k : Nat) : ∀ x, stepN k (x * 2 ^ k) = x := by
  induction k with
  | zero => intro x; simp [stepN]
  | succ k ih =>
    intro x
    show step (stepN k (x * 2 ^ (k + 1))) = x
    rw [Nat.pow_succ, Nat.mul_comm (2 ^ k) 2, ← Nat.mul_assoc, ih (x * 2)]
    unfold step
    rw [if_pos (by omega)]
    omega
theorem stepN_add (j k x : Nat) : stepN j (stepN k x) = stepN (j + k) x := by
  induction j with
  | zero => simp [stepN]
  | succ j ih => rw [Nat.succ_add]; show step (stepN j (stepN k x)) = step (stepN (j + k) x); rw [ih]
theorem xor_low {c x : Nat} (h : c < 256) : c ^^^ 256 * x = c + 256 * x := by
  have h1 := Nat.two_pow_add_eq_or_of_lt (i := 8) (b := c) h x
  apply Nat.eq_of_testBit_eq
  intro i
  rw [Nat.testBit_xor]
  have h2 : (c + 256 * x).testBit i = (256 * x ||| c).testBit i := by rw [← h1, Nat.add_comm]
  rw [h2, Nat.testBit_or]
  have h3 : (256 * x).testBit i = (decide (8 ≤ i) && x.testBit (i - 8)) := by
    have := Nat.testBit_two_pow_mul (i := 8) (a := x) (j := i)
    exact this
  by_cases hi : 8 ≤ i
  · have h4 : c.testBit i = false := Nat.testBit_lt_two_pow (Nat.lt_of_lt_of_le (m := 2 ^ 8) h (Nat.pow_le_pow_right (by omega) hi))
    simp [h4]
  · rw [h3]; simp [hi]
theorem raw_le {l : List Nat} (hl : ∀ x ∈ l, x < 256) : ∀ r, raw r l = stepN (8 * l.length) (r ^^^ le l) := by
  induction l with
  | nil => intro r; simp [raw, le, stepN]
  | cons c l ih =>
    intro r
    have h1 := hl c (by simp)
    rw [raw_cons, ih (fun x hx => hl x (by simp [hx]))]
    have h2 : le l = stepN 8 (256 * le l) := by have := stepN_shift 8 (le l); rw [Nat.mul_comm] at this; exact this.symm
    unfold take
    rw [h2, ← stepN_xor, stepN_add, Nat.xor_assoc, xor_low h1]
    rfl
theorem le_zero {l : List Nat} (h : le l = 0) : ∀ x ∈ l, x = 0 := by
  induction l with
  | nil => simp
  | cons c l ih =>
    simp only [le] at h
    intro x hx
    rcases List.mem_cons.1 hx with rfl | hx
    · omega
    · exact ih (by omega) x hx
theorem raw_four {l : List Nat} (hl : ∀ x ∈ l, x < 256) (h4 : l.length ≤ 4) (h : raw 0 l = 0) : ∀ x ∈ l, x = 0 := by
  have h1 := le_lt hl
  have h2 : 256 ^ l.length ≤ 256 ^ 4 := Nat.pow_le_pow_right (by decide) h4
  apply le_zero
  have h3 : B32 (le l) := by unfold B32; omega
  rw [raw_le hl, Nat.zero_xor] at h
  apply stepN_inj (8 * l.length) h3 (b := 0) zero_b32
  rw [h]
  have := stepN_shift (8 * l.length) 0
  rw [Nat.zero_mul] at this
  exact this.symm
theorem raw_of_zeros {l : List Nat} (h : ∀ x ∈ l, x = 0) : raw 0 l = 0 := by
  induction l with
  | nil => rfl
  | cons c l ih =>
    have : c = 0 := h c (by simp)
    subst this
    rw [raw_cons]
    have e : take 0 0 = 0 := by decide
    rw [e]
    exact ih (fun x hx => h x (by simp [hx]))
theorem raw_zero_iff {l : List Nat} (hl : ∀ x ∈ l, x < 256) {r : Nat} (hr : B32 r) (hz : ∀ x ∈ l, x = 0) (h : raw r l = 0) : r = 0 := by
  induction l generalizing r with
  | nil => exact h
  | cons c l ih =>
    have : c = 0 := hz c (by simp)
    subst this
    have h1 := ih (fun x hx => hl x (by simp [hx])) (take_b32 hr (by omega)) (fun x hx => hz x (by simp [hx])) h
    apply take_inj hr zero_b32 (c := 0) (by omega)
    rw [h1]; decide

/-- Rows alike but for up to four bytes side by side. -/
theorem of_burst {p d e s : List Nat} (hd : ∀ x ∈ d, x < 256) (he : ∀ x ∈ e, x < 256) (hs : ∀ x ∈ s, x < 256) (hp : ∀ x ∈ p, x < 256) (hl : d.length = e.length) (h4 : d.length ≤ 4) : of (p ++ d ++ s) = of (p ++ e ++ s) ↔ d = e := by
  constructor
  · intro h
    unfold of more at h
    have h1 : raw (flip 0) (p ++ d ++ s) = raw (flip 0) (p ++ e ++ s) := by
      have := congrArg flip h
      rwa [flip_flip, flip_flip] at this
    rw [raw_append, raw_append, raw_append, raw_append] at h1
    obtain ⟨r, hr⟩ : ∃ r, raw (flip 0) p = r := ⟨_, rfl⟩
    have hrb : B32 r := by rw [← hr]; exact raw_b32 hp (flip_b32 zero_b32)
    rw [hr] at h1
    have h2 : ∀ {l : List Nat}, (∀ x ∈ l, x < 256) → ∀ {a b : Nat}, B32 a → B32 b → raw a l = raw b l → a = b := by
      intro l
      induction l with
      | nil => intro _ a b _ _ h; exact h
      | cons c l ih =>
        intro hl a b ha hb h
        have hc := hl c (by simp)
        exact take_inj ha hb hc (ih (fun x hx => hl x (by simp [hx])) (take_b32 ha hc) (take_b32 hb hc) h)
    have h3 := h2 hs (raw_b32 hd hrb) (raw_b32 he hrb) h1
    have h5 := raw_against hl r r
    rw [Nat.xor_self, h3, Nat.xor_self] at h5
    have h6 : ∀ x ∈ against d e, x < 256 := by
      intro x hx
      obtain ⟨i, hi, rfl⟩ := List.mem_iff_getElem.1 hx
      simp only [against, List.getElem_zipWith]
      exact Nat.xor_lt_two_pow (n := 8) (hd _ (List.getElem_mem _)) (he _ (List.getElem_mem _))
    have h7 := raw_four h6 (by simp [against]; omega) h5
    apply List.ext_getElem hl
    intro i h8 h9
    have h10 : d[i] ^^^ e[i] ∈ against d e := by
      have : (against d e)[i]'(by simp [against]; omega) = d[i] ^^^ e[i] := by simp [against]
      rw [← this]
      exact List.getElem_mem _
    exact xor_eq_zero (h7 _ h10)
  · intro h; rw [h]
end Go.Proofs.Ytlefkaoibokjdaa.Cr
namespace Go.Proofs.Ytlefkaoibokjdaa
open Go.ChangeShapes Go.WideShapes Go.ChangeAt Go.RowKit

theorem u32_nat {a : Int} (h : (Lit.int .u32 a).wf = true) : ∃ n : Nat, a = (n : Int) ∧ Cr.B32 n := by
  have hb := bounds_u32 h
  obtain ⟨n, rfl⟩ := Int.eq_ofNat_of_zero_le hb.1
  exact ⟨n, rfl, by unfold Cr.B32; omega⟩
end Go.Proofs.Ytlefkaoibokjdaa
namespace Go.Proofs.Ytlefkaoibokjdaa

/-- All rows, one behind the other. -/
def cat (ls : List (List Nat)) : List Nat := ls.flatten
theorem flat_succ {ls : List (List Nat)} {k : Nat} {l : List Nat} (h : ls[k]? = some l) : cat (ls.take (k + 1)) = cat (ls.take k) ++ l := by
  unfold cat
  rw [List.take_add_one, h]; simp
theorem flat_le (ls : List (List Nat)) (k : Nat) : (cat (ls.take k)).length ≤ (cat ls).length := by
  unfold cat
  have h := List.take_append_drop k ls
  have h2 := congrArg (fun x => x.flatten.length) h
  simp only [List.flatten_append, List.length_append] at h2
  omega

end Go.Proofs.Ytlefkaoibokjdaa
