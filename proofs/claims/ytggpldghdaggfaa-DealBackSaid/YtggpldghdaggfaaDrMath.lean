/-
  Plain mathematics of chapter 5 (draw): to mix, and to bring back.
-/
import Derived.Test.YtggpldghdaggfaaDrOps
namespace Go.Proofs.Ytggpldghdaggfaa.Dr

/-- A number against itself shifted down. -/
def xs (n : Nat) (z : W64) : W64 := z ^^^ (z >>> n)
/-- What it was. -/
def back (n : Nat) (w : W64) : W64 := (w ^^^ (w >>> n)) ^^^ (w >>> (n + n))
theorem shr_xor (a b : W64) (n : Nat) : (a ^^^ b) >>> n = (a >>> n) ^^^ (b >>> n) := by
  apply BitVec.eq_of_getLsbD_eq
  intro i hi
  simp
theorem shr_none (a : W64) (n : Nat) (h : 64 ≤ n) : a >>> n = 0#64 := by
  apply BitVec.eq_of_getLsbD_eq
  intro i hi
  rw [BitVec.getLsbD_ushiftRight, BitVec.getLsbD_of_ge _ _ (by omega)]
  simp
theorem shr_shr (a : W64) (n m : Nat) : (a >>> n) >>> m = a >>> (n + m) := by
  apply BitVec.eq_of_getLsbD_eq
  intro i hi
  simp only [BitVec.getLsbD_ushiftRight]
  congr 1; omega
theorem xor_cancel (a b : W64) : a ^^^ b ^^^ b = a := by rw [BitVec.xor_assoc, BitVec.xor_self, BitVec.xor_zero]
theorem xs_back {n : Nat} (h : 64 ≤ n + n + n) (w : W64) : xs n (back n w) = w := by
  unfold xs back
  rw [shr_xor, shr_xor, shr_shr, shr_shr, shr_none w (n + n + n) h]
  generalize w >>> n = a
  generalize w >>> (n + n) = b
  apply BitVec.eq_of_getLsbD_eq
  intro i hi
  simp only [BitVec.getLsbD_xor, BitVec.getLsbD_zero]
  cases w.getLsbD i <;> cases a.getLsbD i <;> cases b.getLsbD i <;> rfl
theorem back_xs {n : Nat} (h : 64 ≤ n + n + n) (z : W64) : back n (xs n z) = z := by
  unfold xs back
  rw [shr_xor, shr_xor, shr_shr, shr_shr, show n + (n + n) = n + n + n by omega, shr_none z (n + n + n) h]
  generalize z >>> n = a
  generalize z >>> (n + n) = b
  apply BitVec.eq_of_getLsbD_eq
  intro i hi
  simp only [BitVec.getLsbD_xor, BitVec.getLsbD_zero]
  cases z.getLsbD i <;> cases a.getLsbD i <;> cases b.getLsbD i <;> rfl

def gold : W64 := BitVec.ofNat 64 11400714819323198485
def first : W64 := BitVec.ofNat 64 13787848793156543929
def other : W64 := BitVec.ofNat 64 10723151780598845931
def first' : W64 := BitVec.ofNat 64 10871156337175269513
def other' : W64 := BitVec.ofNat 64 3573116690164977347
theorem first_back (z : W64) : z * first * first' = z := by rw [BitVec.mul_assoc, show first * first' = 1#64 from by decide +kernel, BitVec.mul_one]
theorem back_first (z : W64) : z * first' * first = z := by rw [BitVec.mul_assoc, show first' * first = 1#64 from by decide +kernel, BitVec.mul_one]
theorem other_back (z : W64) : z * other * other' = z := by rw [BitVec.mul_assoc, show other * other' = 1#64 from by decide +kernel, BitVec.mul_one]
theorem back_other (z : W64) : z * other' * other = z := by rw [BitVec.mul_assoc, show other' * other = 1#64 from by decide +kernel, BitVec.mul_one]

def mix (z : W64) : W64 := xs 31 (xs 27 (xs 30 z * first) * other)
def unmix (w : W64) : W64 := back 30 (back 27 (back 31 w * other') * first')
theorem unmix_mix (z : W64) : unmix (mix z) = z := by
  unfold unmix mix
  rw [back_xs (by decide), other_back, back_xs (by decide), first_back, back_xs (by decide)]
theorem mix_unmix (w : W64) : mix (unmix w) = w := by
  unfold unmix mix
  rw [xs_back (by decide), back_first, xs_back (by decide), back_other, xs_back (by decide)]
theorem mix_inj {a b : W64} (h : mix a = mix b) : a = b := by rw [← unmix_mix a, h, unmix_mix]

/-! The reference's way back: a bit at a time. -/
/-- The upper k bits of x. -/
def top (k : Nat) (x : W64) : W64 := (x >>> (64 - k)) <<< (64 - k)
theorem top_bit (k : Nat) (x : W64) (j : Nat) (hj : j < 64) : (top k x).getLsbD j = (decide (64 - k ≤ j) && x.getLsbD j) := by
  unfold top
  rw [BitVec.getLsbD_shiftLeft, BitVec.getLsbD_ushiftRight]
  by_cases h : 64 - k ≤ j
  · rw [show 64 - k + (j - (64 - k)) = j by omega]
    simp [h, hj, show ¬ j < 64 - k by omega]
  · simp [h, show j < 64 - k by omega]
theorem top_none (x : W64) : top 0 x = 0#64 := by
  apply BitVec.eq_of_getLsbD_eq
  intro j hj
  rw [top_bit _ _ _ hj]
  simp [show ¬ 64 ≤ j by omega]
theorem top_all (x : W64) : top 64 x = x := by
  apply BitVec.eq_of_getLsbD_eq
  intro j hj
  rw [top_bit _ _ _ hj]
  simp
/-- A bit of w. -/
def bit (w : W64) (i : Nat) : W64 := (w >>> i) &&& 1#64
theorem bit_bit (w : W64) (i m : Nat) : (bit w i).getLsbD m = (decide (m = 0) && w.getLsbD i) := by
  unfold bit
  rw [BitVec.getLsbD_and, BitVec.getLsbD_ushiftRight, BitVec.getLsbD_one]
  by_cases h : m = 0
  · subst h; simp
  · simp [h]
theorem xs_bit (n : Nat) (b : W64) (i : Nat) : (xs n b).getLsbD i = (b.getLsbD i ^^ b.getLsbD (n + i)) := by
  unfold xs; rw [BitVec.getLsbD_xor, BitVec.getLsbD_ushiftRight]
theorem top_far (n : Nat) (hn : 0 < n) (w b : W64) (h : xs n b = w) (k : Nat) (hk : k < 64) (hi : 63 - k + n < 64) :
    top k b ||| ((bit w (63 - k) ^^^ bit (top k b) (63 - k + n)) <<< (63 - k)) = top (k + 1) b := by
  have hw := xs_bit n b (63 - k)
  rw [h] at hw
  apply BitVec.eq_of_getLsbD_eq
  intro j hj
  rw [BitVec.getLsbD_or, top_bit _ _ _ hj, top_bit _ _ _ hj, BitVec.getLsbD_shiftLeft, BitVec.getLsbD_xor, bit_bit, bit_bit, top_bit _ _ _ hi, hw, show n + (63 - k) = 63 - k + n by omega]
  by_cases e : j = 63 - k
  · subst e
    have h1 : ¬ 64 - k ≤ 63 - k := by omega
    have h3 : 64 - k ≤ 63 - k + n := by omega
    simp [h1, h3, hj]
  · by_cases g : 64 - k ≤ j
    · have h2 : 63 ≤ j + k := by omega
      have h4 : ¬ j - (63 - k) = 0 := by omega
      simp [g, h2, h4]
    · have h2 : ¬ 63 ≤ j + k := by omega
      have h4 : j < 63 - k := by omega
      simp [g, h2, h4]
theorem top_near (n : Nat) (w b : W64) (h : xs n b = w) (k : Nat) (hk : k < 64) (hi : ¬ 63 - k + n < 64) :
    top k b ||| (bit w (63 - k) <<< (63 - k)) = top (k + 1) b := by
  have hw := xs_bit n b (63 - k)
  rw [h, BitVec.getLsbD_of_ge b (n + (63 - k)) (by omega), Bool.xor_false] at hw
  apply BitVec.eq_of_getLsbD_eq
  intro j hj
  rw [BitVec.getLsbD_or, top_bit _ _ _ hj, top_bit _ _ _ hj, BitVec.getLsbD_shiftLeft, bit_bit, hw]
  by_cases e : j = 63 - k
  · subst e
    have h1 : ¬ 64 - k ≤ 63 - k := by omega
    simp [h1, hj]
  · by_cases g : 64 - k ≤ j
    · have h2 : 63 ≤ j + k := by omega
      have h4 : ¬ j - (63 - k) = 0 := by omega
      simp [g, h2, h4]
    · have h2 : ¬ 63 ≤ j + k := by omega
      have h4 : j < 63 - k := by omega
      simp [g, h2, h4]
/-! The reference's way to what is 1 with an odd number. -/
def byStep (m x : W64) : W64 := x * (2#64 - m * x)
def byN (m : W64) : Nat → W64
  | 0 => m
  | k + 1 => byStep m (byN m k)
theorem by_first : byN first 6 = first' := by decide +kernel
theorem by_other : byN other 6 = other' := by decide +kernel
end Go.Proofs.Ytggpldghdaggfaa.Dr
