/-
  crc.Step and the document's Step: one step of a sum.
-/
import Derived.Test.YtdmomnpmicagcaaProg
import Derived.Test.YtdmomnpmicagcaaCMath
import Derived.WalkKit
import Derived.Outline
import Derived.Lib.Hide
namespace Go.Proofs.Ytdmomnpmicagcaa
open Go.RowKit
set_option linter.unusedVariables false

theorem bits_xor_u32_nat (a b : Nat) (ha : Cr.B32 a) (hb : Cr.B32 b) : bits .xor .u32 (a : Int) (b : Int) = ((a ^^^ b : Nat) : Int) := by
  unfold Cr.B32 at ha hb
  have hx : a ^^^ b < 2 ^ 32 := Nat.xor_lt_two_pow (by omega) (by omega)
  have h1 : (BitVec.ofInt 32 (a : Int)).toNat = a := by
    rw [BitVec.ofInt_natCast, BitVec.toNat_ofNat]; exact Nat.mod_eq_of_lt (by omega)
  have h2 : (BitVec.ofInt 32 (b : Int)).toNat = b := by
    rw [BitVec.ofInt_natCast, BitVec.toNat_ofNat]; exact Nat.mod_eq_of_lt (by omega)
  show IntKind.u32.wrap ((BitVec.ofInt 32 (a : Int) ^^^ BitVec.ofInt 32 (b : Int)).toNat : Int) = _
  rw [BitVec.toNat_xor, h1, h2, IntKind.wrap_u32]
  omega
theorem step_even {r : Nat} (h : r % 2 = 0) : Cr.step r = r / 2 := by unfold Cr.step; rw [if_pos h]
theorem step_odd {r : Nat} (h : r % 2 = 1) : Cr.step r = r / 2 ^^^ 2197175160 := by unfold Cr.step; rw [if_neg (by omega)]
theorem half_b32 {r : Nat} (h : Cr.B32 r) : Cr.B32 (r / 2) := by unfold Cr.B32 at *; omega
theorem poly_b32 : Cr.B32 2197175160 := by unfold Cr.B32; omega
theorem odd_bits {r : Nat} (h : Cr.B32 r) (h1 : r % 2 = 1) : bits .xor .u32 ((r : Int) / 2) 2197175160 = ((Cr.step r : Nat) : Int) := by
  rw [step_odd h1, ← bits_xor_u32_nat _ _ (half_b32 h) poly_b32]
  rfl

theorem and1_bits {r : Nat} (h : Cr.B32 r) : bits .and .u32 (r : Int) 1 = ((r % 2 : Nat) : Int) := by
  unfold Cr.B32 at h
  have h2 := bits_mask .u32 32 (by decide) (fun n h₀ h₁ => by rw [IntKind.wrap_u32]; omega) 1 (by decide) (r : Int) (by omega) (by omega)
  exact h2.trans (by simp)

/-- A call that answers this number of 32 bits, and turns nothing. -/
def IsU32 (n : Nat) (w : World) (e : Ending) (w' : World) : Prop := e = .returned (.int .u32 (n : Nat)) ∧ w = w'

set_option maxHeartbeats 400000 in
theorem step_any (r : Nat) (h : Cr.B32 r) (w : World) : Calls Try.prog 31 #[.int .u32 r] w (IsU32 (Cr.step r) w) := by
  have hr : r < 4294967296 := h
  rcases Nat.mod_two_eq_zero_or_one r with h1 | h1
  · have HS := Lib.hid (step_even h1)
    have hq : (bits BinOp.and IntKind.u32 (r : Int) 1 == 0) = true := by rw [and1_bits h, h1]; rfl
    go_enter Try.func31, Try.ntmps31
    go_wp2
    go_ret
    exact ⟨by rw [HS.out]; simp, rfl⟩
  · have hs := odd_bits h h1
    have hq : (bits BinOp.and IntKind.u32 (r : Int) 1 == 0) = false := by rw [and1_bits h, h1]; rfl
    go_enter Try.func31, Try.ntmps31
    go_wp2
    go_ret
    exact ⟨by first | rfl | rw [hs], rfl⟩

set_option maxHeartbeats 400000 in
theorem rstep_any (r : Nat) (h : Cr.B32 r) (w : World) : Calls Try.prog 30 #[.int .u32 r] w (IsU32 (Cr.step r) w) := by
  have hr : r < 4294967296 := h
  rcases Nat.mod_two_eq_zero_or_one r with h1 | h1
  · have HS := Lib.hid (step_even h1)
    have hq : ((r : Int) % 2 == 0) = true := by rw [beq_iff_eq]; omega
    go_enter Try.func30, Try.ntmps30
    go_wp2
    go_ret
    exact ⟨by rw [HS.out]; simp, rfl⟩
  · have hs := odd_bits h h1
    have hq : ((r : Int) % 2 == 0) = false := by rw [beq_eq_false_iff_ne]; omega
    go_enter Try.func30, Try.ntmps30
    go_wp2
    go_ret
    exact ⟨by first | rfl | rw [hs], rfl⟩

end Go.Proofs.Ytdmomnpmicagcaa
