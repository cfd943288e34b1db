/-
  crc.Take and the document's Take: a byte taken in, and its eight steps.
-/
import Derived.Test.YtdmomnpmicagcaaCStep
namespace Go.Proofs.Ytdmomnpmicagcaa
open Go.RowKit
set_option linter.unusedVariables false

theorem take_bits {r c : Nat} (h : Cr.B32 r) (hc : c < 256) : bits .xor .u32 (r : Int) (c : Int) = ((Cr.stepN 0 (r ^^^ c) : Nat) : Int) := bits_xor_u32_nat r c h (Cr.byte_b32 hc)
theorem stepN_succ (k r : Nat) : Cr.stepN (k + 1) r = Cr.step (Cr.stepN k r) := rfl

set_option maxHeartbeats 400000 in
theorem take_any (r c : Nat) (h : Cr.B32 r) (hc : c < 256) (w : World) : Calls Try.prog 29 #[.int .u32 r, .int .u8 c] w (IsU32 (Cr.take r c) w) := by
  have hr : r < 4294967296 := h
  have hs := take_bits h hc
  have HB := Lib.hid (Cr.xor_b32 h (Cr.byte_b32 hc))
  have HT : Hid (Cr.take r c = Cr.stepN 8 (r ^^^ c)) := rfl
  obtain ⟨s, hs0⟩ : ∃ s, r ^^^ c = s := ⟨_, rfl⟩
  rw [hs0] at hs HB HT
  have hw : (c : Int) % 4294967296 = (c : Int) := by omega
  go_enter Try.func29, Try.ntmps29
  go_wp2
  go_loop [0, 9] (fun v i => ∃ k : Nat, k ≤ 8 ∧ v = .int .u32 (Cr.stepN k s : Nat) ∧ i = .int .i64 k) (fun _ i => 8 - (intOf i).toNat)
  case atStart => exact ⟨0, by omega, by first | rfl | simp [hs], rfl⟩
  case round =>
    obtain ⟨k, hk, rfl, rfl⟩ := hrel
    by_cases h8 : k < 8
    · have hb := Cr.stepN_b32 HB.out k
      have HS := Lib.hid (step_any (Cr.stepN k s) hb w)
      have HE := Lib.hid (stepN_succ k s)
      obtain ⟨q, hq⟩ : ∃ q, Cr.stepN k s = q := ⟨_, rfl⟩
      rw [hq] at HS HE ⊢
      clear hb hs
      go_wp2_with (go_at_call 31; refine HS.out.mono ?_; rintro e w' ⟨rfl, rfl⟩)
      go_round
      case rel => exact ⟨k + 1, by omega, by rw [HE.out], by go_num⟩
      case measure => simp [intOf]; omega
    · have h0 : k = 8 := by omega
      subst h0
      go_wp2
      go_ret
      exact ⟨by rw [HT.out]; rfl, rfl⟩

set_option maxHeartbeats 400000 in
theorem rtake_any (r c : Nat) (h : Cr.B32 r) (hc : c < 256) (w : World) : Calls Try.prog 28 #[.int .u32 r, .int .u8 c] w (IsU32 (Cr.take r c) w) := by
  have hr : r < 4294967296 := h
  have hs := take_bits h hc
  have HB := Lib.hid (Cr.xor_b32 h (Cr.byte_b32 hc))
  have HT : Hid (Cr.take r c = Cr.stepN 8 (r ^^^ c)) := rfl
  obtain ⟨s, hs0⟩ : ∃ s, r ^^^ c = s := ⟨_, rfl⟩
  rw [hs0] at hs HB HT
  have hw : (c : Int) % 4294967296 = (c : Int) := by omega
  go_enter Try.func28, Try.ntmps28
  go_wp2
  go_loop [0, 5] (fun v i => ∃ k : Nat, k ≤ 8 ∧ v = .int .u32 (Cr.stepN k s : Nat) ∧ i = .int .i64 k) (fun _ i => 8 - (intOf i).toNat)
  case atStart => exact ⟨0, by omega, by first | rfl | simp [hs], rfl⟩
  case round =>
    obtain ⟨k, hk, rfl, rfl⟩ := hrel
    by_cases h8 : k < 8
    · have hb := Cr.stepN_b32 HB.out k
      have HS := Lib.hid (rstep_any (Cr.stepN k s) hb w)
      have HE := Lib.hid (stepN_succ k s)
      obtain ⟨q, hq⟩ : ∃ q, Cr.stepN k s = q := ⟨_, rfl⟩
      rw [hq] at HS HE ⊢
      clear hb hs
      go_wp2_with (go_at_call 30; refine HS.out.mono ?_; rintro e w' ⟨rfl, rfl⟩)
      go_round
      case rel => exact ⟨k + 1, by omega, by rw [HE.out], by go_num⟩
      case measure => simp [intOf]; omega
    · have h0 : k = 8 := by omega
      subst h0
      go_wp2
      go_ret
      exact ⟨by rw [HT.out]; rfl, rfl⟩
end Go.Proofs.Ytdmomnpmicagcaa
