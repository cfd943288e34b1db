/-
  crc.Join and the document's: two sums joined.
-/
import Derived.Test.YtgljncmegpamaaaCMore
namespace Go.Proofs.Ytgljncmegpamaaa
open Go.RowKit
set_option linter.unusedVariables false

/-- What joining answers: the number, and the error's number. -/
def joined (a b : Nat) (n : Int) : Nat × Nat := if n < 0 ∨ 1048576 < n then (0, 2) else (Cr.join a b n.toNat, 0)
theorem joined_bad {a b : Nat} {n : Int} (h : n < 0 ∨ 1048576 < n) : joined a b n = (0, 2) := by unfold joined; rw [if_pos h]
theorem joined_good {a b n : Nat} (h : n ≤ 1048576) : joined a b (n : Int) = (Cr.join a b n, 0) := by unfold joined; rw [if_neg (by omega), Int.toNat_natCast]

/-- A call that answers these two numbers, and turns nothing. -/
def IsJoin (r : Nat × Nat) (w : World) (e : Ending) (w' : World) : Prop := e = .returned (.tuple #[.int .u32 (r.1 : Nat), .int .i64 (r.2 : Nat)]) ∧ w = w'
theorem IsJoin.of {w : World} {r : Nat × Nat} {n k : Nat} (h : r = (n, k)) : IsJoin r w (.returned (.tuple #[.int .u32 (n : Nat), .int .i64 (k : Nat)])) w := by subst h; exact ⟨rfl, rfl⟩
theorem zeros_lt (k : Nat) : ∀ x ∈ List.replicate k 0, x < 256 := by
  intro x hx
  have := List.eq_of_mem_replicate hx
  omega

set_option maxHeartbeats 400000 in
theorem join_bad (a b : Nat) (n : Int) (hn : n < 0 ∨ 1048576 < n) (w : World) : Calls Try.prog 19 #[.int .u32 a, .int .u32 b, .int .i64 n] w (IsJoin (joined a b n) w) := by
  have HR := Lib.hid (joined_bad (a := a) (b := b) hn)
  rcases hn with hn | hn
  · go_enter Try.func19, Try.ntmps19
    go_wp2
    go_ret2
    exact IsJoin.of HR.out
  · go_enter Try.func19, Try.ntmps19
    go_wp2
    go_ret2
    exact IsJoin.of HR.out

set_option maxHeartbeats 400000 in
theorem join_good (a b n : Nat) (ha : Cr.B32 a) (hb : Cr.B32 b) (hn : n ≤ 1048576) (w : World) : Calls Try.prog 19 #[.int .u32 a, .int .u32 b, .int .i64 n] w (IsJoin (joined a b n) w) := by
  have HR := Lib.hid (joined_good (a := a) (b := b) hn)
  have HJ := Lib.hid (Cr.join_eq a b n)
  have HA := Lib.hid ha
  have HB := Lib.hid hb
  clear ha hb
  go_enter Try.func19, Try.ntmps19
  go_wp2
  go_loop [0, 15] (fun v i => ∃ k : Nat, k ≤ n ∧ v = .int .u32 (Cr.raw a (List.replicate k 0) : Nat) ∧ i = .int .i64 k) (fun _ i => n - (intOf i).toNat)
  case atStart => exact ⟨0, by omega, by simp [Cr.raw_nil], rfl⟩
  case round =>
    obtain ⟨k, hk, rfl, rfl⟩ := hrel
    have hb := Cr.raw_b32 (zeros_lt k) HA.out
    by_cases h8 : k < n
    · have HS := Lib.hid (take_any (Cr.raw a (List.replicate k 0)) 0 hb (by omega) w)
      have HE := Lib.hid (Cr.raw_zeros_succ a k)
      obtain ⟨q, hq⟩ : ∃ q, Cr.raw a (List.replicate k 0) = q := ⟨_, rfl⟩
      rw [hq] at HS HE ⊢
      clear hb
      go_wp2_with (go_at_call 12; refine HS.out.mono ?_; rintro e w' ⟨rfl, rfl⟩)
      go_round
      case rel => exact ⟨k + 1, by omega, by rw [HE.out], by go_num⟩
      case measure => simp [intOf]; omega
    · have h0 : k = n := by omega
      subst h0
      have hs := bits_xor_u32_nat _ _ hb HB.out
      obtain ⟨q, hq⟩ : ∃ q, Cr.raw a (List.replicate k 0) = q := ⟨_, rfl⟩
      rw [hq] at HJ hs ⊢
      clear hb
      go_wp2
      go_ret2
      rw [HJ.out] at HR
      first | exact IsJoin.of HR.out | (rw [hs]; exact IsJoin.of HR.out)

theorem join_any (a b : Nat) (n : Int) (ha : Cr.B32 a) (hb : Cr.B32 b) (w : World) : Calls Try.prog 19 #[.int .u32 a, .int .u32 b, .int .i64 n] w (IsJoin (joined a b n) w) := by
  by_cases hn : n < 0 ∨ 1048576 < n
  · exact join_bad a b n hn w
  · obtain ⟨m, rfl⟩ := Int.eq_ofNat_of_zero_le (a := n) (by omega)
    exact join_good a b m ha hb (by omega) w

set_option maxHeartbeats 400000 in
theorem rjoin_bad (a b : Nat) (n : Int) (hn : n < 0 ∨ 1048576 < n) (w : World) : Calls Try.prog 20 #[.int .u32 a, .int .u32 b, .int .i64 n] w (IsJoin (joined a b n) w) := by
  have HR := Lib.hid (joined_bad (a := a) (b := b) hn)
  rcases hn with hn | hn
  · go_enter Try.func20, Try.ntmps20
    go_wp2
    go_ret2
    exact IsJoin.of HR.out
  · go_enter Try.func20, Try.ntmps20
    go_wp2
    go_ret2
    exact IsJoin.of HR.out

set_option maxHeartbeats 400000 in
theorem rjoin_good (a b n : Nat) (ha : Cr.B32 a) (hb : Cr.B32 b) (hn : n ≤ 1048576) (w : World) : Calls Try.prog 20 #[.int .u32 a, .int .u32 b, .int .i64 n] w (IsJoin (joined a b n) w) := by
  have HR := Lib.hid (joined_good (a := a) (b := b) hn)
  have HJ := Lib.hid (Cr.join_eq a b n)
  have HA := Lib.hid ha
  have HB := Lib.hid hb
  clear ha hb
  go_enter Try.func20, Try.ntmps20
  go_wp2
  go_loop [0, 8] (fun v i => ∃ k : Nat, k ≤ n ∧ v = .int .u32 (Cr.raw a (List.replicate k 0) : Nat) ∧ i = .int .i64 k) (fun _ i => n - (intOf i).toNat)
  case atStart => exact ⟨0, by omega, by simp [Cr.raw_nil], rfl⟩
  case round =>
    obtain ⟨k, hk, rfl, rfl⟩ := hrel
    have hb := Cr.raw_b32 (zeros_lt k) HA.out
    by_cases h8 : k < n
    · have HS := Lib.hid (rtake_any (Cr.raw a (List.replicate k 0)) 0 hb (by omega) w)
      have HE := Lib.hid (Cr.raw_zeros_succ a k)
      obtain ⟨q, hq⟩ : ∃ q, Cr.raw a (List.replicate k 0) = q := ⟨_, rfl⟩
      rw [hq] at HS HE ⊢
      clear hb
      go_wp2_with (go_at_call 13; refine HS.out.mono ?_; rintro e w' ⟨rfl, rfl⟩)
      go_round
      case rel => exact ⟨k + 1, by omega, by rw [HE.out], by go_num⟩
      case measure => simp [intOf]; omega
    · have h0 : k = n := by omega
      subst h0
      have hs := bits_xor_u32_nat _ _ hb HB.out
      obtain ⟨q, hq⟩ : ∃ q, Cr.raw a (List.replicate k 0) = q := ⟨_, rfl⟩
      rw [hq] at HJ hs ⊢
      clear hb
      go_wp2
      go_ret2
      rw [HJ.out] at HR
      first | exact IsJoin.of HR.out | (rw [hs]; exact IsJoin.of HR.out)

theorem rjoin_any (a b : Nat) (n : Int) (ha : Cr.B32 a) (hb : Cr.B32 b) (w : World) : Calls Try.prog 20 #[.int .u32 a, .int .u32 b, .int .i64 n] w (IsJoin (joined a b n) w) := by
  by_cases hn : n < 0 ∨ 1048576 < n
  · exact rjoin_bad a b n hn w
  · obtain ⟨m, rfl⟩ := Int.eq_ofNat_of_zero_le (a := n) (by omega)
    exact rjoin_good a b m ha hb (by omega) w

end Go.Proofs.Ytgljncmegpamaaa
