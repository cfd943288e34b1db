/-
  stookref05.Mix, Next, Word, by: to mix; the words of a seed.
-/
import Derived.Test.YthghikpiodobkaaDrMath
namespace Go.Proofs.Ythghikpiodobkaa
open Go.RowKit
set_option linter.unusedVariables false

/-- A call that answers this word, and turns nothing. -/
def IsL (x : W64) (w : World) (e : Ending) (w' : World) : Prop := e = .returned (.int .u64 (nl x : Nat)) ∧ w = w'

/-! What stands in a walk when a word is mixed. -/
theorem shr30 (z : W64) : ((nl z : Nat) : Int) / (1073741824 : Int) = ((nl (z >>> 30) : Nat) : Int) := shr_l z 30
theorem shr27 (z : W64) : ((nl z : Nat) : Int) / (134217728 : Int) = ((nl (z >>> 27) : Nat) : Int) := shr_l z 27
theorem shr31 (z : W64) : ((nl z : Nat) : Int) / (2147483648 : Int) = ((nl (z >>> 31) : Nat) : Int) := shr_l z 31
theorem xs_l (z : W64) (n : Nat) : bits .xor .u64 ((nl z : Nat) : Int) ((nl (z >>> n) : Nat) : Int) = ((nl (Dr.xs n z) : Nat) : Int) := xor_l z _
theorem mul_first (z : W64) : IntKind.u64.wrap (((nl z : Nat) : Int) * (13787848793156543929 : Int)) = ((nl (z * Dr.first) : Nat) : Int) := wmul_l z Dr.first
theorem mul_other (z : W64) : IntKind.u64.wrap (((nl z : Nat) : Int) * (10723151780598845931 : Int)) = ((nl (z * Dr.other) : Nat) : Int) := wmul_l z Dr.other
theorem add_gold (z : W64) : IntKind.u64.wrap (((nl z : Nat) : Int) + (11400714819323198485 : Int)) = ((nl (z + Dr.gold) : Nat) : Int) := wadd_l z Dr.gold

set_option maxHeartbeats 400000 in
theorem rmix_any (z : W64) (w : World) : Calls Try.prog 11 #[.int .u64 (nl z : Nat)] w (IsL (Dr.mix z) w) := by
  have h1 := shr30 z
  have h2 := xs_l z 30
  have h3 := mul_first (Dr.xs 30 z)
  have h4 := shr27 (Dr.xs 30 z * Dr.first)
  have h5 := xs_l (Dr.xs 30 z * Dr.first) 27
  have h6 := mul_other (Dr.xs 27 (Dr.xs 30 z * Dr.first))
  have h7 := shr31 (Dr.xs 27 (Dr.xs 30 z * Dr.first) * Dr.other)
  have h8 := xs_l (Dr.xs 27 (Dr.xs 30 z * Dr.first) * Dr.other) 31
  go_enter Try.func11, Try.ntmps11
  go_wp2
  go_ret
  exact ⟨by rfl, rfl⟩

/-- A state's word and next state. -/
def IsNext (s : W64) (w : World) (e : Ending) (w' : World) : Prop := e = .returned (.tuple #[.int .u64 (nl (Dr.mix (s + Dr.gold)) : Nat), .int .u64 (nl (s + Dr.gold) : Nat)]) ∧ w = w'
set_option maxHeartbeats 400000 in
theorem rnext_any (s : W64) (w : World) : Calls Try.prog 16 #[.int .u64 (nl s : Nat)] w (IsNext s w) := by
  have h1 := add_gold s
  have HM := Lib.hid (fun w => rmix_any (s + Dr.gold) w)
  go_enter Try.func16, Try.ntmps16
  go_wp2_with (fail)
  refine (HM.out _).mono ?_
  rintro e w1 ⟨rfl, rfl⟩
  go_wp2
  go_ret2
  exact ⟨by rfl, rfl⟩

namespace Dr
/-- A seed's word of this number. -/
def word (s : W64) (i : Nat) : W64 := mix (s + (BitVec.ofNat 64 i + 1#64) * gold)
end Dr
/-- A word and an error. -/
def IsWordE (x : Nat × Nat) (w : World) (e : Ending) (w' : World) : Prop := e = .returned (.tuple #[.int .u64 x.1, .int .i64 x.2]) ∧ w = w'
def Dr.wordOf (s : W64) (i : Int) : Nat × Nat := if i < 0 then (0, 2) else (nl (Dr.word s i.toNat), 0)
theorem add_one (z : W64) : IntKind.u64.wrap (((nl z : Nat) : Int) + (1 : Int)) = ((nl (z + 1#64) : Nat) : Int) := wadd_l z 1#64
theorem gold_mul (z : W64) : IntKind.u64.wrap (((nl z : Nat) : Int) * (11400714819323198485 : Int)) = ((nl (z * Dr.gold) : Nat) : Int) := wmul_l z Dr.gold
theorem nl_of_int {m : Nat} (h : m < 9223372036854775808) : IntKind.u64.wrap (m : Int) = ((nl (BitVec.ofNat 64 m) : Nat) : Int) := by
  rw [nl_of (by omega), IntKind.wrap_u64]; omega
set_option maxHeartbeats 400000 in
theorem rword_any (s : W64) (i : Int) (hi : i < 9223372036854775808) (w : World) : Calls Try.prog 18 #[.int .u64 (nl s : Nat), .int .i64 i] w (IsWordE (Dr.wordOf s i) w) := by
  by_cases h0 : i < 0
  · have HX : Hid (Dr.wordOf s i = (0, 2)) := by unfold Hid Dr.wordOf; rw [if_pos h0]
    clear hi
    go_enter Try.func18, Try.ntmps18
    go_wp2
    go_ret2
    exact ⟨by rw [HX.out]; rfl, rfl⟩
  · obtain ⟨m, rfl⟩ := Int.eq_ofNat_of_zero_le (show 0 ≤ i by omega)
    have HX : Hid (Dr.wordOf s (m : Int) = (nl (Dr.word s m), 0)) := by unfold Hid Dr.wordOf; rw [if_neg h0]; rfl
    have h1 := nl_of_int (m := m) (by omega)
    obtain ⟨x, hx⟩ : ∃ x, BitVec.ofNat 64 m = x := ⟨_, rfl⟩
    have HW : Hid (Dr.word s m = Dr.mix (s + (x + 1#64) * Dr.gold)) := by unfold Hid Dr.word; rw [hx]
    rw [hx] at h1
    have h2 := add_one x
    have h3 := gold_mul (x + 1#64)
    have h4 := wadd_l s ((x + 1#64) * Dr.gold)
    have HM := Lib.hid (fun w => rmix_any (s + (x + 1#64) * Dr.gold) w)
    clear hi hx
    go_enter Try.func18, Try.ntmps18
    go_wp2_with (fail)
    refine (HM.out _).mono ?_
    rintro e w1 ⟨rfl, rfl⟩
    go_wp2
    go_ret2
    exact ⟨by rw [HX.out, HW.out]; rfl, rfl⟩

theorem two_sub (z : W64) : IntKind.u64.wrap ((2 : Int) - ((nl z : Nat) : Int)) = ((nl (2#64 - z) : Nat) : Int) := wsub_l 2#64 z
set_option maxHeartbeats 400000 in
theorem rby_any (m : W64) (w : World) : Calls Try.prog 24 #[.int .u64 (nl m : Nat)] w (IsL (Dr.byN m 6) w) := by
  go_enter Try.func24, Try.ntmps24
  go_wp2
  go_loopw [3, 4] (fun x i wr => ∃ k : Nat, k ≤ 6 ∧ i = .int .i64 k ∧ x = .int .u64 (nl (Dr.byN m k) : Nat) ∧ w = wr) (fun _ i _ => 6 - (intOf i).toNat)
  case atStart => exact ⟨0, by omega, rfl, rfl, rfl⟩
  case round =>
    obtain ⟨k, hk, rfl, rfl, rfl⟩ := hrel
    by_cases h6 : k < 6
    · have hi : (k : Int) < 6 := by omega
      have HN : Hid (Dr.byN m (k + 1) = Dr.byStep m (Dr.byN m k)) := rfl
      obtain ⟨x, hx⟩ : ∃ x, Dr.byN m k = x := ⟨_, rfl⟩
      rw [hx] at HN ⊢
      have h1 := wmul_l m x
      have h2 := two_sub (m * x)
      have h3 := wmul_l x (2#64 - m * x)
      clear hx
      go_wp2
      exact ⟨⟨k + 1, by omega, by go_num, by rw [HN.out]; rfl, trivial⟩, by simp [intOf]; omega⟩
    · have hk6 : k = 6 := by omega
      subst hk6
      go_wp2
      go_ret
      exact ⟨rfl, rfl⟩
end Go.Proofs.Ythghikpiodobkaa
