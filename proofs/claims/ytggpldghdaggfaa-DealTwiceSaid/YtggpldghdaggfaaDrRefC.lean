/-
  stookref05.Below.
-/
import Derived.Test.YtggpldghdaggfaaDrRefM
namespace Go.Proofs.Ytggpldghdaggfaa
open Go.RowKit
set_option linter.unusedVariables false

namespace Dr
/-- Whether a word is below the greatest multiple of N that is at most 2^64. -/
def good (N : Nat) (x : W64) : Prop := nl x < 18446744073709551616 - 18446744073709551616 % N
instance (N : Nat) (x : W64) : Decidable (good N x) := Nat.decLt _ _
/-- Words are had till one is good, so many at most: the last one, and the state behind it. -/
def run (N : Nat) : Nat → W64 → W64 → W64 × W64
  | 0, x, s => (x, s)
  | f + 1, _, s => if good N (mix (s + gold)) then (mix (s + gold), s + gold) else run N f (mix (s + gold)) (s + gold)
def below (s n : W64) : Nat × Nat × Nat := if nl n = 0 then (0, 0, 2) else (nl (run (nl n) 64 0#64 s).1 % nl n, nl (run (nl n) 64 0#64 s).2, 0)
end Dr
/-- Three numbers. -/
def IsBelow (x : Nat × Nat × Nat) (w : World) (e : Ending) (w' : World) : Prop := e = .returned (.tuple #[.int .u64 x.1, .int .u64 x.2.1, .int .i64 x.2.2]) ∧ w = w'

set_option maxHeartbeats 1000000 in
theorem rbelow_any (s n : W64) (w : World) : Calls Try.prog 34 #[.int .u64 (nl s : Nat), .int .u64 (nl n : Nat)] w (IsBelow (Dr.below s n) w) := by
  by_cases h0 : nl n = 0
  · have HX : Hid (Dr.below s n = (0, 0, 2)) := by unfold Hid Dr.below; rw [if_pos h0]
    rw [h0]
    clear h0
    go_enter Try.func34, Try.ntmps34
    go_wp2
    go_ret3
    exact ⟨by rw [HX.out]; rfl, rfl⟩
  · have HX : Hid (Dr.below s n = (nl (Dr.run (nl n) 64 0#64 s).1 % nl n, nl (Dr.run (nl n) 64 0#64 s).2, 0)) := by unfold Hid Dr.below; rw [if_neg h0]
    have hN := nl_lt n
    obtain ⟨N, hNe⟩ : ∃ N, nl n = N := ⟨_, rfl⟩
    rw [hNe] at HX hN h0 ⊢
    have hz : ((N : Int) == 0) = false := by rw [beq_eq_false_iff_ne]; omega
    obtain ⟨L, hLe⟩ : ∃ L, 18446744073709551616 % N = L := ⟨_, rfl⟩
    have hL : (IntKind.u64.wrap (-(N : Int))).tmod (N : Int) = ((L : Nat) : Int) := by
      rw [show IntKind.u64.wrap (-(N : Int)) = ((18446744073709551616 - N : Nat) : Int) by rw [IntKind.wrap_u64]; omega]
      rw [← Int.ofNat_tmod]
      congr 1
      rw [← hLe]
      exact (Nat.mod_eq_sub_mod (by omega)).symm
    have hLN : L < N := by rw [← hLe]; exact Nat.mod_lt _ (by omega)
    have HLG : Hid (∀ x, Dr.good N x ↔ nl x < 18446744073709551616 - L) := by unfold Hid Dr.good; intro x; rw [hLe]
    have HLN := Lib.hid hLN
    have hN0 : 0 < N := by omega
    have HN := Lib.hid hN
    obtain ⟨R, hR⟩ : ∃ R, Dr.run N 64 0#64 s = R := ⟨_, rfl⟩
    rw [hR] at HX
    have HR := Lib.hid hR
    have HNX := Lib.hid (fun s w => rnext_any s w)
    clear hNe hLe hLN hN hR
    go_enter Try.func34, Try.ntmps34
    go_wp2
    go_loopw [0, 8, 9] (fun t x i wr => ∃ (k : Nat) (s' x' : W64), k ≤ 64 ∧ i = .int .i64 k ∧ t = .int .u64 (nl s' : Nat) ∧ x = .int .u64 (nl x' : Nat) ∧ Hid (Dr.run N (64 - k) x' s' = R) ∧ w = wr) (fun _ _ i _ => 64 - (intOf i).toNat)
    case atStart => exact ⟨0, s, 0#64, by omega, rfl, rfl, rfl, HR.out, rfl⟩
    case round =>
      obtain ⟨k, s', x', hk, rfl, rfl, rfl, HRun, rfl⟩ := hrel
      by_cases h64 : k < 64
      · have hi : (k : Int) < 64 := by omega
        have hrun := HRun.out
        rw [show 64 - k = (64 - (k + 1)) + 1 by omega, Dr.run] at hrun
        have HNx := Lib.hid (HNX.out s')
        by_cases hl0 : L = 0
        · subst hl0
          have hg : Dr.good N (Dr.mix (s' + Dr.gold)) := by rw [HLG.out]; exact nl_lt _
          rw [if_pos hg] at hrun
          subst hrun
          clear hg HRun h64 hk
          go_wp2_with (fail)
          refine (HNx.out _).mono ?_
          rintro e w1 ⟨rfl, rfl⟩
          go_wp2
          go_ret3
          exact ⟨by rw [HX.out]; rfl, rfl⟩
        · have hl1 : ((L : Int) == 0) = false := by rw [beq_eq_false_iff_ne]; omega
          have hl2 : IntKind.u64.wrap (-(L : Int)) = 18446744073709551616 - (L : Int) := by have := HLN.out; have := HN.out; rw [IntKind.wrap_u64]; omega
          have hLN := Lib.hid (Nat.lt_trans HLN.out HN.out)
          by_cases hg : Dr.good N (Dr.mix (s' + Dr.gold))
          · rw [if_pos hg] at hrun
            rw [HLG.out] at hg
            subst hrun
            have hgi : ((nl (Dr.mix (s' + Dr.gold)) : Nat) : Int) < 18446744073709551616 - (L : Int) := by have := hLN.out; omega
            clear hg HRun h64 hk hl0
            go_wp2_with (fail)
            refine (HNx.out _).mono ?_
            rintro e w1 ⟨rfl, rfl⟩
            go_wp2
            go_ret3
            exact ⟨by rw [HX.out]; rfl, rfl⟩
          · rw [if_neg hg] at hrun
            rw [HLG.out] at hg
            have hgi : ¬ ((nl (Dr.mix (s' + Dr.gold)) : Nat) : Int) < 18446744073709551616 - (L : Int) := by have := hLN.out; omega
            have HRun2 := Lib.hid hrun
            have HK : Hid (k + 1 ≤ 64) := by unfold Hid; omega
            clear hg HRun h64 hk hl0 hrun
            go_wp2_with (fail)
            refine (HNx.out _).mono ?_
            rintro e w1 ⟨rfl, rfl⟩
            go_wp2
            have := HK.out
            exact ⟨⟨k + 1, _, _, HK.out, by go_num, rfl, rfl, HRun2, trivial⟩, by simp [intOf]; omega⟩
      · have hk64 : k = 64 := by omega
        subst hk64
        have hrun := HRun.out
        rw [Nat.sub_self, Dr.run] at hrun
        subst hrun
        go_wp2
        go_ret3
        exact ⟨by rw [HX.out]; rfl, rfl⟩
end Go.Proofs.Ytggpldghdaggfaa
