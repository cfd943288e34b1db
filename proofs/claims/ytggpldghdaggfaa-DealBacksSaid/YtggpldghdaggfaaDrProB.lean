/-
  draw.Below.
-/
import Derived.Test.YtggpldghdaggfaaDrRefC
import Derived.Test.YtggpldghdaggfaaDrProM
namespace Go.Proofs.Ytggpldghdaggfaa
open Go.RowKit
set_option linter.unusedVariables false

namespace Dr
/-- The last number that is taken, for N. -/
def fair (N : Nat) : Nat := 18446744073709551615 - 18446744073709551616 % N
theorem good_fair (N : Nat) (h : N < 18446744073709551616) (h0 : N ≠ 0) (x : W64) : good N x ↔ nl x ≤ fair N := by
  unfold good fair
  have : 18446744073709551616 % N < N := Nat.mod_lt _ (by omega)
  omega
end Dr

set_option maxHeartbeats 400000 in
theorem plast_any (N : Nat) (h0 : N ≠ 0) (hN : N < 18446744073709551616) (w : World) : Calls Try.prog 48 #[.int .u64 (N : Nat)] w (fun e w' => e = .returned (.int .u64 (Dr.fair N : Nat)) ∧ w = w') := by
  have hz : ((N : Int) == 0) = false := by rw [beq_eq_false_iff_ne]; omega
  obtain ⟨L, hLe⟩ : ∃ L, 18446744073709551616 % N = L := ⟨_, rfl⟩
  have hL : (IntKind.u64.wrap (-(N : Int))).tmod (N : Int) = ((L : Nat) : Int) := by
    rw [show IntKind.u64.wrap (-(N : Int)) = ((18446744073709551616 - N : Nat) : Int) by rw [IntKind.wrap_u64]; omega]
    rw [← Int.ofNat_tmod]
    congr 1
    rw [← hLe]
    exact (Nat.mod_eq_sub_mod (by omega)).symm
  have hLN : L < N := by rw [← hLe]; exact Nat.mod_lt _ (by omega)
  have HF : Hid ((18446744073709551615 : Int) - (L : Int) = ((Dr.fair N : Nat) : Int)) := by unfold Hid Dr.fair; rw [hLe]; omega
  have hw : IntKind.u64.wrap ((18446744073709551615 : Int) - (L : Int)) = (18446744073709551615 : Int) - (L : Int) := by rw [IntKind.wrap_u64]; omega
  clear hLe hLN hN
  go_enter Try.func48, Try.ntmps48
  go_wp2
  go_ret
  exact ⟨by rw [← HF.out]; rfl, rfl⟩

set_option maxHeartbeats 1000000 in
theorem pfirst_any (s : W64) (N M : Nat) (hM : ∀ x, Dr.good N x ↔ nl x ≤ M) (w : World) : Calls Try.prog 47 #[.int .u64 (nl s : Nat), .int .u64 (M : Nat)] w
    (fun e w' => e = .returned (.tuple #[.int .u64 (nl (Dr.run N 64 0#64 s).1 : Nat), .int .u64 (nl (Dr.run N 64 0#64 s).2 : Nat)]) ∧ w = w') := by
  have HM := Lib.hid hM
  obtain ⟨R, hR⟩ : ∃ R, Dr.run N 64 0#64 s = R := ⟨_, rfl⟩
  rw [hR]
  have HR := Lib.hid hR
  have HNX := Lib.hid (fun s w => pnext_any s w)
  clear hR hM
  go_enter Try.func47, Try.ntmps47
  go_wp2
  go_loopw [4, 5, 7] (fun x t i wr => ∃ (k : Nat) (s' x' : W64), k ≤ 64 ∧ i = .int .i64 k ∧ t = .int .u64 (nl s' : Nat) ∧ x = .int .u64 (nl x' : Nat) ∧ Hid (Dr.run N (64 - k) x' s' = R) ∧ w = wr) (fun _ _ i _ => 64 - (intOf i).toNat)
  case atStart => exact ⟨0, s, 0#64, by omega, rfl, rfl, rfl, HR.out, rfl⟩
  case round =>
    obtain ⟨k, s', x', hk, rfl, rfl, rfl, HRun, rfl⟩ := hrel
    by_cases h64 : k < 64
    · have hi : (k : Int) < 64 := by omega
      have hrun := HRun.out
      rw [show 64 - k = (64 - (k + 1)) + 1 by omega, Dr.run] at hrun
      have HNx := Lib.hid (HNX.out s')
      by_cases hg : Dr.good N (Dr.mix (s' + Dr.gold))
      · rw [if_pos hg] at hrun
        rw [HM.out] at hg
        subst hrun
        have hgi : ((nl (Dr.mix (s' + Dr.gold)) : Nat) : Int) ≤ (M : Int) := by omega
        clear hg HRun h64 hk
        go_wp2_with (fail)
        refine (HNx.out _).mono ?_
        rintro e w1 ⟨rfl, rfl⟩
        go_wp2
        go_ret2
        exact ⟨by rfl, rfl⟩
      · rw [if_neg hg] at hrun
        rw [HM.out] at hg
        have hgi : ¬ ((nl (Dr.mix (s' + Dr.gold)) : Nat) : Int) ≤ (M : Int) := by omega
        have HRun2 := Lib.hid hrun
        have HK : Hid (k + 1 ≤ 64) := by unfold Hid; omega
        clear hg HRun h64 hk hrun
        go_wp2_with (fail)
        refine (HNx.out _).mono ?_
        rintro e w1 ⟨rfl, rfl⟩
        go_wp2
        have := HK.out
        exact ⟨⟨k + 1, _, _, HK.out, by go_num, rfl, rfl, HRun2, trivial⟩, by simp [intOf]; omega⟩
    · have hk64 : k = 64 := by omega
      subst hk64
      have hrun := HRun.out
      rw [Nat.sub_self, Dr.run] at hrun
      subst hrun
      go_wp2
      go_ret2
      exact ⟨by rfl, rfl⟩

set_option maxHeartbeats 1000000 in
theorem pbelow_any (s n : W64) (w : World) : Calls Try.prog 43 #[.int .u64 (nl s : Nat), .int .u64 (nl n : Nat)] w (IsBelow (Dr.below s n) w) := by
  by_cases h0 : nl n = 0
  · have HX : Hid (Dr.below s n = (0, 0, 2)) := by unfold Hid Dr.below; rw [if_pos h0]
    rw [h0]
    clear h0
    go_enter Try.func43, Try.ntmps43
    go_wp2
    go_ret3
    exact ⟨by rw [HX.out]; rfl, rfl⟩
  · have HX : Hid (Dr.below s n = (nl (Dr.run (nl n) 64 0#64 s).1 % nl n, nl (Dr.run (nl n) 64 0#64 s).2, 0)) := by unfold Hid Dr.below; rw [if_neg h0]
    have hN := nl_lt n
    obtain ⟨N, hNe⟩ : ∃ N, nl n = N := ⟨_, rfl⟩
    rw [hNe] at HX hN h0 ⊢
    have hz : ((N : Int) == 0) = false := by rw [beq_eq_false_iff_ne]; omega
    have HL := Lib.hid (fun w => plast_any N h0 hN w)
    have HF := Lib.hid (fun w => pfirst_any s N (Dr.fair N) (Dr.good_fair N hN h0) w)
    obtain ⟨R, hR⟩ : ∃ R, Dr.run N 64 0#64 s = R := ⟨_, rfl⟩
    rw [hR] at HX HF
    have HT : Hid (((nl R.1 : Nat) : Int).tmod (N : Int) = ((nl R.1 % N : Nat) : Int)) := by unfold Hid; rw [← Int.ofNat_tmod]
    obtain ⟨M, hM⟩ : ∃ M, Dr.fair N = M := ⟨_, rfl⟩
    rw [hM] at HL HF
    clear hNe hN hR hM
    go_enter Try.func43, Try.ntmps43
    go_wp2_with (fail)
    refine (HL.out _).mono ?_
    rintro e w1 ⟨rfl, rfl⟩
    go_wp2_with (fail)
    refine (HF.out _).mono ?_
    rintro e w1 ⟨rfl, rfl⟩
    go_wp2
    go_ret3
    exact ⟨by rw [HX.out]; rfl, rfl⟩

end Go.Proofs.Ytggpldghdaggfaa
