/-
  draw.Mix, Next, Word, Unmix, Below.
-/
import Derived.Test.YthghikpiodobkaaDrRefC
namespace Go.Proofs.Ythghikpiodobkaa
open Go.RowKit
set_option linter.unusedVariables false

set_option maxHeartbeats 400000 in
theorem pagainst_any (z : W64) (n : Nat) (hn : n < 64) (w : World) : Calls Try.prog 21 #[.int .u64 (nl z : Nat), .int .i64 n] w (IsL (Dr.xs n z) w) := by
  have i0 : (0 : Int) ≤ (n : Int) := by omega
  have i1 : (n : Int) < 64 := by omega
  have h1 := shr_l z n
  have h2 := xs_l z n
  go_enter Try.func21, Try.ntmps21
  go_wp2
  go_ret
  exact ⟨by rfl, rfl⟩

namespace Dr
/-- What stands behind so many shifts. -/
def part (n : Nat) (v : W64) : Nat → W64
  | 0 => v
  | k + 1 => part n v k ^^^ (v >>> (n * (k + 1)))
theorem part_two (n : Nat) (v : W64) : part n v 2 = back n v := by
  show (v ^^^ (v >>> (n * 1))) ^^^ (v >>> (n * 2)) = _
  unfold back
  rw [Nat.mul_one, show n * 2 = n + n by omega]
end Dr

set_option maxHeartbeats 1000000 in
theorem papart_any (v : W64) (n : Nat) (hn : 64 ≤ n + n + n) (hn2 : n + n < 64) (w : World) : Calls Try.prog 22 #[.int .u64 (nl v : Nat), .int .i64 n] w (IsL (Dr.back n v) w) := by
  have HP := Lib.hid (Dr.part_two n v)
  go_enter Try.func22, Try.ntmps22
  go_wp2
  go_loopw [5, 6] (fun z i wr => ∃ k s : Nat, k ≤ 2 ∧ s = n * (k + 1) ∧ i = .int .i64 s ∧ z = .int .u64 (nl (Dr.part n v k) : Nat) ∧ w = wr) (fun _ i _ => (64 - intOf i).toNat)
  case atStart => exact ⟨0, n, by omega, by omega, rfl, rfl, rfl⟩
  case round =>
    obtain ⟨k, s, hk, hs, rfl, rfl, rfl⟩ := hrel
    by_cases h2 : k < 2
    · have hs64 : s < 64 := by
        have : n * (k + 1) ≤ n * 2 := Nat.mul_le_mul_left n (by omega)
        omega
      have i0 : (0 : Int) ≤ (s : Int) := by omega
      have i1 : (s : Int) < 64 := by omega
      have w4 : IntKind.i64.wrap ((s : Int) + (n : Int)) = (s : Int) + (n : Int) := by rw [IntKind.wrap_i64]; omega
      have HT : Hid (Dr.part n v k ^^^ (v >>> s) = Dr.part n v (k + 1)) := by unfold Hid; rw [hs]; rfl
      have HS : Hid (s + n = n * (k + 1 + 1)) := by unfold Hid; rw [hs]; exact (Nat.mul_succ n (k + 1)).symm
      have HK : Hid (k + 1 ≤ 2) := by unfold Hid; omega
      have HG : Hid (0 < n) := by unfold Hid; omega
      obtain ⟨t, ht⟩ : ∃ t, Dr.part n v k = t := ⟨_, rfl⟩
      rw [ht] at HT ⊢
      have s1 := shr_l v s
      have s2 := xor_l t (v >>> s)
      clear hs hk ht h2 hn hn2 hs64
      go_wp2
      have := HG.out
      exact ⟨⟨k + 1, s + n, HK.out, HS.out, by go_num, by rw [← HT.out], trivial⟩, by simp [intOf] <;> omega⟩
    · have hk2 : k = 2 := by omega
      subst hk2
      have i1 : ¬ (s : Int) < 64 := by omega
      have HR := Lib.hid (HP.out)
      clear hs hn hn2 h2 hk
      go_wp2
      go_ret
      exact ⟨by rw [HR.out]; rfl, rfl⟩

set_option maxHeartbeats 400000 in
theorem pmix_any (z : W64) (w : World) : Calls Try.prog 10 #[.int .u64 (nl z : Nat)] w (IsL (Dr.mix z) w) := by
  have H30 : Hid (∀ w, Calls Try.prog 21 #[.int .u64 (nl z : Nat), .int .i64 30] w (IsL (Dr.xs 30 z) w)) := fun w => pagainst_any z 30 (by decide) w
  have H27 : Hid (∀ w, Calls Try.prog 21 #[.int .u64 (nl (Dr.xs 30 z * Dr.first) : Nat), .int .i64 27] w (IsL (Dr.xs 27 (Dr.xs 30 z * Dr.first)) w)) := fun w => pagainst_any _ 27 (by decide) w
  have H31 : Hid (∀ w, Calls Try.prog 21 #[.int .u64 (nl (Dr.xs 27 (Dr.xs 30 z * Dr.first) * Dr.other) : Nat), .int .i64 31] w (IsL (Dr.mix z) w)) := fun w => pagainst_any _ 31 (by decide) w
  have h3 := mul_first (Dr.xs 30 z)
  have h6 := mul_other (Dr.xs 27 (Dr.xs 30 z * Dr.first))
  go_enter Try.func10, Try.ntmps10
  go_wp2_with (fail)
  refine (H30.out _).mono ?_
  rintro e w1 ⟨rfl, rfl⟩
  go_wp2_with (fail)
  refine (H27.out _).mono ?_
  rintro e w1 ⟨rfl, rfl⟩
  go_wp2_with (fail)
  refine (H31.out _).mono ?_
  rintro e w1 ⟨rfl, rfl⟩
  go_wp2
  go_ret
  exact ⟨by rfl, rfl⟩

set_option maxHeartbeats 400000 in
theorem pnext_any (s : W64) (w : World) : Calls Try.prog 15 #[.int .u64 (nl s : Nat)] w (IsNext s w) := by
  have h1 := add_gold s
  have HM := Lib.hid (fun w => pmix_any (s + Dr.gold) w)
  go_enter Try.func15, Try.ntmps15
  go_wp2_with (fail)
  refine (HM.out _).mono ?_
  rintro e w1 ⟨rfl, rfl⟩
  go_wp2
  go_ret2
  exact ⟨by rfl, rfl⟩


set_option maxHeartbeats 400000 in
theorem pword_any (s : W64) (i : Int) (hi : i < 9223372036854775808) (w : World) : Calls Try.prog 17 #[.int .u64 (nl s : Nat), .int .i64 i] w (IsWordE (Dr.wordOf s i) w) := by
  by_cases h0 : i < 0
  · have HX : Hid (Dr.wordOf s i = (0, 2)) := by unfold Hid Dr.wordOf; rw [if_pos h0]
    clear hi
    go_enter Try.func17, Try.ntmps17
    go_wp2
    go_ret2
    exact ⟨by rw [HX.out]; rfl, rfl⟩
  · obtain ⟨m, rfl⟩ := Int.eq_ofNat_of_zero_le (show 0 ≤ i by omega)
    have HX : Hid (Dr.wordOf s (m : Int) = (nl (Dr.word s m), 0)) := by unfold Hid Dr.wordOf; rw [if_neg h0]; rfl
    have h1 := nl_of_int (m := m) (by omega)
    obtain ⟨x, hx⟩ : ∃ x, BitVec.ofNat 64 m = x := ⟨_, rfl⟩
    have HW : Hid (Dr.word s m = Dr.mix (s + x * Dr.gold + Dr.gold)) := by
      unfold Hid Dr.word; rw [hx, BitVec.add_mul, BitVec.one_mul, BitVec.add_assoc]
    rw [hx] at h1
    have h3 := gold_mul x
    have h4 := wadd_l s (x * Dr.gold)
    have HM := Lib.hid (fun w => pnext_any (s + x * Dr.gold) w)
    clear hi hx
    go_enter Try.func17, Try.ntmps17
    go_wp2_with (fail)
    refine (HM.out _).mono ?_
    rintro e w1 ⟨rfl, rfl⟩
    go_wp2
    go_ret2
    exact ⟨by rw [HX.out, HW.out]; rfl, rfl⟩

set_option maxHeartbeats 1000000 in
theorem punmix_any (v : W64) (w : World) : Calls Try.prog 12 #[.int .u64 (nl v : Nat)] w (IsL (Dr.unmix v) w) := by
  have HA : Hid (∀ x w, Calls Try.prog 22 #[.int .u64 (nl x : Nat), .int .i64 31] w (IsL (Dr.back 31 x) w)) := fun x w => papart_any x 31 (by decide) (by decide) w
  have HB : Hid (∀ x w, Calls Try.prog 22 #[.int .u64 (nl x : Nat), .int .i64 27] w (IsL (Dr.back 27 x) w)) := fun x w => papart_any x 27 (by decide) (by decide) w
  have HC : Hid (∀ x w, Calls Try.prog 22 #[.int .u64 (nl x : Nat), .int .i64 30] w (IsL (Dr.back 30 x) w)) := fun x w => papart_any x 30 (by decide) (by decide) w
  have HO := Lib.hid (fun x => (show IntKind.u64.wrap (((nl x : Nat) : Int) * (3573116690164977347 : Int)) = ((nl (x * Dr.other') : Nat) : Int) from wmul_l x Dr.other'))
  have HF := Lib.hid (fun x => (show IntKind.u64.wrap (((nl x : Nat) : Int) * (10871156337175269513 : Int)) = ((nl (x * Dr.first') : Nat) : Int) from wmul_l x Dr.first'))
  obtain ⟨o', ho⟩ : ∃ o, Dr.other' = o := ⟨_, rfl⟩
  obtain ⟨f', hf⟩ : ∃ f, Dr.first' = f := ⟨_, rfl⟩
  have HU : Hid (Dr.unmix v = Dr.back 30 (Dr.back 27 (Dr.back 31 v * o') * f')) := by unfold Hid Dr.unmix; rw [ho, hf]
  rw [ho] at HO
  rw [hf] at HF
  have m1 := HO.out (Dr.back 31 v)
  have m2 := HF.out (Dr.back 27 (Dr.back 31 v * o'))
  clear HO HF ho hf
  go_enter Try.func12, Try.ntmps12
  go_wp2_with (fail)
  refine (HA.out _ _).mono ?_
  rintro e w1 ⟨rfl, rfl⟩
  go_wp2_with (fail)
  refine (HB.out _ _).mono ?_
  rintro e w1 ⟨rfl, rfl⟩
  go_wp2_with (fail)
  refine (HC.out _ _).mono ?_
  rintro e w1 ⟨rfl, rfl⟩
  go_wp2
  go_ret
  exact ⟨by rw [HU.out]; rfl, rfl⟩

namespace Dr
/-- The last number that is taken, for N. -/
def fair (N : Nat) : Nat := 18446744073709551615 - 18446744073709551616 % N
theorem good_fair (N : Nat) (h : N < 18446744073709551616) (h0 : N ≠ 0) (x : W64) : good N x ↔ nl x ≤ fair N := by
  unfold good fair
  have : 18446744073709551616 % N < N := Nat.mod_lt _ (by omega)
  omega
end Dr

set_option maxHeartbeats 400000 in
theorem plast_any (N : Nat) (h0 : N ≠ 0) (hN : N < 18446744073709551616) (w : World) : Calls Try.prog 26 #[.int .u64 (N : Nat)] w (fun e w' => e = .returned (.int .u64 (Dr.fair N : Nat)) ∧ w = w') := by
  have hz : ((N : Int) == 0) = false := by rw [beq_eq_false_iff_ne]; omega
  obtain ⟨L, hLe⟩ : ∃ L, 18446744073709551616 % N = L := ⟨_, rfl⟩
  have hL : (IntKind.u64.wrap (-(N : Int))).tmod (N : Int) = ((L : Nat) : Int) := by
    rw [show IntKind.u64.wrap (-(N : Int)) = ((18446744073709551616 - N : Nat) : Int) by rw [IntKind.wrap_u64]; omega]
    rw [← Int.ofNat_tmod]
    congr 1
    rw [← hLe]
    exact (Nat.mod_eq_sub_mod (by omega)).symm
  have hLN : L < N := by rw [← hLe]; exact Nat.mod_lt _ (by omega)
  have HF : Hid ((18446744073709551615 : Int) - (L : Int) = ((Dr.fair N : Nat) : Int)) := by unfold Hid Dr.fair; rw [hLe]; omega
  have hw : IntKind.u64.wrap ((18446744073709551615 : Int) - (L : Int)) = (18446744073709551615 : Int) - (L : Int) := by rw [IntKind.wrap_u64]; omega
  clear hLe hLN hN
  go_enter Try.func26, Try.ntmps26
  go_wp2
  go_ret
  exact ⟨by rw [← HF.out]; rfl, rfl⟩

set_option maxHeartbeats 1000000 in
theorem pfirst_any (s : W64) (N M : Nat) (hM : ∀ x, Dr.good N x ↔ nl x ≤ M) (w : World) : Calls Try.prog 25 #[.int .u64 (nl s : Nat), .int .u64 (M : Nat)] w
    (fun e w' => e = .returned (.tuple #[.int .u64 (nl (Dr.run N 64 0#64 s).1 : Nat), .int .u64 (nl (Dr.run N 64 0#64 s).2 : Nat)]) ∧ w = w') := by
  have HM := Lib.hid hM
  obtain ⟨R, hR⟩ : ∃ R, Dr.run N 64 0#64 s = R := ⟨_, rfl⟩
  rw [hR]
  have HR := Lib.hid hR
  have HNX := Lib.hid (fun s w => pnext_any s w)
  clear hR hM
  go_enter Try.func25, Try.ntmps25
  go_wp2
  go_loopw [4, 5, 7] (fun x t i wr => ∃ (k : Nat) (s' x' : W64), k ≤ 64 ∧ i = .int .i64 k ∧ t = .int .u64 (nl s' : Nat) ∧ x = .int .u64 (nl x' : Nat) ∧ Hid (Dr.run N (64 - k) x' s' = R) ∧ w = wr) (fun _ _ i _ => 64 - (intOf i).toNat)
  case atStart => exact ⟨0, s, 0#64, by omega, rfl, rfl, rfl, HR.out, rfl⟩
  case round =>
    obtain ⟨k, s', x', hk, rfl, rfl, rfl, HRun, rfl⟩ := hrel
    by_cases h64 : k < 64
    · have hi : (k : Int) < 64 := by omega
      have hrun := HRun.out
      rw [show 64 - k = (64 - (k + 1)) + 1 by omega, Dr.run] at hrun
      have HNx := Lib.hid (HNX.out s')
      by_cases hg : Dr.good N (Dr.mix (s' + Dr.gold))
      · rw [if_pos hg] at hrun
        rw [HM.out] at hg
        subst hrun
        have hgi : ((nl (Dr.mix (s' + Dr.gold)) : Nat) : Int) ≤ (M : Int) := by omega
        clear hg HRun h64 hk
        go_wp2_with (fail)
        refine (HNx.out _).mono ?_
        rintro e w1 ⟨rfl, rfl⟩
        go_wp2
        go_ret2
        exact ⟨by rfl, rfl⟩
      · rw [if_neg hg] at hrun
        rw [HM.out] at hg
        have hgi : ¬ ((nl (Dr.mix (s' + Dr.gold)) : Nat) : Int) ≤ (M : Int) := by omega
        have HRun2 := Lib.hid hrun
        have HK : Hid (k + 1 ≤ 64) := by unfold Hid; omega
        clear hg HRun h64 hk hrun
        go_wp2_with (fail)
        refine (HNx.out _).mono ?_
        rintro e w1 ⟨rfl, rfl⟩
        go_wp2
        have := HK.out
        exact ⟨⟨k + 1, _, _, HK.out, by go_num, rfl, rfl, HRun2, trivial⟩, by simp [intOf]; omega⟩
    · have hk64 : k = 64 := by omega
      subst hk64
      have hrun := HRun.out
      rw [Nat.sub_self, Dr.run] at hrun
      subst hrun
      go_wp2
      go_ret2
      exact ⟨by rfl, rfl⟩

set_option maxHeartbeats 1000000 in
theorem pbelow_any (s n : W64) (w : World) : Calls Try.prog 19 #[.int .u64 (nl s : Nat), .int .u64 (nl n : Nat)] w (IsBelow (Dr.below s n) w) := by
  by_cases h0 : nl n = 0
  · have HX : Hid (Dr.below s n = (0, 0, 2)) := by unfold Hid Dr.below; rw [if_pos h0]
    rw [h0]
    clear h0
    go_enter Try.func19, Try.ntmps19
    go_wp2
    go_ret3
    exact ⟨by rw [HX.out]; rfl, rfl⟩
  · have HX : Hid (Dr.below s n = (nl (Dr.run (nl n) 64 0#64 s).1 % nl n, nl (Dr.run (nl n) 64 0#64 s).2, 0)) := by unfold Hid Dr.below; rw [if_neg h0]
    have hN := nl_lt n
    obtain ⟨N, hNe⟩ : ∃ N, nl n = N := ⟨_, rfl⟩
    rw [hNe] at HX hN h0 ⊢
    have hz : ((N : Int) == 0) = false := by rw [beq_eq_false_iff_ne]; omega
    have HL := Lib.hid (fun w => plast_any N h0 hN w)
    have HF := Lib.hid (fun w => pfirst_any s N (Dr.fair N) (Dr.good_fair N hN h0) w)
    obtain ⟨R, hR⟩ : ∃ R, Dr.run N 64 0#64 s = R := ⟨_, rfl⟩
    rw [hR] at HX HF
    have HT : Hid (((nl R.1 : Nat) : Int).tmod (N : Int) = ((nl R.1 % N : Nat) : Int)) := by unfold Hid; rw [← Int.ofNat_tmod]
    obtain ⟨M, hM⟩ : ∃ M, Dr.fair N = M := ⟨_, rfl⟩
    rw [hM] at HL HF
    clear hNe hN hR hM
    go_enter Try.func19, Try.ntmps19
    go_wp2_with (fail)
    refine (HL.out _).mono ?_
    rintro e w1 ⟨rfl, rfl⟩
    go_wp2_with (fail)
    refine (HF.out _).mono ?_
    rintro e w1 ⟨rfl, rfl⟩
    go_wp2
    go_ret3
    exact ⟨by rw [HX.out]; rfl, rfl⟩

end Go.Proofs.Ythghikpiodobkaa
