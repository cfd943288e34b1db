/-
  stooklaw05.works; what follows from the words (the mathematics of the laws).
-/
import Derived.Test.YthghikpiodobkaaDrPro
import Derived.Test.YthghikpiodobkaaMem
namespace Go.Proofs.Ythghikpiodobkaa
open Go.RowKit
set_option linter.unusedVariables false

theorem nl_of_u64 {n : Nat} (h : n < 18446744073709551616) : ∃ x : W64, nl x = n := ⟨BitVec.ofNat 64 n, nl_of h⟩
theorem nl_eq (x y : W64) : (((nl x : Nat) : Int) == ((nl y : Nat) : Int)) = decide (x = y) := by
  by_cases h : x = y
  · subst h; simp
  · have : nl x ≠ nl y := fun e => h (nl_inj e)
    simp [h]; omega
namespace Dr
theorem mix_iff (a b : W64) : mix a = mix b ↔ a = b := ⟨mix_inj, fun h => by rw [h]⟩
theorem add_iff (a b g : W64) : a + g = b + g ↔ a = b := by
  constructor
  · intro h
    have := congrArg (fun x => x - g) h
    simpa using this
  · intro h; rw [h]
theorem zero_word : nl (mix (0#64 + gold)) = 16294208416658607535 := by decide +kernel
theorem zero_next : nl (0#64 + gold) = 11400714819323198485 := by decide +kernel
/-- The state that is had so many words on. -/
def state (s : W64) (i : Nat) : W64 := s + BitVec.ofNat 64 i * gold
theorem state_zero (s : W64) : state s 0 = s := by simp [state]
theorem state_gold (s : W64) (i : Nat) : state s i + gold = s + (BitVec.ofNat 64 i + 1#64) * gold := by
  unfold state
  rw [BitVec.add_mul, BitVec.one_mul, BitVec.add_assoc]
theorem state_succ (s : W64) (i : Nat) : state s (i + 1) = state s i + gold := by
  rw [state_gold, state, BitVec.ofNat_add]
theorem word_state (s : W64) (i : Nat) : mix (state s i + gold) = word s i := by rw [state_gold]; rfl
theorem below_lt (s n : W64) (h : nl n ≠ 0) : (below s n).1 < nl n ∧ (below s n).2.2 = 0 := by
  unfold below
  rw [if_neg h]
  exact ⟨Nat.mod_lt _ (by omega), rfl⟩
theorem below_zero (s n : W64) (h : nl n = 0) : below s n = (0, 0, 2) := by unfold below; rw [if_pos h]
theorem pow_of_and : ∀ N : Nat, 0 < N → N &&& (N - 1) = 0 → ∃ j, N = 2 ^ j := by
  intro N
  induction N using Nat.strongRecOn with
  | _ N ih =>
    intro h0 h
    by_cases h1 : N = 1
    · exact ⟨0, by rw [h1]⟩
    · rcases Nat.mod_two_eq_zero_or_one N with e | e
      · obtain ⟨m, rfl⟩ : ∃ m, N = 2 * m := ⟨N / 2, by omega⟩
        have hm : m &&& (m - 1) = 0 := by
          have h2 := congrArg (· / 2) h
          simp only [Nat.and_div_two, Nat.zero_div] at h2
          rw [show 2 * m / 2 = m by omega, show (2 * m - 1) / 2 = m - 1 by omega] at h2
          exact h2
        obtain ⟨j, hj⟩ := ih m (by omega) (by omega) hm
        exact ⟨j + 1, by rw [Nat.pow_succ, ← hj]; omega⟩
      · exfalso
        have h2 := congrArg (· / 2) h
        simp only [Nat.and_div_two, Nat.zero_div] at h2
        rw [show (N - 1) / 2 = N / 2 by omega, Nat.and_self] at h2
        omega
theorem nl_and (x y : W64) : nl (x &&& y) = nl x &&& nl y := by unfold nl; rw [BitVec.toNat_and]
theorem nl_pred (n : W64) (h : nl n ≠ 0) : nl (n - 1#64) = nl n - 1 := by
  have h1 := nl_lt n
  unfold nl at *
  rw [BitVec.toNat_sub]
  simp
  omega
/-- Of a power of two one word is had, and its lowest bits. -/
theorem below_pow (s n : W64) (h : nl n ≠ 0) (hp : nl (n &&& (n - 1#64)) = 0) : below s n = (nl (mix (s + gold) &&& (n - 1#64)), nl (s + gold), 0) := by
  rw [nl_and, nl_pred n h] at hp
  obtain ⟨j, hj⟩ := pow_of_and _ (by omega) hp
  have hlt := nl_lt n
  have hj64 : j < 64 := by
    apply Nat.lt_of_not_le
    intro hle
    have := Nat.pow_le_pow_right (n := 2) (by decide) hle
    omega
  have hmod : 18446744073709551616 % nl n = 0 := by
    rw [hj, show (18446744073709551616 : Nat) = 2 ^ 64 by decide, show 64 = (64 - j) + j by omega, Nat.pow_add]
    exact Nat.mul_mod_left _ _
  have hg : good (nl n) (mix (s + gold)) := by unfold good; rw [hmod]; exact nl_lt _
  have e : run (nl n) 64 0#64 s = (mix (s + gold), s + gold) := by
    show run (nl n) (63 + 1) 0#64 s = _
    rw [run, if_pos hg]
  unfold below
  rw [if_neg h, e, nl_and, nl_pred n h, hj, Nat.and_two_pow_sub_one_eq_mod]
end Dr

set_option maxHeartbeats 400000 in
theorem works_any (w : World) : Calls Try.prog 14 #[] w (fun e w' => e = .returned (.bool true) ∧ w = w') := by
  have HN : Hid (∀ w, Calls Try.prog 15 #[.int .u64 0] w (fun e w' => e = .returned (.tuple #[.int .u64 16294208416658607535, .int .u64 11400714819323198485]) ∧ w = w')) := fun w => by
    have := pnext_any 0#64 w
    unfold IsNext at this
    rw [Dr.zero_word, Dr.zero_next] at this
    exact this
  go_enter Try.func14, Try.ntmps14
  go_wp2_with (fail)
  refine (HN.out _).mono ?_
  rintro e w1 ⟨rfl, rfl⟩
  go_wp2
  go_ret
  exact ⟨rfl, rfl⟩
end Go.Proofs.Ythghikpiodobkaa
