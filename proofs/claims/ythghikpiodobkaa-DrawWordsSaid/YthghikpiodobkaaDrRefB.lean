/-
  stookref05.against, Unmix: to bring back.
-/
import Derived.Test.YthghikpiodobkaaDrRefA
namespace Go.Proofs.Ythghikpiodobkaa
open Go.RowKit
set_option linter.unusedVariables false

theorem and_one (x : W64) : bits .and .u64 ((nl x : Nat) : Int) (1 : Int) = ((nl (x &&& 1#64) : Nat) : Int) := and_l x 1#64
theorem nl_zero : nl 0#64 = 0 := rfl
set_option maxHeartbeats 1000000 in
theorem ragainst_any (v : W64) (n : Nat) (hn : 64 ≤ n + n + n) (hn2 : n < 64) (w : World) : Calls Try.prog 23 #[.int .u64 (nl v : Nat), .int .i64 n] w (IsL (Dr.back n v) w) := by
  obtain ⟨b, hb⟩ : ∃ b, Dr.back n v = b := ⟨_, rfl⟩
  have hxs : Dr.xs n b = v := by rw [← hb]; exact Dr.xs_back hn v
  have HXS := Lib.hid hxs
  rw [hb]
  have HN0 : Hid (0 < n) := by unfold Hid; omega
  clear hb hxs hn
  go_enter Try.func23, Try.ntmps23
  go_wp2
  go_loopw [5, 6] (fun z i wr => ∃ k : Nat, k ≤ 64 ∧ i = .int .i64 (63 - (k : Int)) ∧ z = .int .u64 (nl (Dr.top k b) : Nat) ∧ w = wr) (fun _ i _ => (intOf i + 1).toNat)
  case atStart => exact ⟨0, by omega, rfl, by rw [Dr.top_none]; rfl, rfl⟩
  case round =>
    obtain ⟨k, hk, rfl, rfl, rfl⟩ := hrel
    by_cases h64 : k < 64
    · obtain ⟨p, hp⟩ : ∃ p : Nat, p = 63 - k := ⟨_, rfl⟩
      have hpi : (63 : Int) - (k : Int) = (p : Int) := by omega
      have hpi2 : (63 : Int) - ((k + 1 : Nat) : Int) = (p : Int) - 1 := by omega
      have HP2 := Lib.hid hpi2
      rw [hpi]
      have hp64 : p < 64 := by omega
      have i0 : (0 : Int) ≤ (p : Int) := by omega
      have i1 : (p : Int) < 64 := by omega
      have w1 : IntKind.u64.wrap (p : Int) = (p : Int) := by rw [IntKind.wrap_u64]; omega
      have w2 : IntKind.i64.wrap ((p : Int) + (n : Int)) = (p : Int) + (n : Int) := by rw [IntKind.wrap_i64]; omega
      have w3 : IntKind.u64.wrap ((p : Int) + (n : Int)) = (p : Int) + (n : Int) := by rw [IntKind.wrap_u64]; omega
      have w4 : IntKind.i64.wrap ((p : Int) - 1) = (p : Int) - 1 := by rw [IntKind.wrap_i64]; omega
      have t1 : ((p : Int) + (n : Int)).toNat = p + n := by omega
      have t2 : (0 : Int) ≤ (p : Int) + (n : Int) := by omega
      have s1 := shr_l v p
      have s2 := and_one (v >>> p)
      by_cases hf : p + n < 64
      · have HT := Lib.hid (Dr.top_far n HN0.out v b HXS.out k h64 (by rw [← hp]; exact hf))
        rw [← hp] at HT
        obtain ⟨t, ht⟩ : ∃ t, Dr.top k b = t := ⟨_, rfl⟩
        rw [ht] at HT ⊢
        have hf1 : (p : Int) + (n : Int) < 64 := by omega
        have s3 := shr_l t (p + n)
        have s4 := and_one (t >>> (p + n))
        have s5 := xor_l (v >>> p &&& 1#64) (t >>> (p + n) &&& 1#64)
        have s6 := wshl_l (v >>> p &&& 1#64 ^^^ t >>> (p + n) &&& 1#64) p
        have s7 := or_l t ((v >>> p &&& 1#64 ^^^ t >>> (p + n) &&& 1#64) <<< p)
        have HK : Hid (k + 1 ≤ 64) := by unfold Hid; omega
        clear hp hpi hpi2 hf h64 hk ht HXS HN0
        go_wp2
        exact ⟨⟨k + 1, HK.out, by rw [HP2.out], by rw [← HT.out]; rfl, trivial⟩, by simp [intOf]⟩
      · have HT := Lib.hid (Dr.top_near n v b HXS.out k h64 (by rw [← hp]; exact hf))
        rw [← hp] at HT
        obtain ⟨t, ht⟩ : ∃ t, Dr.top k b = t := ⟨_, rfl⟩
        rw [ht] at HT ⊢
        have hf1 : ¬ (p : Int) + (n : Int) < 64 := by omega
        have s6 := wshl_l (v >>> p &&& 1#64) p
        have s7 := or_l t ((v >>> p &&& 1#64) <<< p)
        have HK : Hid (k + 1 ≤ 64) := by unfold Hid; omega
        clear hp hpi hpi2 hf h64 hk ht HXS HN0
        go_wp2
        exact ⟨⟨k + 1, HK.out, by rw [HP2.out], by rw [← HT.out]; rfl, trivial⟩, by simp [intOf]⟩
    · have hk64 : k = 64 := by omega
      subst hk64
      rw [Dr.top_all]
      rw [show (63 : Int) - ((64 : Nat) : Int) = -1 from rfl]
      go_wp2
      go_ret
      exact ⟨rfl, rfl⟩

theorem mul_other' (z : W64) : IntKind.u64.wrap (((nl z : Nat) : Int) * ((nl Dr.other' : Nat) : Int)) = ((nl (z * Dr.other') : Nat) : Int) := wmul_l z Dr.other'
set_option maxHeartbeats 1000000 in
theorem runmix_any (v : W64) (w : World) : Calls Try.prog 13 #[.int .u64 (nl v : Nat)] w (IsL (Dr.unmix v) w) := by
  have HA : Hid (∀ x w, Calls Try.prog 23 #[.int .u64 (nl x : Nat), .int .i64 31] w (IsL (Dr.back 31 x) w)) := fun x w => ragainst_any x 31 (by decide) (by decide) w
  have HB : Hid (∀ x w, Calls Try.prog 23 #[.int .u64 (nl x : Nat), .int .i64 27] w (IsL (Dr.back 27 x) w)) := fun x w => ragainst_any x 27 (by decide) (by decide) w
  have HC : Hid (∀ x w, Calls Try.prog 23 #[.int .u64 (nl x : Nat), .int .i64 30] w (IsL (Dr.back 30 x) w)) := fun x w => ragainst_any x 30 (by decide) (by decide) w
  have HO : Hid (∀ w, Calls Try.prog 24 #[.int .u64 10723151780598845931] w (IsL Dr.other' w)) := fun w => by
    have := rby_any Dr.other w
    rw [Dr.by_other] at this
    exact this
  have HF : Hid (∀ w, Calls Try.prog 24 #[.int .u64 13787848793156543929] w (IsL Dr.first' w)) := fun w => by
    have := rby_any Dr.first w
    rw [Dr.by_first] at this
    exact this
  obtain ⟨o', ho⟩ : ∃ o, Dr.other' = o := ⟨_, rfl⟩
  obtain ⟨f', hf⟩ : ∃ f, Dr.first' = f := ⟨_, rfl⟩
  rw [ho] at HO
  rw [hf] at HF
  have HU : Hid (Dr.unmix v = Dr.back 30 (Dr.back 27 (Dr.back 31 v * o') * f')) := by unfold Hid Dr.unmix; rw [ho, hf]
  have m1 := wmul_l (Dr.back 31 v) o'
  have m2 := wmul_l (Dr.back 27 (Dr.back 31 v * o')) f'
  clear ho hf
  go_enter Try.func13, Try.ntmps13
  go_wp2_with (fail)
  refine (HA.out _ _).mono ?_
  rintro e w1 ⟨rfl, rfl⟩
  go_wp2_with (fail)
  refine (HO.out _).mono ?_
  rintro e w1 ⟨rfl, rfl⟩
  go_wp2_with (fail)
  refine (HB.out _ _).mono ?_
  rintro e w1 ⟨rfl, rfl⟩
  go_wp2_with (fail)
  refine (HF.out _).mono ?_
  rintro e w1 ⟨rfl, rfl⟩
  go_wp2_with (fail)
  refine (HC.out _ _).mono ?_
  rintro e w1 ⟨rfl, rfl⟩
  go_wp2
  go_ret
  exact ⟨by rw [HU.out]; rfl, rfl⟩
end Go.Proofs.Ythghikpiodobkaa
