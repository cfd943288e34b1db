/-
  deal.Steps, Of, Deal, Back (Is, Turn, Take lie in DlProB).
-/
import Derived.Test.YtggpldghdaggfaaDlProB
import Derived.Test.YtggpldghdaggfaaDlProC
import Derived.Test.YtggpldghdaggfaaDlProD
import Derived.Test.YtggpldghdaggfaaDlProE
import Derived.Test.YtggpldghdaggfaaDlProG
namespace Go.Proofs.Ytggpldghdaggfaa
open Go.RowKit
set_option linter.unusedVariables false

theorem IsL1.le_ {P : Program} {α : Type} {K : El P α} {l : List α} {w : World} {e : Ending} {w' : World} (h : IsL1 K l w e w') : ∃ A c, e = .returned (.slice A l.length c) ∧ OwnL K w' w.heap.size (.slice A l.length c) l ∧ Below w.heap.size w w' := h
/-- What is refused of n. -/
def Dl.no (n : Int) : Nat := if n < 0 then 2 else if 65536 < n then 3 else 0
theorem Dl.no_zero {n : Int} (h : Dl.no n = 0) : 0 ≤ n ∧ n ≤ 65536 := by
  unfold Dl.no at h
  by_cases h0 : n < 0
  · rw [if_pos h0] at h; cases h
  · rw [if_neg h0] at h
    by_cases h1 : 65536 < n
    · rw [if_pos h1] at h; cases h
    · omega
theorem Dl.of_no {n : Int} (h : Dl.no n ≠ 0) (l : List Int) : Dl.of n l = ([], Dl.no n) := by
  unfold Dl.no at h ⊢
  unfold Dl.of
  by_cases h0 : n < 0
  · rw [if_pos h0, if_pos h0]
  · rw [if_neg h0] at h
    rw [if_neg h0, if_neg h0]
    by_cases h1 : 65536 < n
    · rw [if_pos h1, if_pos h1]
    · rw [if_neg h1] at h; exact absurd rfl h
theorem Dl.steps_no {n : Int} (h : Dl.no n ≠ 0) (s : W64) : Dl.stepsE s n = ([], Dl.no n) := by
  unfold Dl.no at h ⊢
  unfold Dl.stepsE
  by_cases h0 : n < 0
  · rw [if_pos h0, if_pos h0]
  · rw [if_neg h0] at h
    rw [if_neg h0, if_neg h0]
    by_cases h1 : 65536 < n
    · rw [if_pos h1, if_pos h1]
    · rw [if_neg h1] at h; exact absurd rfl h
theorem prefuse_no (n : Int) (w : World) : Calls Try.prog 32 #[.int .i64 n] w (fun e w' => e = .returned (.int .i64 (Dl.no n : Nat)) ∧ w = w') := prefuse_any n w

set_option maxHeartbeats 1000000 in
theorem psteps_any (s : W64) (n : Int) (w : World) :
    Calls Try.prog 12 #[.int .u64 (nl s : Nat), .int .i64 n] w (IsLE iK (Dl.stepsE s n) w) := by
  have HR := Lib.hid (fun w => prefuse_no n w)
  by_cases h : Dl.no n = 0
  · obtain ⟨h0, h1⟩ := Dl.no_zero h
    obtain ⟨N, rfl⟩ := Int.eq_ofNat_of_zero_le h0
    have HX : Hid (Dl.stepsE s N = (Dl.seedSteps s (N - 1), 0)) := by unfold Hid Dl.stepsE; rw [if_neg (by omega), if_neg (by omega), show ((N : Int) - 1).toNat = N - 1 by omega]
    have HC := Lib.hid (fun w => pdraw_any s N w (by omega))
    rw [h] at HR
    clear h h0 h1
    go_enter Try.func12, Try.ntmps12
    go_wp2_with (fail)
    refine (HR.out _).mono ?_
    rintro e w1 ⟨rfl, rfl⟩
    go_wp2_with (fail)
    refine (HC.out _).mono ?_
    rintro e w1 ⟨A, c, rfl, ho, hb⟩
    have HO := Lib.hid ho
    have HB := Lib.hid hb
    clear ho hb
    go_wp2
    go_ret2
    exact IsLE.of HX.out rfl rfl HO.out HB.out
  · have HX := Lib.hid (Dl.steps_no h s)
    obtain ⟨y, hye⟩ : ∃ y, Dl.no n = y := ⟨_, rfl⟩
    rw [hye] at HX HR h
    have hyb : ((y : Int) != 0) = true := by rw [bne_iff_ne]; omega
    clear hye h
    go_enter Try.func12, Try.ntmps12
    go_wp2_with (fail)
    refine (HR.out _).mono ?_
    rintro e w1 ⟨rfl, rfl⟩
    go_wp2
    go_ret2
    exact IsLE.none_ HX.out rfl

set_option maxHeartbeats 1000000 in
theorem pof_any (v : Value) (l : List Int) (n : Int) (B : Nat) (w : World) (hB : B ≤ w.heap.size) (h : Lv iK w B v l) :
    Calls Try.prog 18 #[.int .i64 n, v] w (IsLE iK (Dl.of n l) w) := by
  have HR := Lib.hid (fun w => prefuse_no n w)
  have H0 := Lib.hid h
  obtain ⟨A, c, rfl, _, _, _⟩ := h
  by_cases h : Dl.no n = 0
  · obtain ⟨h0, h1⟩ := Dl.no_zero h
    obtain ⟨N, rfl⟩ := Int.eq_ofNat_of_zero_le h0
    have HM := Lib.hid (pmay_any _ l N B w (by omega) hB H0.out)
    rw [h] at HR
    by_cases hm' : Dl.may N l = false
    · have HX : Hid (Dl.of N l = ([], 2)) := by unfold Hid Dl.of; rw [if_neg (by omega), if_neg (by omega), hm']; rfl
      rw [hm'] at HM
      clear h h0 h1 hm'
      go_enter Try.func18, Try.ntmps18
      go_wp2_with (fail)
      refine (HR.out _).mono ?_
      rintro e w1 ⟨rfl, rfl⟩
      go_wp2_with (fail)
      refine (HM.out).mono ?_
      rintro e w1 ⟨rfl, hb⟩
      have HB := Lib.hid hb
      clear hb
      go_wp2
      go_ret2
      exact IsLE.none_b HX.out rfl HB.out
    · have hm : Dl.may N l = true := by simpa using hm'
      have HX : Hid (Dl.of N l = (Dl.order N l, 0)) := by unfold Hid Dl.of; rw [if_neg (by omega), if_neg (by omega), if_pos hm]; rfl
      have hF : Dl.fits (N - 1) l = true := by unfold Dl.may at hm; rw [show ((N : Int) - 1).toNat = N - 1 by omega] at hm; exact hm
      have HC : Hid (∀ w', Below w.heap.size w w' → Calls Try.prog 35 #[.int .i64 (N : Nat), .slice A l.length c] w' (IsL1 iK (Dl.order N l) w')) := fun w' hb => porder_any _ l N B w' (by omega) (Nat.le_trans hB hb.size) hF (H0.out.below_ hb hB)
      rw [hm] at HM
      clear h h0 h1 hm hm' hF
      go_enter Try.func18, Try.ntmps18
      go_wp2_with (fail)
      refine (HR.out _).mono ?_
      rintro e w1 ⟨rfl, rfl⟩
      go_wp2_with (fail)
      refine (HM.out).mono ?_
      rintro e w1 ⟨rfl, hb⟩
      have HC2 := Lib.hid (HC.out w1 hb)
      have HB := Lib.hid hb
      clear hb HC HM
      go_wp2_with (fail)
      refine (HC2.out).mono ?_
      rintro e w2 ⟨A2, c2, rfl, ho, hb⟩
      have HO := Lib.hid (ho.mono_ HB.out.size)
      have HB2 := Lib.hid (HB.out.trans (hb.mono HB.out.size))
      clear ho hb
      go_wp2
      go_ret2
      exact IsLE.of HX.out rfl rfl HO.out HB2.out
  · have HX := Lib.hid (Dl.of_no h l)
    obtain ⟨y, hye⟩ : ∃ y, Dl.no n = y := ⟨_, rfl⟩
    rw [hye] at HX HR h
    have hyb : ((y : Int) != 0) = true := by rw [bne_iff_ne]; omega
    clear hye h
    go_enter Try.func18, Try.ntmps18
    go_wp2_with (fail)
    refine (HR.out _).mono ?_
    rintro e w1 ⟨rfl, rfl⟩
    go_wp2
    go_ret2
    exact IsLE.none_ HX.out rfl

set_option maxHeartbeats 1000000 in
theorem pdeal_any (s : W64) (n : Int) (w : World) :
    Calls Try.prog 14 #[.int .u64 (nl s : Nat), .int .i64 n] w (IsLE iK (Dl.dealE s n) w) := by
  have HR := Lib.hid (fun w => prefuse_no n w)
  by_cases h : Dl.no n = 0
  · obtain ⟨h0, h1⟩ := Dl.no_zero h
    obtain ⟨N, rfl⟩ := Int.eq_ofNat_of_zero_le h0
    have HX : Hid (Dl.dealE s N = (Dl.order N (Dl.seedSteps s (N - 1)), 0)) := by
      have e1 : Dl.stepsE s N = (Dl.seedSteps s (N - 1), 0) := by rw [Dl.stepsE, if_neg (by omega), if_neg (by omega), show ((N : Int) - 1).toNat = N - 1 by omega]
      have e2 : Dl.may N (Dl.seedSteps s (N - 1)) = true := by unfold Dl.may; rw [show ((N : Int) - 1).toNat = N - 1 by omega]; exact Dl.seedSteps_fits _ _
      unfold Hid Dl.dealE
      rw [e1, if_pos rfl, Dl.of, if_neg (by omega), if_neg (by omega), if_pos e2, Int.toNat_natCast]
    have HC := Lib.hid (fun w => pdraw_any s N w (by omega))
    have HD : Hid (∀ v w', Lv iK w' w'.heap.size v (Dl.seedSteps s (N - 1)) → Calls Try.prog 35 #[.int .i64 (N : Nat), v] w' (IsL1 iK (Dl.order N (Dl.seedSteps s (N - 1))) w')) := fun v w' h => porder_any _ _ N _ w' (by omega) (Nat.le_refl _) (Dl.seedSteps_fits _ _) h
    rw [h] at HR
    clear h h0 h1
    go_enter Try.func14, Try.ntmps14
    go_wp2_with (fail)
    refine (HR.out _).mono ?_
    rintro e w1 ⟨rfl, rfl⟩
    go_wp2_with (fail)
    refine (HC.out _).mono ?_
    rintro e w1 ⟨A, c, rfl, ho, hb⟩
    have HO2 := Lib.hid (HD.out _ w1 ho.form_)
    have HB := Lib.hid hb
    clear ho hb
    go_wp2_with (fail)
    refine (HO2.out).mono ?_
    rintro e w2 ⟨A2, c2, rfl, ho, hb⟩
    have HO := Lib.hid (ho.mono_ HB.out.size)
    have HB2 := Lib.hid (HB.out.trans (hb.mono HB.out.size))
    clear ho hb
    go_wp2
    go_ret2
    exact IsLE.of HX.out rfl rfl HO.out HB2.out
  · have HX : Hid (Dl.dealE s n = ([], Dl.no n)) := by
      unfold Hid Dl.dealE
      rw [Dl.steps_no h s, if_neg h]
    obtain ⟨y, hye⟩ : ∃ y, Dl.no n = y := ⟨_, rfl⟩
    rw [hye] at HX HR h
    have hyb : ((y : Int) != 0) = true := by rw [bne_iff_ne]; omega
    clear hye h
    go_enter Try.func14, Try.ntmps14
    go_wp2_with (fail)
    refine (HR.out _).mono ?_
    rintro e w1 ⟨rfl, rfl⟩
    go_wp2
    go_ret2
    exact IsLE.none_ HX.out rfl

set_option maxHeartbeats 1000000 in
theorem pback_any (v : Value) (p : List Int) (B : Nat) (w : World) (hB : B ≤ w.heap.size) (h : Lv iK w B v p) :
    Calls Try.prog 20 #[v] w (IsLE iK (Dl.backE p) w) := by
  have HY := Lib.hid (pwhy_any v p B w hB h)
  have H0 := Lib.hid h
  obtain ⟨A, c, rfl, _, _, _⟩ := h
  by_cases hy : Dl.why p = 0
  · obtain ⟨hm, ho⟩ := Dl.why_zero.1 hy
    have HX : Hid (Dl.backE p = (Dl.back p, 0)) := by unfold Hid Dl.backE; rw [if_pos hy]
    have HC : Hid (∀ w', Below w.heap.size w w' → Calls Try.prog 39 #[.slice A p.length c] w' (IsL1 iK (Dl.back p) w')) := fun w' hb => pto_any _ p B w' hm (Nat.le_trans hB hb.size) ho (H0.out.below_ hb hB)
    rw [hy] at HY
    clear hy hm ho
    go_enter Try.func20, Try.ntmps20
    go_wp2_with (fail)
    refine (HY.out).mono ?_
    rintro e w1 ⟨rfl, hb⟩
    have HC2 := Lib.hid (HC.out w1 hb)
    have HB := Lib.hid hb
    clear hb HY HC
    go_wp2_with (fail)
    refine (HC2.out).mono ?_
    rintro e w2 ⟨A2, c2, rfl, ho, hb⟩
    have HO := Lib.hid (ho.mono_ HB.out.size)
    have HB2 := Lib.hid (HB.out.trans (hb.mono HB.out.size))
    clear ho hb
    go_wp2
    go_ret2
    exact IsLE.of HX.out rfl rfl HO.out HB2.out
  · have HX : Hid (Dl.backE p = ([], Dl.why p)) := by unfold Hid Dl.backE; rw [if_neg hy]
    obtain ⟨y, hye⟩ : ∃ y, Dl.why p = y := ⟨_, rfl⟩
    rw [hye] at HX HY hy
    have hyb : ((y : Int) != 0) = true := by rw [bne_iff_ne]; omega
    clear hye hy
    go_enter Try.func20, Try.ntmps20
    go_wp2_with (fail)
    refine (HY.out).mono ?_
    rintro e w1 ⟨rfl, hb⟩
    have HB := Lib.hid hb
    clear hb
    go_wp2
    go_ret2
    exact IsLE.none_b HX.out rfl HB.out
end Go.Proofs.Ytggpldghdaggfaa
