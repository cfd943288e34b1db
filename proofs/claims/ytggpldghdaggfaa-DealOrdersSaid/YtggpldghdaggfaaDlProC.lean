/-
  deal.areSteps.
-/
import Derived.Test.YtggpldghdaggfaaDlProA
import Derived.Test.YtggpldghdaggfaaRDlA
namespace Go.Proofs.Ytggpldghdaggfaa
open Go.RowKit
set_option linter.unusedVariables false

set_option maxHeartbeats 1000000 in
theorem pmay_any (v : Value) (l : List Int) (n : Nat) (B : Nat) (w : World) (hn : n ≤ 65536) (hB : B ≤ w.heap.size) (h : Lv iK w B v l) :
    Calls Try.prog 36 #[.int .i64 (n : Nat), v] w (IsBool (Dl.may n l) w) := by
  have H0 := Lib.hid h
  obtain ⟨A, c, rfl, h1, h2, _⟩ := h
  have hl : l.length ≤ 9223372036854775807 := by simp only [maxLen] at h2; omega
  obtain ⟨m, hm⟩ : ∃ m : Nat, m = n - 1 := ⟨_, rfl⟩
  have HM : Hid (Dl.may n l = Dl.fits m l) := by unfold Hid Dl.may; rw [show ((n : Int) - 1).toNat = m by omega]
  have HC1 := Lib.hid (fun w => pcount_any n m hn hm w)
  have HP := Lib.hid (fun w => pplaces_any (n : Int) (by omega) (by omega) w)
  have HN : Hid (0 < m → (n : Int) - 1 = (m : Int)) := by unfold Hid; omega
  have hm2 : m ≤ 65536 := by omega
  by_cases heq : l.length = m
  · have hq : (((l.length : Nat) : Int) != (m : Int)) = false := by rw [heq]; simp
    have HE := Lib.hid heq
    clear heq hm h1 h2
    go_enter Try.func36, Try.ntmps36
    go_wp2_with (fail)
    refine (HC1.out _).mono ?_
    rintro e w1 ⟨rfl, rfl⟩
    go_wp2_with (fail)
    refine (HP.out _).mono ?_
    rintro e w1 ⟨C, rfl, hC, hcell, hb⟩
    have HB := Lib.hid hb
    have HCC := Lib.hid hcell
    have hCb := hb.size
    clear hb hcell
    go_wp2_with (fail)
    refine (HC1.out _).mono ?_
    rintro e w2 ⟨rfl, rfl⟩
    go_wp2
    go_loopw [16] (fun i wr => ∃ k : Nat, k ≤ m ∧ i = .int .i64 k ∧ Hid (Dl.fits m l = Dl.fits (m - k) (l.drop k)) ∧ Below w1.heap.size w1 wr) (fun i _ => m - (intOf i).toNat)
    case atStart => exact ⟨0, by omega, rfl, rfl, Below.refl _ _⟩
    case round =>
      obtain ⟨k, hk, rfl, HT, hbr⟩ := hrel
      have hbw := HB.out.trans (hbr.mono hCb)
      have HBW := Lib.hid hbw
      by_cases hlt : k < m
      · have hE := HE.out
        obtain ⟨b, o, x, rfl, hb, hx, hd, hcell⟩ := (H0.out.below_ hbw hB).int_ (show k < l.length by omega)
        have hN := HN.out (by omega)
        obtain ⟨i, hi⟩ : ∃ i, m - k = i + 1 := ⟨m - k - 1, by omega⟩
        have hcc : wr.cell? ⟨C, 0, none⟩ = some (.int .i64 ((n : Int) - 1)) := (hbr.cell (p := ⟨C, 0, none⟩) hC).trans HCC.out
        have HPl := Lib.hid (pplace_q C ((n : Int) - 1) (k : Int) ((i : Int) + 1) wr hcc (by omega) (by omega) (by omega) (by omega) (by omega))
        have HS : Hid (Dl.fits m l = (decide (0 ≤ x) && decide (x ≤ (i : Int) + 1) && Dl.fits (m - (k + 1)) (l.drop (k + 1)))) := by
          unfold Hid
          rw [HT.out, drop_at hd, hi, Dl.fits_step, show m - (k + 1) = i by omega]
        have hkl : (k : Int) < (l.length : Int) := by omega
        have hkm : (k : Int) < (m : Int) := by omega
        have HK : Hid (k + 1 ≤ m) := by unfold Hid; omega
        clear hd hx HT hE hi hbw hN hcc
        by_cases hx0 : 0 ≤ x
        · have hx0' : decide (x < 0) = false := by simp; omega
          by_cases hx1 : x ≤ (i : Int) + 1
          · have hx1' : decide ((i : Int) + 1 < x) = false := by simp; omega
            have HS2 : Hid (Dl.fits m l = Dl.fits (m - (k + 1)) (l.drop (k + 1))) := by unfold Hid; rw [HS.out, decide_eq_true hx0, decide_eq_true hx1]; rfl
            go_wp2
            go_quiet ((with_reducible exact Calls.quiet_of_same (HPl.out _)))
            generalize hW : wr.drewN _ = w9
            have HB9 : Hid (Below w1.heap.size w1 w9) := by unfold Hid; rw [← hW]; exact below_drewN hbr _
            clear hW
            go_wp2
            exact ⟨⟨k + 1, HK.out, by go_num, HS2.out, HB9.out⟩, by simp [intOf]; omega⟩
          · have hx1' : decide ((i : Int) + 1 < x) = true := by simp; omega
            have HS2 : Hid (Dl.fits m l = false) := by unfold Hid; rw [HS.out, decide_eq_false hx1]; simp
            go_wp2
            go_quiet ((with_reducible exact Calls.quiet_of_same (HPl.out _)))
            generalize hW : wr.drewN _ = w9
            have HB9 : Hid (Below w.heap.size w w9) := by unfold Hid; rw [← hW]; exact below_drewN HBW.out _
            clear hW
            go_wp2
            go_ret
            exact ⟨by rw [HM.out, HS2.out]; rfl, HB9.out⟩
        · have hx0' : decide (x < 0) = true := by simp; omega
          have HS2 : Hid (Dl.fits m l = false) := by unfold Hid; rw [HS.out, decide_eq_false hx0]; simp
          go_wp2
          go_quiet (fail)
          generalize hW : wr.drewN _ = w9
          have HB9 : Hid (Below w.heap.size w w9) := by unfold Hid; rw [← hW]; exact below_drewN HBW.out _
          clear hW
          go_wp2
          go_ret
          exact ⟨by rw [HM.out, HS2.out]; rfl, HB9.out⟩
      · have HS : Hid (Dl.fits m l = true) := by
          have hE := HE.out
          unfold Hid
          rw [HT.out, show m - k = 0 by omega, List.drop_of_length_le (by omega)]; rfl
        have hkm : ¬ (k : Int) < (m : Int) := by omega
        go_wp2
        go_ret
        exact ⟨by rw [HM.out, HS.out]; rfl, HBW.out⟩
  · have hq : (((l.length : Nat) : Int) != (m : Int)) = true := by rw [bne_iff_ne]; omega
    have HF := Lib.hid (Dl.fits_other heq)
    clear heq hm h1 h2
    go_enter Try.func36, Try.ntmps36
    go_wp2_with (fail)
    refine (HC1.out _).mono ?_
    rintro e w1 ⟨rfl, rfl⟩
    go_wp2
    go_ret
    exact ⟨by rw [HM.out, HF.out]; rfl, Below.refl _ _⟩
end Go.Proofs.Ytggpldghdaggfaa
