/-
  deal.orderOf.
-/
import Derived.Test.YtggpldghdaggfaaDlProA
import Derived.Test.YtggpldghdaggfaaRDlA
import Derived.BigRegion
namespace Go.Proofs.Ytggpldghdaggfaa
open Go.RowKit
set_option linter.unusedVariables false

set_option maxHeartbeats 2000000 in
theorem porder_any (v : Value) (l : List Int) (n : Nat) (B : Nat) (w : World) (hn : n ≤ 65536) (hB : B ≤ w.heap.size) (hF : Dl.fits (n - 1) l = true) (h : Lv iK w B v l) :
    Calls Try.prog 35 #[.int .i64 (n : Nat), v] w (IsL1 iK (Dl.order n l) w) := by
  have H0 := Lib.hid h
  obtain ⟨A, c, rfl, h1, h2, _⟩ := h
  have hl : l.length ≤ 9223372036854775807 := by simp only [maxLen] at h2; omega
  obtain ⟨m, hm⟩ : ∃ m : Nat, m = n - 1 := ⟨_, rfl⟩
  have HL : Hid (l.length = m) := by unfold Hid; rw [hm]; exact Dl.fits_len hF
  have HC1 := Lib.hid (fun w => pcount_any n m hn hm w)
  have HP := Lib.hid (fun w => pplaces_any (n : Int) (by omega) (by omega) w)
  have HI := Lib.hid (fun w => pinplace_any n hn w)
  have HN : Hid (m = n - 1) := hm
  have HF : Hid (Dl.fits m l = true) := by unfold Hid; rw [hm]; exact hF
  have HX : Hid (Dl.order n l = Dl.walk m l (Dl.ids n)) := by unfold Hid Dl.order; rw [hm]
  have hm2 : m ≤ 65536 := by omega
  have hlm : m ≤ l.length := by rw [HL.out]; exact Nat.le_refl _
  clear hm h1 h2 hF
  go_enter Try.func35, Try.ntmps35
  go_wp2_with (fail)
  refine (HP.out _).mono ?_
  rintro e w1 ⟨C, rfl, hC, hcell, hb⟩
  have HB := Lib.hid hb
  have HCC := Lib.hid hcell
  have hCb := hb.size
  clear hb hcell
  go_wp2_with (fail)
  refine (HI.out _).mono ?_
  rintro e w2 ⟨A2, c2, rfl, ho, hb⟩
  rw [Dl.ids_len] at ho ⊢
  have HO := Lib.hid ho
  have HB2 := Lib.hid hb
  clear ho hb
  go_wp2_with (fail)
  refine (HC1.out _).mono ?_
  rintro e w3 ⟨rfl, rfl⟩
  go_wp2
  go_loopw [16] (fun i wr => ∃ (k : Nat) (p : List Int), k ≤ m ∧ i = .int .i64 k ∧ Hid (p.length = n) ∧ Hid (Dl.walk (m - k) (l.drop k) p = Dl.walk m l (Dl.ids n)) ∧ Hid (Dl.fits (m - k) (l.drop k) = true) ∧ Hid (OwnL iK wr w1.heap.size (.slice A2 n c2) p) ∧ Below w1.heap.size w1 wr) (fun i _ => m - (intOf i).toNat)
  case atStart => exact ⟨0, Dl.ids n, by omega, rfl, Dl.ids_len n, rfl, HF.out, HO.out, HB2.out⟩
  case round =>
    obtain ⟨k, p, hk, rfl, HPl, HW, HFj, HP2, hbr⟩ := hrel
    have hbw := HB.out.trans (hbr.mono hCb)
    have HBW := Lib.hid hbw
    by_cases hlt : k < m
    · obtain ⟨b, o, x, rfl, hb, hx, hd, hcell⟩ := (H0.out.below_ hbw hB).int_ (show k < l.length by omega)
      obtain ⟨i, hi⟩ : ∃ i, m - k = i + 1 := ⟨m - k - 1, by omega⟩
      have hf := HFj.out
      have hw := HW.out
      rw [drop_at hd, hi] at hf hw
      obtain ⟨hx0, hx1, hf2⟩ := Dl.fits_cons hf
      obtain ⟨q, rfl⟩ := Int.eq_ofNat_of_zero_le hx0
      rw [Dl.walk, Int.toNat_natCast] at hw
      have hpl := HPl.out
      have hN := HN.out
      have HW2 : Hid (Dl.walk (m - (k + 1)) (l.drop (k + 1)) (Dl.swap p (i + 1) q) = Dl.walk m l (Dl.ids n)) := by unfold Hid; rw [show m - (k + 1) = i by omega]; exact hw
      have HF2 : Hid (Dl.fits (m - (k + 1)) (l.drop (k + 1)) = true) := by unfold Hid; rw [show m - (k + 1) = i by omega]; exact hf2
      have hi1 : i + 1 < p.length := by omega
      have hq1 : q < p.length := by omega
      have hi2 : ((i + 1 : Nat) : Int) < (n : Int) := by omega
      have hq2 : (q : Int) < (n : Int) := by omega
      have hcc : wr.cell? ⟨C, 0, none⟩ = some (.int .i64 ((n : Int) - 1)) := (hbr.cell (p := ⟨C, 0, none⟩) hC).trans HCC.out
      have HPc := Lib.hid (pplace_q C ((n : Int) - 1) (k : Int) ((i + 1 : Nat) : Int) wr hcc (by omega) (by omega) (by omega) (by omega) (by omega))
      have hkl : (k : Int) < (l.length : Int) := by omega
      have hkm : (k : Int) < (m : Int) := by omega
      have HK : Hid (k + 1 ≤ m) := by unfold Hid; omega
      clear hf hw hd hx hi HFj HW hf2 hpl hbw hcc hN hx0 hx1 HO HB2 HF
      go_wp2
      go_quiet ((with_reducible exact Calls.quiet_of_same (HPc.out _)))
      generalize hW9 : wr.drewN _ = w9
      have HP9 : OwnL iK w9 w1.heap.size (.slice A2 n c2) p := by rw [← hW9]; exact HP2.out.drewN_ _
      have hbr9 : Below w1.heap.size w1 w9 := by rw [← hW9]; exact below_drewN hbr _
      obtain ⟨g, y1, rfl, -, hg, hy1, he1, hc1, hfr1⟩ := HP9.int_ hi1
      obtain ⟨g', y2, e2, -, -, hy2, he2, hc2, hfr2⟩ := HP9.int_ hq1
      injection e2 with e2
      injection e2 with e2
      subst e2
      have HY1 := Lib.hid (Dl.at_of he1)
      have HY2 := Lib.hid (Dl.at_of he2)
      obtain ⟨hs1, hg1⟩ := HP9.setInt_ hi1 hy2
      have hq3 : q < (p.set (i + 1) y2).length := by rw [List.length_set]; exact hq1
      obtain ⟨hs2, hg2⟩ := hs1.setInt_ hq3 hy1
      have HS2 : Hid (OwnL iK (((w9.setCell ⟨g, i + 1, none⟩ (.int .i64 y2)).setCell ⟨g, q, none⟩ (.int .i64 y1)).drew) w1.heap.size (.slice (some ⟨g, 0, none⟩) n c2) (Dl.swap p (i + 1) q)) := by
        unfold Hid Dl.swap
        rw [HY1.out, HY2.out]
        exact hs2.drew_
      have HB9 := Lib.hid (((hbr9.setCell (p := ⟨g, i + 1, none⟩) hg (.int .i64 y2)).setCell (p := ⟨g, q, none⟩) hg (.int .i64 y1)).drew)
      have HPL : Hid ((Dl.swap p (i + 1) q).length = n) := by unfold Hid; rw [Dl.swap_len]; exact HPl.out
      by_cases e : q = i + 1
      · subst e
        obtain rfl : y1 = y2 := by rw [he1] at he2; exact Option.some.inj he2
        clear hs1 hs2 hg1 hg2 HP9 HP2 hbr9 hbr he1 he2 hW9 hq3 HPl hi1 hq1 hy1 hy2 hc2 hfr2
        go_wp2_with (fail)
        go_region
        go_wp2
        go_roundw
        case rel => exact ⟨k + 1, Dl.swap p (i + 1) (i + 1), HK.out, by go_num, HPL.out, HW2.out, HF2.out, HS2.out, HB9.out⟩
        case measure => simp [intOf]; omega
      · have e' : i + 1 ≠ q := fun h => e h.symm
        clear hs1 hs2 hg1 hg2 HP9 HP2 hbr9 hbr he1 he2 hW9 hq3 HPl hi1 hq1 hy1 hy2 e
        go_wp2_with (fail)
        go_region
        go_wp2
        go_roundw
        case rel => exact ⟨k + 1, Dl.swap p (i + 1) q, HK.out, by go_num, HPL.out, HW2.out, HF2.out, HS2.out, HB9.out⟩
        case measure => simp [intOf]; omega
    · have hw := HW.out
      rw [show m - k = 0 by omega, Dl.walk] at hw
      subst hw
      have HN2 := HPl
      have hkm : ¬ (k : Int) < (m : Int) := by omega
      clear HW
      go_wp2
      go_ret
      unfold IsL1
      rw [HX.out]
      exact ⟨A2, c2, by rw [HN2.out]; rfl, by rw [HN2.out]; exact HP2.out.mono_ hCb, HBW.out⟩
end Go.Proofs.Ytggpldghdaggfaa
