/-
  stookref06.May, Of: the order of steps.
-/
import Derived.Test.YtggpldghdaggfaaKInt
import Derived.Test.YtggpldghdaggfaaLAns
import Derived.Test.YtggpldghdaggfaaMem
import Derived.Test.YtggpldghdaggfaaDlMath
import Derived.Deep.QuietTactic
import Derived.BigQuiet
namespace Go.Proofs.Ytggpldghdaggfaa
open Go.RowKit
set_option linter.unusedVariables false

namespace Dl
theorem fits_step (i : Nat) (x : Int) (r : List Int) : fits (i + 1) (x :: r) = (decide (0 ≤ x) && decide (x ≤ (i : Int) + 1) && fits i r) := rfl
theorem fits_other {i : Nat} {steps : List Int} (h : steps.length ≠ i) : fits i steps = false := by
  cases e : fits i steps with
  | false => rfl
  | true => exact absurd (fits_len e) h
theorem fits_nil {i : Nat} {steps : List Int} (h : steps.length = i) (h0 : i = 0) : fits i steps = true := by
  subst h0
  rw [List.eq_nil_of_length_eq_zero h]; rfl
end Dl

set_option maxHeartbeats 1000000 in
theorem rmay_any (v : Value) (l : List Int) (n : Int) (B : Nat) (w : World) (h0 : 0 ≤ n) (hn : n ≤ 65536) (h : Lv iK w B v l) :
    Calls Try.prog 37 #[.int .i64 n, v] w (IsBool (Dl.may n l) w) := by
  have H0 := Lib.hid h
  obtain ⟨A, c, rfl, h1, h2, _⟩ := h
  have hl : l.length ≤ 9223372036854775807 := by simp only [maxLen] at h2; omega
  obtain ⟨m, hm⟩ : ∃ m : Nat, (n - 1).toNat = m := ⟨_, rfl⟩
  have hif : (if 1 < n then n - 1 else (0 : Int)) = (m : Int) := by split <;> omega
  have HM : Hid (Dl.may n l = Dl.fits m l) := by unfold Hid Dl.may; rw [hm]
  by_cases heq : l.length = m
  · have hq : (((l.length : Nat) : Int) != (m : Int)) = false := by rw [heq]; simp
    have HE := Lib.hid heq
    have HN : Hid (0 < m → n = (m : Int) + 1) := by unfold Hid; omega
    have hm2 : m ≤ 65536 := by omega
    clear heq hm h1 h2
    go_enter Try.func37, Try.ntmps37
    go_wp2
    go_loopw [5] (fun i wr => ∃ k : Nat, k ≤ l.length ∧ i = .int .i64 k ∧ Hid (Dl.fits m l = Dl.fits (m - k) (l.drop k)) ∧ Below w.heap.size w wr ∧ Hid (Lv iK wr B (.slice A l.length c) l)) (fun i _ => l.length - (intOf i).toNat)
    case atStart => exact ⟨0, by omega, rfl, rfl, Below.refl _ _, H0.out⟩
    case round =>
      obtain ⟨k, hk, rfl, HT, hbel, HA⟩ := hrel
      by_cases hlt : k < l.length
      · obtain ⟨b, o, x, rfl, hb, hx, hd, hcell⟩ := HA.out.int_ hlt
        have hE := HE.out
        have hN := HN.out (by omega)
        subst hN
        obtain ⟨i, hi⟩ : ∃ i, m - k = i + 1 := ⟨m - k - 1, by omega⟩
        have HS : Hid (Dl.fits m l = (decide (0 ≤ x) && decide (x ≤ (i : Int) + 1) && Dl.fits (m - (k + 1)) (l.drop (k + 1)))) := by
          unfold Hid
          rw [HT.out, drop_at hd, hi, Dl.fits_step, show m - (k + 1) = i by omega]
        have hw2 : IntKind.i64.wrap ((m : Int) + 1 - 1 - (k : Int)) = (i : Int) + 1 := by rw [IntKind.wrap_i64]; omega
        have hw3 : (m : Int) - (k : Int) = (i : Int) + 1 := by omega
        clear hd hx HT hE hi hif
        by_cases hx0 : 0 ≤ x
        · have hx0' : ¬ x < 0 := by omega
          by_cases hx1 : x ≤ (i : Int) + 1
          · have hx1' : ¬ (i : Int) + 1 < x := by omega
            have HS2 : Hid (Dl.fits m l = Dl.fits (m - (k + 1)) (l.drop (k + 1))) := by unfold Hid; rw [HS.out, decide_eq_true hx0, decide_eq_true hx1]; rfl
            go_wp2
            exact ⟨⟨k + 1, by omega, by go_num, HS2.out, hbel, HA.out⟩, by simp [intOf]; omega⟩
          · have hx1' : (i : Int) + 1 < x := by omega
            have HS2 : Hid (Dl.fits m l = false) := by unfold Hid; rw [HS.out, decide_eq_false hx1]; simp
            go_wp2
            go_ret
            exact ⟨by rw [HM.out, HS2.out]; rfl, hbel⟩
        · have hx0' : x < 0 := by omega
          have HS2 : Hid (Dl.fits m l = false) := by unfold Hid; rw [HS.out, decide_eq_false hx0]; simp
          go_wp2
          go_ret
          exact ⟨by rw [HM.out, HS2.out]; rfl, hbel⟩
      · have HS : Hid (Dl.fits m l = true) := by
          have hE := HE.out
          unfold Hid
          rw [HT.out, show m - k = 0 by omega, List.drop_of_length_le (by omega)]; rfl
        go_wp2
        go_ret
        exact ⟨by rw [HM.out, HS.out]; rfl, hbel⟩
  · have hq : (((l.length : Nat) : Int) != (m : Int)) = true := by rw [bne_iff_ne]; omega
    have HF := Lib.hid (Dl.fits_other heq)
    clear heq hm h1 h2
    go_enter Try.func37, Try.ntmps37
    go_wp2
    go_ret
    exact ⟨by rw [HM.out, HF.out]; rfl, Below.refl _ _⟩
set_option maxHeartbeats 2000000 in
theorem rof_any (v : Value) (l : List Int) (n : Int) (B : Nat) (w : World) (hB : B ≤ w.heap.size) (h : Lv iK w B v l) :
    Calls Try.prog 19 #[.int .i64 n, v] w (IsLE iK (Dl.of n l) w) := by
  have H0 := Lib.hid h
  obtain ⟨A, c, rfl, h1, h2, _⟩ := h
  have hl : l.length ≤ 9223372036854775807 := by simp only [maxLen] at h2; omega
  clear h1 h2
  by_cases h0 : n < 0
  · have HX : Hid (Dl.of n l = ([], 2)) := by unfold Hid Dl.of; rw [if_pos h0]
    go_enter Try.func19, Try.ntmps19
    go_wp2
    go_ret2
    exact IsLE.none_ HX.out rfl
  by_cases h1 : 65536 < n
  · have HX : Hid (Dl.of n l = ([], 3)) := by unfold Hid Dl.of; rw [if_neg h0, if_pos h1]
    go_enter Try.func19, Try.ntmps19
    go_wp2
    go_ret2
    exact IsLE.none_ HX.out rfl
  have HM := Lib.hid (rmay_any _ l n B w (by omega) (by omega) H0.out)
  by_cases hm' : Dl.may n l = false
  · have HX : Hid (Dl.of n l = ([], 2)) := by unfold Hid Dl.of; rw [if_neg h0, if_neg h1, hm']; rfl
    rw [hm'] at HM
    clear hm'
    go_enter Try.func19, Try.ntmps19
    go_wp2_with (fail)
    refine (HM.out).mono ?_
    rintro e w1 ⟨rfl, hb⟩
    have HB := Lib.hid hb
    clear hb
    go_wp2
    go_ret2
    exact IsLE.none_b HX.out rfl HB.out
  have hm : Dl.may n l = true := by simpa using hm'
  clear hm'
  obtain ⟨N, rfl⟩ := Int.eq_ofNat_of_zero_le (show 0 ≤ n by omega)
  have HX : Hid (Dl.of N l = (Dl.order N l, 0)) := by unfold Hid Dl.of; rw [if_neg h0, if_neg h1, if_pos hm]; rfl
  have hF : Dl.fits (N - 1) l = true := by unfold Dl.may at hm; rw [show ((N : Int) - 1).toNat = N - 1 by omega] at hm; exact hm
  have HF := Lib.hid hF
  have HL := Lib.hid (Dl.fits_len hF)
  rw [hm] at HM
  have hN : N ≤ 65536 := by omega
  clear hm h0 h1 hF
  go_enter Try.func19, Try.ntmps19
  go_wp2_with (fail)
  refine (HM.out).mono ?_
  rintro e w1 ⟨rfl, hb⟩
  have HB := Lib.hid hb
  have hb1 := hb.size
  clear hb HM
  go_wp2
  go_loopw [6, 7] (fun u i wr => ∃ k : Nat, k ≤ N ∧ i = .int .i64 k ∧ Hid (OwnL iK wr w.heap.size u (Dl.ids k)) ∧ Below w.heap.size w wr) (fun _ i _ => N - (intOf i).toNat)
  case atStart => exact ⟨0, by omega, rfl, OwnL.nil_ _ _ _, HB.out⟩
  case round =>
    obtain ⟨k, hk, rfl, HO, hbr⟩ := hrel
    have hbase : w.heap.size ≤ wr.heap.size := hbr.size
    clear HB hb1
    by_cases hlt : k < N
    · have HI : Hid (I64 (k : Int)) := i64_nat (by omega)
      have HE := Lib.hid (Dl.ids_len k)
      go_wp2_with (at_builtin; go_must (refine wpList_push_l _ iK rfl _ _ rfl w.heap.size _ rfl (Dl.ids k) HO.out rfl (k : Int) HI.out _ rfl _ rfl (by rw [HE.out]; show _ * 8 ≤ _; omega) (by rw [HE.out]; simp only [maxLen]; omega) hbase ?_; intro A3 c3 w2 hA hG))
      have HG := Lib.hid (hbr.grown hG hbase (fun k hk => (HO.out.lt_ k hk).1))
      rw [HE.out] at hA ⊢
      have hA2 : Hid (OwnL iK w2 w.heap.size (.slice A3 (k + 1) c3) (Dl.ids (k + 1))) := by unfold Hid; rw [Dl.ids_succ]; exact hA
      clear hA hG HO HE
      go_roundw
      case rel => exact ⟨k + 1, by omega, by go_num, hA2.out, HG.out⟩
      case measure => simp [intOf]; omega
    · have hkN : k = N := by omega
      subst hkN
      obtain ⟨A2, c2, rfl, _⟩ := HO.out.form_
      have HP0 := HO
      have hle := Dl.ids_len k
      rw [hle] at HP0 ⊢
      have HL0 := Lib.hid (H0.out.below_ hbr hB)
      have HBr := Lib.hid hbr
      clear hle HO hbr hlt
      go_wp2
      go_loopw [8] (fun i wr => ∃ (j : Nat) (p : List Int), j ≤ l.length ∧ i = .int .i64 j ∧ Hid (p.length = k) ∧ Hid (Dl.walk (k - 1 - j) (l.drop j) p = Dl.order k l) ∧ Hid (Dl.fits (k - 1 - j) (l.drop j) = true) ∧ Hid (OwnL iK wr w.heap.size (.slice A2 k c2) p) ∧ Below w.heap.size w wr) (fun i _ => l.length - (intOf i).toNat)
      case atStart => exact ⟨0, Dl.ids k, by omega, rfl, Dl.ids_len k, rfl, HF.out, HP0.out, HBr.out⟩
      case round =>
        obtain ⟨j, p, hj, rfl, HPl, HW, HFj, HP, hbr⟩ := hrel
        have HL2 := Lib.hid (H0.out.below_ hbr hB)
        clear HP0 HL0 HBr
        by_cases hlt : j < l.length
        · obtain ⟨b, o, x, rfl, hb, hx, hd, hcell⟩ := HL2.out.int_ hlt
          have hLl := HL.out
          obtain ⟨i, hi⟩ : ∃ i, k - 1 - j = i + 1 := ⟨k - 1 - j - 1, by omega⟩
          have hf := HFj.out
          have hw := HW.out
          rw [drop_at hd, hi] at hf hw
          obtain ⟨hx0, hx1, hf2⟩ := Dl.fits_cons hf
          obtain ⟨q, rfl⟩ := Int.eq_ofNat_of_zero_le hx0
          rw [Dl.walk, Int.toNat_natCast] at hw
          have hpl := HPl.out
          have HW2 : Hid (Dl.walk (k - 1 - (j + 1)) (l.drop (j + 1)) (Dl.swap p (i + 1) q) = Dl.order k l) := by unfold Hid; rw [show k - 1 - (j + 1) = i by omega]; exact hw
          have HF2 : Hid (Dl.fits (k - 1 - (j + 1)) (l.drop (j + 1)) = true) := by unfold Hid; rw [show k - 1 - (j + 1) = i by omega]; exact hf2
          have hi1 : i + 1 < p.length := by omega
          have hq1 : q < p.length := by omega
          have hwi : IntKind.i64.wrap ((k : Int) - 1 - (j : Int)) = ((i + 1 : Nat) : Int) := by rw [IntKind.wrap_i64]; omega
          have hwj : (k : Int) - 1 - (j : Int) = ((i + 1 : Nat) : Int) := by omega
          have hi2 : i + 1 < k := by omega
          have hq2 : q < k := by omega
          have HJ : Hid (j + 1 ≤ l.length) := by unfold Hid; omega
          clear hf hw hd hx hi HFj HW hf2 hLl hpl
          go_wp2
          go_quiet (fail)
          generalize hW9 : wr.drewN _ = w9
          have HP9 : OwnL iK w9 w.heap.size (.slice A2 k c2) p := by rw [← hW9]; exact HP.out.drewN_ _
          have hbr9 : Below w.heap.size w w9 := by rw [← hW9]; exact below_drewN hbr _
          obtain ⟨g, y1, rfl, _, hg, hy1, he1, hc1, hfr1⟩ := HP9.int_ hi1
          obtain ⟨g', y2, e2, _, _, hy2, he2, hc2, hfr2⟩ := HP9.int_ hq1
          injection e2 with e2
          injection e2 with e2
          subst e2
          have HY1 := Lib.hid (Dl.at_of he1)
          have HY2 := Lib.hid (Dl.at_of he2)
          obtain ⟨hs1, hg1⟩ := HP9.setInt_ hi1 hy2
          have hq3 : q < (p.set (i + 1) y2).length := by rw [List.length_set]; exact hq1
          obtain ⟨hs2, hg2⟩ := hs1.setInt_ hq3 hy1
          obtain ⟨_, _, e4, _, _, _, _, _, hfr3⟩ := hs1.int_ hq3
          injection e4 with e4
          injection e4 with e4
          subst e4
          have HS2 : Hid (OwnL iK ((w9.setCell ⟨g, i + 1, none⟩ (.int .i64 y2)).setCell ⟨g, q, none⟩ (.int .i64 y1)) w.heap.size (.slice (some ⟨g, 0, none⟩) k c2) (Dl.swap p (i + 1) q)) := by
            unfold Hid Dl.swap
            rw [HY1.out, HY2.out]
            exact hs2
          have HB9 := Lib.hid ((hbr9.setCell (p := ⟨g, i + 1, none⟩) hg (.int .i64 y2)).setCell (p := ⟨g, q, none⟩) hg (.int .i64 y1))
          have HPL : Hid ((Dl.swap p (i + 1) q).length = k) := by unfold Hid; rw [Dl.swap_len]; exact HPl.out
          clear hs1 hs2 hg1 hg2 HP9 HP hbr9 hbr he1 he2 hW9 hq3 HPl hi1 hq1 hy1 hy2
          go_wp2
          exact ⟨⟨j + 1, Dl.swap p (i + 1) q, HJ.out, by go_num, HPL.out, HW2.out, HF2.out, HS2.out, HB9.out⟩, by simp [intOf]; omega⟩
        · have hLl := HL.out
          have hw := HW.out
          rw [show k - 1 - j = 0 by omega, Dl.walk] at hw
          subst hw
          have HN2 := HPl
          clear hLl HW
          go_wp2
          go_ret2
          exact IsLE.of HX.out HN2.out.symm rfl HP.out hbr
end Go.Proofs.Ytggpldghdaggfaa
