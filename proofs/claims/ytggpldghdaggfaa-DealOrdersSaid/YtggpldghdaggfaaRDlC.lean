/-
  stookref06.Take, Steps, Deal.
-/
import Derived.Test.YtggpldghdaggfaaKWord
import Derived.Test.YtggpldghdaggfaaRDlA
import Derived.Test.YtggpldghdaggfaaRDlB
import Derived.Test.YtggpldghdaggfaaDrRefC
namespace Go.Proofs.Ytggpldghdaggfaa
open Go.RowKit
set_option linter.unusedVariables false

set_option maxHeartbeats 2000000 in
theorem rtake_any (v u : Value) (p : List Int) (l : List Nat) (B : Nat) (w : World) (hB : B ≤ w.heap.size) (h : Lv iK w B v p) (h' : Lv wK w B u l) :
    Calls Try.prog 27 #[v, u] w (IsLE wK (Dl.takeE p l) w) := by
  have HY := Lib.hid (rwhy_any v p B w hB h)
  have H0 := Lib.hid h
  have H0' := Lib.hid h'
  obtain ⟨A, c, rfl, h1, h2, _⟩ := h
  obtain ⟨A', c', rfl, h1', h2', _⟩ := h'
  have hl : p.length ≤ 9223372036854775807 := by simp only [maxLen] at h2; omega
  have hl' : l.length ≤ 9223372036854775807 := by simp only [maxLen] at h2'; omega
  clear h1 h2 h1' h2'
  by_cases hy : Dl.why p = 0
  · obtain ⟨hm, ho⟩ := Dl.why_zero.1 hy
    by_cases he : l.length = p.length
    · have HX : Hid (Dl.takeE p l = (Dl.takes p l, 0)) := by unfold Hid Dl.takeE; rw [if_pos hy, if_pos he]
      have HM := Lib.hid hm
      have HO := Lib.hid ho
      have HE := Lib.hid he
      have hq : (((l.length : Nat) : Int) != (p.length : Int)) = false := by rw [he]; simp
      have hle1 : l.length ≤ p.length := by omega
      have hle2 : p.length ≤ l.length := by omega
      rw [hy] at HY
      clear hy hm ho he
      go_enter Try.func27, Try.ntmps27
      go_wp2_with (fail)
      refine (HY.out).mono ?_
      rintro e w1 ⟨rfl, hb⟩
      have HB := Lib.hid hb
      clear hb HY
      go_wp2
      go_loopw [7, 8] (fun u i wr => ∃ k : Nat, k ≤ p.length ∧ i = .int .i64 k ∧ Hid (OwnL wK wr w.heap.size u (Dl.takes (p.take k) l)) ∧ Below w.heap.size w wr) (fun _ i _ => p.length - (intOf i).toNat)
      case atStart => exact ⟨0, by omega, rfl, OwnL.nil_ _ _ _, HB.out⟩
      case round =>
        obtain ⟨k, hk, rfl, HT, hbr⟩ := hrel
        have hbase : w.heap.size ≤ wr.heap.size := hbr.size
        clear HB
        by_cases hlt : k < p.length
        · obtain ⟨b1, o1, x, rfl, hb1, hx, hd, hcell⟩ := (H0.out.below_ hbr hB).int_ hlt
          have hx2 := HO.out.1 x (List.mem_of_getElem? hd)
          obtain ⟨q, rfl⟩ := Int.eq_ofNat_of_zero_le hx2.1
          have hq : q < l.length := by omega
          have hqi : (q : Int) < (l.length : Int) := by omega
          obtain ⟨b2, o2, y, rfl, hb2, hy2, hd2, hcell2⟩ := (H0'.out.below_ hbr hB).word_ hq
          have HY2 := Lib.hid hy2
          have HTL : Hid ((Dl.takes (p.take k) l).length = k) := by unfold Hid; rw [Dl.takes_len, List.length_take]; omega
          have HS : Hid (Dl.takes (p.take k) l ++ [y] = Dl.takes (p.take (k + 1)) l) := by
            unfold Hid
            rw [take_snoc hd]
            simp [Dl.takes, hd2]
          have hmm := HM.out
          clear hd hd2 hx hx2 hy2
          go_wp2_with (at_builtin; go_must (refine wpList_push_l _ wK rfl _ _ rfl w.heap.size _ rfl (Dl.takes (p.take k) l) HT.out rfl y HY2.out _ rfl _ rfl (by rw [HTL.out]; show _ * 8 ≤ _; omega) (by rw [HTL.out]; simp only [maxLen]; omega) hbase ?_; intro A3 c3 w2 hA hG))
          have HG := Lib.hid (hbr.grown hG hbase (fun k hk => (HT.out.lt_ k hk).1))
          rw [HTL.out, HS.out] at hA
          rw [HTL.out]
          have HA := Lib.hid hA
          clear hA hG HT HTL HS hmm
          go_roundw
          case rel => exact ⟨k + 1, by omega, by go_num, HA.out, HG.out⟩
          case measure => simp [intOf]; omega
        · have hkN : k = p.length := by omega
          have ht := HT.out
          rw [hkN, List.take_length] at ht
          obtain ⟨A2, c2, rfl, _⟩ := ht.form_
          have HT2 := Lib.hid ht
          have HN := Lib.hid (Dl.takes_len p l)
          clear ht HT hkN
          go_wp2
          go_ret2
          exact IsLE.of HX.out rfl rfl HT2.out hbr
    · have HX : Hid (Dl.takeE p l = ([], 2)) := by unfold Hid Dl.takeE; rw [if_pos hy, if_neg he]
      have hq : (((l.length : Nat) : Int) != (p.length : Int)) = true := by rw [bne_iff_ne]; omega
      rw [hy] at HY
      clear hy hm ho he
      go_enter Try.func27, Try.ntmps27
      go_wp2_with (fail)
      refine (HY.out).mono ?_
      rintro e w1 ⟨rfl, hb⟩
      have HB := Lib.hid hb
      clear hb HY
      go_wp2
      go_ret2
      exact IsLE.none_b HX.out rfl HB.out
  · have HX : Hid (Dl.takeE p l = ([], Dl.why p)) := by unfold Hid Dl.takeE; rw [if_neg hy]
    obtain ⟨y, hye⟩ : ∃ y, Dl.why p = y := ⟨_, rfl⟩
    rw [hye] at HX HY hy
    have hyb : ((y : Int) != 0) = true := by rw [bne_iff_ne]; omega
    clear hye hy
    go_enter Try.func27, Try.ntmps27
    go_wp2_with (fail)
    refine (HY.out).mono ?_
    rintro e w1 ⟨rfl, hb⟩
    have HB := Lib.hid hb
    clear hb
    go_wp2
    go_ret2
    exact IsLE.none_b HX.out rfl HB.out

namespace Dl
/-- What is drawn below m, and the state behind it. -/
def fstOf (m : Nat) : W64 × W64 → Nat
  | (a, _) => nl a % m
def sndOf : W64 × W64 → W64
  | (_, b) => b
def drawn (s : W64) (m : Nat) : Nat := fstOf m (Dr.run m 64 0#64 s)
def after (s : W64) (m : Nat) : W64 := sndOf (Dr.run m 64 0#64 s)
/-- The steps of a seed, for places from i down to 1. -/
def seedSteps (s : W64) : Nat → List Int
  | 0 => []
  | i + 1 => (drawn s (i + 2) : Int) :: seedSteps (after s (i + 2)) i
def stepsE (s : W64) (n : Int) : List Int × Nat := if n < 0 then ([], 2) else if 65536 < n then ([], 3) else (seedSteps s (n - 1).toNat, 0)
def dealE (s : W64) (n : Int) : List Int × Nat := if (stepsE s n).2 = 0 then of n (stepsE s n).1 else ([], (stepsE s n).2)
theorem fst_lt {m : Nat} (h : m ≠ 0) (r : W64 × W64) : fstOf m r < m := by
  cases r
  exact Nat.mod_lt _ (by omega)
theorem drawn_lt (s : W64) {m : Nat} (h : m ≠ 0) : drawn s m < m := fst_lt h _
theorem below_drawn (s : W64) {m : Nat} (h : m ≠ 0) (hm : m < 18446744073709551616) : Dr.below s (BitVec.ofNat 64 m) = (drawn s m, nl (after s m), 0) := by
  have key : ∀ n : W64, nl n = m → Dr.below s n = (drawn s m, nl (after s m), 0) := by
    intro n hn
    subst hn
    have e : Dr.below s n = (nl (Dr.run (nl n) 64 0#64 s).1 % nl n, nl (Dr.run (nl n) 64 0#64 s).2, 0) := by unfold Dr.below; rw [if_neg h]
    rw [e]
    unfold drawn after
    generalize Dr.run (nl n) 64 0#64 s = r
    cases r
    rfl
  exact key _ (nl_of hm)
theorem seedSteps_fits (s : W64) (i : Nat) : fits i (seedSteps s i) = true := by
  induction i generalizing s with
  | zero => rfl
  | succ i ih =>
    have := drawn_lt s (m := i + 2) (by omega)
    rw [seedSteps, fits_step, ih, decide_eq_true (by omega), decide_eq_true (by omega)]; rfl
theorem seedSteps_len (s : W64) (i : Nat) : (seedSteps s i).length = i := fits_len (seedSteps_fits s i)
end Dl

set_option maxHeartbeats 2000000 in
theorem rsteps_any (s : W64) (n : Int) (w : World) :
    Calls Try.prog 13 #[.int .u64 (nl s : Nat), .int .i64 n] w (IsLE iK (Dl.stepsE s n) w) := by
  by_cases h0 : n < 0
  · have HX : Hid (Dl.stepsE s n = ([], 2)) := by unfold Hid Dl.stepsE; rw [if_pos h0]
    go_enter Try.func13, Try.ntmps13
    go_wp2
    go_ret2
    exact IsLE.none_ HX.out rfl
  by_cases h1 : 65536 < n
  · have HX : Hid (Dl.stepsE s n = ([], 3)) := by unfold Hid Dl.stepsE; rw [if_neg h0, if_pos h1]
    go_enter Try.func13, Try.ntmps13
    go_wp2
    go_ret2
    exact IsLE.none_ HX.out rfl
  obtain ⟨M, hM⟩ : ∃ M, (n - 1).toNat = M := ⟨_, rfl⟩
  have HX : Hid (Dl.stepsE s n = (Dl.seedSteps s M, 0)) := by unfold Hid Dl.stepsE; rw [if_neg h0, if_neg h1, hM]
  have HM := Lib.hid hM
  have hnn : n ≤ 65536 := by omega
  clear hM
  have HB0 : Hid (∀ (s : W64) (i : Nat) w, i < 65536 → Calls Try.prog 34 #[.int .u64 (nl s : Nat), .int .u64 ((i : Int) + 1 + 1)] w (fun e w' => e = .returned (.tuple #[.int .u64 (Dl.drawn s (i + 2) : Nat), .int .u64 (nl (Dl.after s (i + 2)) : Nat), .int .i64 0]) ∧ w = w')) := fun s i w hi => by
    have h := rbelow_any s (BitVec.ofNat 64 (i + 2)) w
    rw [Dl.below_drawn s (by omega) (by omega), nl_of (by omega)] at h
    have e : (((i + 2 : Nat)) : Int) = (i : Int) + 1 + 1 := by omega
    rw [e] at h
    exact h
  go_enter Try.func13, Try.ntmps13
  go_wp2
  go_loopw [0, 6, 7] (fun sv u i wr => ∃ (I : Int) (s' : W64) (out : List Int), i = .int .i64 I ∧ sv = .int .u64 (nl s' : Nat) ∧ -1 ≤ I ∧ I ≤ 65535 ∧ Hid ((out.length : Int) + I ≤ 65536) ∧ Hid (out ++ Dl.seedSteps s' I.toNat = Dl.seedSteps s M) ∧ Hid (OwnL iK wr w.heap.size u out) ∧ Below w.heap.size w wr) (fun _ _ i _ => (intOf i).toNat)
  case atStart => exact ⟨n - 1, s, [], rfl, rfl, by omega, by omega, by unfold Hid; simp; omega, by rw [HM.out]; rfl, OwnL.nil_ _ _ _, Below.refl _ _⟩
  case round =>
    obtain ⟨I, s', out, rfl, rfl, hI0, hI1, HL, HE, HO, hbr⟩ := hrel
    have hbase : w.heap.size ≤ wr.heap.size := hbr.size
    by_cases hlt : 1 ≤ I
    · obtain ⟨i, rfl⟩ : ∃ i : Nat, I = (i : Int) + 1 := ⟨(I - 1).toNat, by omega⟩
      have he := HE.out
      rw [show ((i : Int) + 1).toNat = i + 1 by omega, Dl.seedSteps] at he
      have hdl := Dl.drawn_lt s' (m := i + 2) (by omega)
      have HC := Lib.hid (HB0.out s' i wr (by omega))
      obtain ⟨d, hd⟩ : ∃ d, Dl.drawn s' (i + 2) = d := ⟨_, rfl⟩
      obtain ⟨s2, hs2⟩ : ∃ s2, Dl.after s' (i + 2) = s2 := ⟨_, rfl⟩
      rw [hd, hs2] at HC he
      rw [hd] at hdl
      have HE2 : Hid ((out ++ [(d : Int)]) ++ Dl.seedSteps s2 i = Dl.seedSteps s M) := by unfold Hid; rw [List.append_assoc]; exact he
      have hw1 : IntKind.u64.wrap ((i : Int) + 1 + 1) = (i : Int) + 1 + 1 := by rw [IntKind.wrap_u64]; omega
      have hw2 : IntKind.i64.wrap (d : Int) = (d : Int) := by rw [IntKind.wrap_i64]; omega
      have HI : Hid (I64 (d : Int)) := i64_nat (by omega)
      have HLo : Hid (out.length ≤ 65536) := by have := HL.out; unfold Hid; omega
      have HL2 : Hid (((out ++ [(d : Int)]).length : Int) + (i : Int) ≤ 65536) := by have := HL.out; unfold Hid; simp; omega
      have HI0 : Hid (i ≤ 65534) := by unfold Hid; omega
      clear he hd hs2 HE hdl HL
      go_wp2_with (first | (at_builtin; go_must (refine wpList_push_l _ iK rfl _ _ rfl w.heap.size _ rfl out HO.out rfl (d : Int) HI.out _ rfl _ rfl (by have := HLo.out; show _ * 8 ≤ _; omega) (by have := HLo.out; simp only [maxLen]; omega) hbase ?_; intro A3 c3 w2 hA hG)) | (go_at_call 34; refine (HC.out).mono ?_; rintro e w1 ⟨rfl, rfl⟩))
      have HG := Lib.hid (hbr.grown hG hbase (fun k hk => (HO.out.lt_ k hk).1))
      have HA := Lib.hid hA
      clear hA hG HO HC hw1 hw2 HI
      go_roundw
      case rel => exact ⟨(i : Int), s2, out ++ [(d : Int)], by go_num, rfl, by omega, by omega, HL2.out, HE2.out, HA.out, HG.out⟩
      case measure => simp [intOf] <;> omega
    · have he := HE.out
      rw [show I.toNat = 0 by omega, Dl.seedSteps, List.append_nil] at he
      obtain ⟨A2, c2, rfl, _⟩ := HO.out.form_
      subst he
      clear HE
      go_wp2
      go_ret2
      exact IsLE.of HX.out rfl rfl HO.out hbr

set_option maxHeartbeats 1000000 in
theorem rdeal_any (s : W64) (n : Int) (w : World) :
    Calls Try.prog 15 #[.int .u64 (nl s : Nat), .int .i64 n] w (IsLE iK (Dl.dealE s n) w) := by
  have HS := Lib.hid (rsteps_any s n w)
  by_cases he : (Dl.stepsE s n).2 = 0
  · have HX : Hid (Dl.dealE s n = Dl.of n (Dl.stepsE s n).1) := by unfold Hid Dl.dealE; rw [if_pos he]
    obtain ⟨r, hr⟩ : ∃ r, Dl.stepsE s n = r := ⟨_, rfl⟩
    rw [hr] at HX HS he
    obtain ⟨l, e⟩ := r
    simp only at he HX
    subst he
    clear hr
    go_enter Try.func15, Try.ntmps15
    go_wp2_with (fail)
    refine (HS.out).mono ?_
    rintro e w1 ⟨A1, c1, rfl, ho, hb⟩
    have HO := Lib.hid (rof_any _ l n w1.heap.size w1 (Nat.le_refl _) ho.form_)
    have HB := Lib.hid hb
    clear ho hb HS
    go_wp2_with (fail)
    refine (HO.out).mono ?_
    rintro e w2 ⟨A2, c2, rfl, ho, hb⟩
    have HO2 := Lib.hid (ho.mono_ HB.out.size)
    have HB2 := Lib.hid (HB.out.trans (hb.mono HB.out.size))
    clear ho hb HO
    go_wp2
    go_ret2
    exact ⟨A2, c2, by rw [HX.out]; rfl, by rw [HX.out]; exact HO2.out, HB2.out⟩
  · have HX : Hid (Dl.dealE s n = ([], (Dl.stepsE s n).2)) := by unfold Hid Dl.dealE; rw [if_neg he]
    obtain ⟨r, hr⟩ : ∃ r, Dl.stepsE s n = r := ⟨_, rfl⟩
    rw [hr] at HX HS he
    obtain ⟨l, y⟩ := r
    simp only at he HX
    have hyb : ((y : Int) != 0) = true := by rw [bne_iff_ne]; omega
    clear hr he
    go_enter Try.func15, Try.ntmps15
    go_wp2_with (fail)
    refine (HS.out).mono ?_
    rintro e w1 ⟨A1, c1, rfl, ho, hb⟩
    have HB := Lib.hid hb
    clear ho hb HS
    go_wp2
    go_ret2
    exact IsLE.none_b HX.out rfl HB.out
end Go.Proofs.Ytggpldghdaggfaa
