/-
  stookref03.Scan and stookref03.All: the payloads of frames, in new memory.
-/
import Derived.Test.YteemhdoegjdaiaaRFGet
import Derived.Test.YteemhdoegjdaiaaFScan
namespace Go.Proofs.Yteemhdoegjdaiaa
open Go.RowKit
set_option linter.unusedVariables false

set_option maxHeartbeats 2000000 in
set_option maxRecDepth 100000 in
theorem rscan_any (v : Value) (l : List Nat) (B : Nat) (w : World) (hB : B ≤ w.heap.size) (h : Bv w B v l) (hsz : l.length ≤ 1099511627776) :
    Calls Try.prog 20 #[v] w (IsScan false (Fr.scan l) w) := by
  have H0 := Lib.hid h
  have HL := Lib.hid h.lt_
  obtain ⟨A, c, rfl, hc1, hc2, hc3, _⟩ := h
  have hnil := Lib.hid (OwnR.nil_ false w w.heap.size)
  have HS0 : Hid (Fr.scan l = Fr.prep [] (Fr.scanF l.length l 0)) := rfl
  go_enter Try.func20, Try.ntmps20
  go_wp2
  go_loopw [5, 6] (fun u i wr => ∃ (a f : Nat) (acc : List (List Nat)), a ≤ l.length ∧ i = .int .i64 a ∧ Hid (OwnR false wr w.heap.size u acc) ∧ Hid (Fr.scan l = Fr.prep acc (Fr.scanF f l a)) ∧ l.length - a ≤ f ∧ acc.length ≤ a ∧ Below w.heap.size w wr) (fun _ i _ => l.length - (intOf i).toNat)
  case atStart => exact ⟨0, l.length, [], by omega, rfl, hnil.out, HS0.out, by omega, by simp, Below.refl _ _⟩
  case round =>
    obtain ⟨a, f, acc, ha, rfl, HO, HS, hf, hacc, hbr⟩ := hrel
    have hbase := hbr.size
    clear hnil HS0
    by_cases hlt : a < l.length
    · obtain ⟨f, rfl⟩ : ∃ k, f = k + 1 := ⟨f - 1, by omega⟩
      have HG := Lib.hid (rfget_any _ l B (a : Nat) wr (Nat.le_trans hB hbase) (H0.out.below_ hbr hB) (by omega))
      rcases Fr.get_cases HL.out (a : Nat) with ⟨e, he2, he6, hg⟩ | ⟨k, y, q, hk1, hk2, hk3, hk4, hk5, hg⟩
      · have HX := Lib.hid (HS.out.trans (Fr.prep_err hlt hg (by omega)))
        have HR := Lib.hid hg
        have hq : (((e : Nat) : Int) != 0) = true := by rw [bne_iff_ne]; omega
        clear hg HS
        go_wp2_with fail
        ((with_reducible refine HG.out.mono ?_); rintro e' w2 ⟨A2, c2, he, ho2, hb2⟩)
        rw [HR.out] at he ho2
        subst he
        have HO2 := Lib.hid (HO.out.below_ hb2 (Nat.le_refl _))
        have HB2 := Lib.hid (hbr.trans (hb2.mono hbase))
        clear HG ho2 hb2 HO
        go_wp2
        go_ret3
        exact IsScan.of HX.out HO2.out HB2.out
      · obtain rfl : a = k := by omega
        have hp := Fr.frm_pos y
        have HX := Lib.hid (HS.out.trans (Fr.prep_ok hlt hg))
        obtain ⟨n, hn⟩ : ∃ n, a + (Fr.frm y).length = n := ⟨_, rfl⟩
        rw [hn] at hk4 hg HX
        have HR := Lib.hid hg
        have hn1 : a < n := by omega
        clear hg HS hp hn hk3 hk1
        go_wp2_with fail
        ((with_reducible refine HG.out.mono ?_); rintro e' w2 ⟨A2, c2, he, ho2, hb2⟩)
        rw [HR.out] at he ho2
        subst he
        have HOa := Lib.hid (HO.out.below_ hb2 (Nat.le_refl _))
        have HO2 := Lib.hid (ho2.mono_ hbase)
        have HB2 := Lib.hid (hbr.trans (hb2.mono hbase))
        have hbase2 : w.heap.size ≤ w2.heap.size := HB2.out.size
        have hfit : (acc.length + 1) * 24 ≤ 140737488355328 := by omega
        clear HG ho2 hb2 HO
        go_wp2_with (at_builtin; go_must (refine wpList_append_rows w2 rfl _ _ rfl rfl w.heap.size u5 rfl acc false HOa.out A2 _ _ y rfl HO2.out (by intro h; cases h) hfit hbase2 ?_; intro v' w3 hr3 hg3))
        have HB3 := Lib.hid ((HB2.out.alloc hbase2 _).grown hg3 (by simp; omega) (fun k hk => (HOa.out.lt_ k hk).1))
        go_roundw
        case rel => exact ⟨n, f, acc ++ [y], by omega, by go_num, hr3, HX.out, by omega, by simp; omega, HB3.out⟩
        case measure => simp [intOf]; omega
    · have HX := Lib.hid (HS.out.trans (Fr.prep_end hlt))
      have hlt2 : ¬ ((a : Int) < (l.length : Nat)) := by omega
      clear HS
      go_wp2
      go_ret3
      exact IsScan.of HX.out HO.out hbr

theorem rall_any (v : Value) (l : List Nat) (B : Nat) (w : World) (hB : B ≤ w.heap.size) (h : Bv w B v l) (hsz : l.length ≤ 1099511627776) :
    Calls Try.prog 22 #[v] w (IsAll false (Fr.all l) w) := by
  have HF := Lib.hid (rscan_any v l B w hB h hsz)
  obtain ⟨r, hr⟩ : ∃ r, Fr.scan l = r := ⟨_, rfl⟩
  obtain ⟨ls, k, e⟩ := r
  have HE := Lib.hid hr
  rw [hr] at HF
  clear hr
  obtain ⟨A, c, rfl, _⟩ := h
  by_cases he : e = 0
  · subst he
    have HX := Lib.hid (Fr.all_ok HE.out)
    go_enter Try.func22, Try.ntmps22
    go_wp2_with fail
    ((with_reducible refine HF.out.mono ?_); rintro e' w2 ⟨A2, c2, rfl, ho2, hb2⟩)
    have HO := Lib.hid ho2
    have HB := Lib.hid hb2
    clear HF ho2 hb2
    go_wp2
    go_ret2
    exact IsAll.of HX.out HO.out HB.out
  · have HX := Lib.hid (Fr.all_err HE.out he)
    have hq : (((e : Nat) : Int) != 0) = true := by rw [bne_iff_ne]; omega
    clear he
    go_enter Try.func22, Try.ntmps22
    go_wp2_with fail
    ((with_reducible refine HF.out.mono ?_); rintro e' w2 ⟨A2, c2, rfl, ho2, hb2⟩)
    have HB := Lib.hid hb2
    clear HF ho2 hb2
    go_wp2
    go_ret2
    exact IsAll.none_ HX.out HB.out
end Go.Proofs.Yteemhdoegjdaiaa
