/-
  frame.follow, frame.Scan, frame.All: the payloads of frames, in new memory.
-/
import Derived.Test.YteemhdoegjdaiaaFGet
import Derived.Test.YteemhdoegjdaiaaFScanM
import Derived.Test.YteemhdoegjdaiaaRowsG

namespace Go.Proofs.Yteemhdoegjdaiaa
open Go.RowKit
set_option linter.unusedVariables false

/-- A call that answers these rows in new memory (full: each without spare room), a place and an error, and turns nothing that was there. -/
def IsScan (full : Bool) (r : List (List Nat) × Nat × Nat) (w : World) (e : Ending) (w' : World) : Prop :=
  ∃ A c, e = .returned (.tuple #[.slice A r.1.length c, .int .i64 r.2.1, .int .i64 r.2.2]) ∧ OwnR full w' w.heap.size (.slice A r.1.length c) r.1 ∧ Below w.heap.size w w'
theorem IsScan.of {full : Bool} {w w' : World} {r : List (List Nat) × Nat × Nat} {y : List (List Nat)} {k e : Nat} {v : Value} (h : r = (y, k, e)) (ho : OwnR full w' w.heap.size v y) (hb : Below w.heap.size w w') :
    IsScan full r w (.returned (.tuple #[v, .int .i64 (k : Nat), .int .i64 (e : Nat)])) w' := by
  subst h
  obtain ⟨A, c, rfl, _⟩ := ho.form_
  exact ⟨A, c, rfl, ho, hb⟩

namespace Fr
/-- Rows ahead, and what a scan tells behind them. -/
def prep (acc : List (List Nat)) (t : List (List Nat) × Nat × Nat) : List (List Nat) × Nat × Nat := (acc ++ t.1, t.2)
theorem prep_nil (t : List (List Nat) × Nat × Nat) : prep [] t = t := rfl
theorem prep_ok {acc : List (List Nat)} {f a n : Nat} {l y : List Nat} (h : a < l.length) (hg : get l (a : Nat) = (y, n, 0)) : prep acc (scanF (f + 1) l a) = prep (acc ++ [y]) (scanF f l n) := by
  rw [scanF_ok h hg]; simp [prep]
theorem prep_err {acc : List (List Nat)} {f a e : Nat} {l : List Nat} (h : a < l.length) (hg : get l (a : Nat) = ([], 0, e)) (he : e ≠ 0) : prep acc (scanF (f + 1) l a) = (acc, a, e) := by
  rw [scanF_err h hg he]; simp [prep]
theorem prep_end {acc : List (List Nat)} {f a : Nat} {l : List Nat} (h : ¬ a < l.length) : prep acc (scanF f l a) = (acc, a, 0) := by
  rw [scanF_end h]; simp [prep]
end Fr

set_option maxHeartbeats 2000000 in
set_option maxRecDepth 100000 in
theorem follow_any (v : Value) (l : List Nat) (B : Nat) (w : World) (hB : B ≤ w.heap.size) (h : Bv w B v l) (hsz : l.length ≤ 1099511627776) :
    Calls Try.prog 36 #[v] w (IsScan true (Fr.scan l) w) := by
  have H0 := Lib.hid h
  have HL := Lib.hid h.lt_
  obtain ⟨A, c, rfl, hc1, hc2, hc3, _⟩ := h
  have hnil := Lib.hid (OwnR.nil_ true w w.heap.size)
  have HS0 : Hid (Fr.scan l = Fr.prep [] (Fr.scanF l.length l 0)) := rfl
  go_enter Try.func36, Try.ntmps36
  go_wp2
  go_step3
  go_wp2
  go_step3
  go_wp2
  go_loopw [2, 3, 4] (fun u i z wr => ∃ (a f : Nat) (acc : List (List Nat)), a ≤ l.length ∧ i = .int .i64 a ∧ z = .int .i64 0 ∧ Hid (OwnR true wr w.heap.size u acc) ∧ Hid (Fr.scan l = Fr.prep acc (Fr.scanF f l a)) ∧ l.length - a ≤ f ∧ acc.length ≤ a ∧ Below w.heap.size w wr) (fun _ i _ _ => l.length - (intOf i).toNat)
  case atStart => exact ⟨0, l.length, [], by omega, rfl, rfl, hnil.out, HS0.out, by omega, by simp, Below.refl _ _⟩
  case round =>
    obtain ⟨a, f, acc, ha, rfl, rfl, HO, HS, hf, hacc, hbr⟩ := hrel
    have hbase := hbr.size
    clear hnil HS0
    by_cases hlt : a < l.length
    · obtain ⟨f, rfl⟩ : ∃ k, f = k + 1 := ⟨f - 1, by omega⟩
      have HG := Lib.hid (fget_any _ l B (a : Nat) wr (Nat.le_trans hB hbase) (H0.out.below_ hbr hB) (by omega))
      rcases Fr.get_cases HL.out (a : Nat) with ⟨e, he2, he6, hg⟩ | ⟨k, y, q, hk1, hk2, hk3, hk4, hk5, hg⟩
      · have HX := Lib.hid (HS.out.trans (Fr.prep_err hlt hg (by omega)))
        have HR := Lib.hid hg
        have hq : (((e : Nat) : Int) == 0) = false := by rw [beq_eq_false_iff_ne]; omega
        clear hg HS
        go_wp2_with fail
        ((with_reducible refine HG.out.mono ?_); rintro e' w2 ⟨A2, he, ho2, hb2⟩)
        rw [HR.out] at he ho2
        subst he
        have HO2 := Lib.hid (HO.out.below_ hb2 (Nat.le_refl _))
        have HB2 := Lib.hid (hbr.trans (hb2.mono hbase))
        clear HG ho2 hb2 HO
        go_wp2
        try rw [Exit.noGoto_ret]
        go_ret3
        exact IsScan.of HX.out HO2.out HB2.out
      · obtain rfl : a = k := by omega
        have hp := Fr.frm_pos y
        have HX := Lib.hid (HS.out.trans (Fr.prep_ok hlt hg))
        obtain ⟨n, hn⟩ : ∃ n, a + (Fr.frm y).length = n := ⟨_, rfl⟩
        rw [hn] at hk4 hg HX
        have HR := Lib.hid hg
        have hn1 : a < n := by omega
        clear hg HS hp hn hk3 hk1
        go_wp2_with fail
        ((with_reducible refine HG.out.mono ?_); rintro e' w2 ⟨A2, he, ho2, hb2⟩)
        rw [HR.out] at he ho2
        subst he
        have HOa := Lib.hid (HO.out.below_ hb2 (Nat.le_refl _))
        have HO2 := Lib.hid (ho2.mono_ hbase)
        have HB2 := Lib.hid (hbr.trans (hb2.mono hbase))
        have hbase2 : w.heap.size ≤ w2.heap.size := HB2.out.size
        have hfit : (acc.length + 1) * 24 ≤ 140737488355328 := by omega
        clear HG ho2 hb2 HO
        go_wp2_with (at_builtin; go_must (refine wpList_append_rows w2 rfl _ _ rfl rfl w.heap.size u2 rfl acc true HOa.out A2 _ _ y rfl HO2.out (fun _ => rfl) hfit hbase2 ?_; intro v' w3 hr3 hg3))
        have HB3 := Lib.hid ((HB2.out.alloc hbase2 _).grown hg3 (by simp; omega) (fun k hk => (HOa.out.lt_ k hk).1))
        go_roundw
        case rel => exact ⟨n, f, acc ++ [y], by omega, by go_num, rfl, hr3, HX.out, by omega, by simp; omega, HB3.out⟩
        case measure => simp [intOf]; omega
    · have HX := Lib.hid (HS.out.trans (Fr.prep_end hlt))
      have hlt2 : ¬ ((a : Int) < (l.length : Nat)) := by omega
      clear HS
      go_wp2
      try rw [Exit.noGoto_ret]
      go_ret3
      exact IsScan.of HX.out HO.out hbr

theorem scan_any (v : Value) (l : List Nat) (B : Nat) (w : World) (hB : B ≤ w.heap.size) (h : Bv w B v l) (hsz : l.length ≤ 1099511627776) :
    Calls Try.prog 19 #[v] w (fun e w' => ∃ A c, e = .returned (.tuple #[.slice A (Fr.scan l).1.length c, .int .i64 (Fr.scan l).2.1]) ∧ OwnR true w' w.heap.size (.slice A (Fr.scan l).1.length c) (Fr.scan l).1 ∧ Below w.heap.size w w') := by
  have HF := Lib.hid (follow_any v l B w hB h hsz)
  obtain ⟨r, hr⟩ : ∃ r, Fr.scan l = r := ⟨_, rfl⟩
  obtain ⟨ls, k, e⟩ := r
  rw [hr] at HF ⊢
  clear hr
  obtain ⟨A, c, rfl, _⟩ := h
  go_enter Try.func19, Try.ntmps19
  go_wp2_with fail
  ((with_reducible refine HF.out.mono ?_); rintro e' w2 ⟨A2, c2, rfl, ho2, hb2⟩)
  have HO := Lib.hid ho2
  have HB := Lib.hid hb2
  clear HF ho2 hb2
  go_wp2
  go_ret2
  exact ⟨A2, c2, rfl, HO.out, HB.out⟩

/-- A call that answers these rows in new memory and an error, and turns nothing that was there. -/
def IsAll (full : Bool) (r : List (List Nat) × Nat) (w : World) (e : Ending) (w' : World) : Prop :=
  ∃ A c, e = .returned (.tuple #[.slice A r.1.length c, .int .i64 r.2]) ∧ OwnR full w' w.heap.size (.slice A r.1.length c) r.1 ∧ Below w.heap.size w w'
theorem Fr.all_err {l : List Nat} {ls : List (List Nat)} {k e : Nat} (h : Fr.scan l = (ls, k, e)) (he : e ≠ 0) : Fr.all l = ([], e) := by unfold Fr.all; rw [h, if_pos he]
theorem Fr.all_ok {l : List Nat} {ls : List (List Nat)} {k : Nat} (h : Fr.scan l = (ls, k, 0)) : Fr.all l = (ls, 0) := by unfold Fr.all; rw [h, if_neg (by simp)]
theorem IsAll.none_ {full : Bool} {w w' : World} {r : List (List Nat) × Nat} {e : Nat} (h : r = ([], e)) (hb : Below w.heap.size w w') : IsAll full r w (.returned (.tuple #[.slice none 0 0, .int .i64 (e : Nat)])) w' := by
  subst h; exact ⟨none, 0, rfl, OwnR.nil_ _ _ _, hb⟩
theorem IsAll.of {full : Bool} {w w' : World} {r : List (List Nat) × Nat} {y : List (List Nat)} {e : Nat} {A : Option Addr} {c : Nat} (h : r = (y, e)) (ho : OwnR full w' w.heap.size (.slice A y.length c) y) (hb : Below w.heap.size w w') :
    IsAll full r w (.returned (.tuple #[.slice A y.length c, .int .i64 (e : Nat)])) w' := by subst h; exact ⟨A, c, rfl, ho, hb⟩

theorem all_any (v : Value) (l : List Nat) (B : Nat) (w : World) (hB : B ≤ w.heap.size) (h : Bv w B v l) (hsz : l.length ≤ 1099511627776) :
    Calls Try.prog 21 #[v] w (IsAll true (Fr.all l) w) := by
  have HF := Lib.hid (follow_any v l B w hB h hsz)
  obtain ⟨r, hr⟩ : ∃ r, Fr.scan l = r := ⟨_, rfl⟩
  obtain ⟨ls, k, e⟩ := r
  have HE := Lib.hid hr
  rw [hr] at HF
  clear hr
  obtain ⟨A, c, rfl, _⟩ := h
  by_cases he : e = 0
  · subst he
    have HX := Lib.hid (Fr.all_ok HE.out)
    go_enter Try.func21, Try.ntmps21
    go_wp2_with fail
    ((with_reducible refine HF.out.mono ?_); rintro e' w2 ⟨A2, c2, rfl, ho2, hb2⟩)
    have HO := Lib.hid ho2
    have HB := Lib.hid hb2
    clear HF ho2 hb2
    go_wp2
    go_ret2
    exact IsAll.of HX.out HO.out HB.out
  · have HX := Lib.hid (Fr.all_err HE.out he)
    have hq : (((e : Nat) : Int) != 0) = true := by rw [bne_iff_ne]; omega
    clear he
    go_enter Try.func21, Try.ntmps21
    go_wp2_with fail
    ((with_reducible refine HF.out.mono ?_); rintro e' w2 ⟨A2, c2, rfl, ho2, hb2⟩)
    have HB := Lib.hid hb2
    clear HF ho2 hb2
    go_wp2
    go_ret2
    exact IsAll.none_ HX.out HB.out
end Go.Proofs.Yteemhdoegjdaiaa
