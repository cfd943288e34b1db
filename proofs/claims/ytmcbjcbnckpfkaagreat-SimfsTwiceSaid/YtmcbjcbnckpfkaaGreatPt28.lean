/-
  RSfO: stookref14: blown, Arm, get.
  RSfQ: stookref14: a head that is turned alone; Arm.
  RSfR: stookref14: a disk behind an act; SyncDir.
-/
import Derived.Test.YtmcbjcbnckpfkaaGreatPt27
import Derived.Test.YtmcbjcbnckpfkaaGreatPt26
import Derived.BigRegion
namespace Go.Proofs.YtmcbjcbnckpfkaaGreat
open Go.RowKit
set_option linter.unusedVariables false
theorem head_cell {w : World} {b : Nat} {C : Array Value} (h : w.heap[b]? = some (.cells C 53 (0, 0))) {j : Nat} {u : Value} (hj : C[j]? = some u) : w.cell? ⟨b, j, none⟩ = some u := by
  rw [cell_of_row _ b j _ _ _ h]; exact hj
theorem head_set {w : World} {b : Nat} {C C' : Array Value} (h : w.heap[b]? = some (.cells C 53 (0, 0))) (j : Nat) (u : Value) (hC : C.set! j u = C') : (w.setCell ⟨b, j, none⟩ u).heap[b]? = some (.cells C' 53 (0, 0)) := by
  rw [heap_setCell_same w b j _ _ u h, ← hC]
  rfl
set_option maxHeartbeats 2000000 in
set_option maxRecDepth 100000 in
theorem rblown_head (w : World) (t : Sf.St) (b : Nat) (vf vs vr vu : Value) (h : w.heap[b]? = some (.cells (headC t vf vs vr vu) 53 (0, 0))) (ha : t.acts ≤ 4398046511104) (hf : t.fuse < 9223372036854775808) :
    Calls Tryz.prog 86 #[.pointer (some ⟨b, 0, none⟩)] w (fun e w' => e = .returned (.int .i64 ((Sf.blown t).1 : Nat)) ∧ w'.heap[b]? = some (.cells (headC (Sf.blown t).2 vf vs vr vu) 53 (0, 0)) ∧ Turned (fun k => k = b) w w') := by
  have d5 : w.cell? ⟨b, 5, none⟩ = some (.int .i64 (t.acts : Nat)) := head_cell h rfl
  have z5 : w.frozen? ⟨b, 5, none⟩ = false := frozen_of_row w b 5 _ _ h
  have wa : IntKind.i64.wrap ((t.acts : Int) + 1) = (t.acts : Int) + 1 := by rw [IntKind.wrap_i64]; omega
  have na : ((t.acts + 1 : Nat) : Int) = (t.acts : Int) + 1 := by omega
  have h1 := head_set h 5 (.int .i64 ((t.acts : Int) + 1)) (C' := headC { t with acts := t.acts + 1 } vf vs vr vu) (by unfold headC; rw [← na]; rfl)
  have T1 : Turned (fun k => k = b) w (w.setCell ⟨b, 5, none⟩ (.int .i64 ((t.acts : Int) + 1))) := Turned.setCell (F := fun k => k = b) (Turned.refl (fun k => k = b) w) (p := ⟨b, 5, none⟩) (fun _ => rfl) _
  obtain ⟨w1, hw1⟩ : ∃ w1, w.setCell ⟨b, 5, none⟩ (.int .i64 ((t.acts : Int) + 1)) = w1 := ⟨_, rfl⟩
  rw [hw1] at h1 T1
  have d6 : w1.cell? ⟨b, 6, none⟩ = some (.int .i64 (t.fuse : Nat)) := head_cell h1 rfl
  have z6 : w1.frozen? ⟨b, 6, none⟩ = false := frozen_of_row w1 b 6 _ _ h1
  have HH1 := Lib.hid h1
  have HT1 := Lib.hid T1
  clear h h1 T1 na
  by_cases h0 : t.fuse = 0
  · have hz : ¬ (0 : Int) < (t.fuse : Int) := by omega
    have HE : Hid (Sf.blown t = (0, { t with acts := t.acts + 1 })) := if_pos h0
    clear h0
    go_enter Tryz.func86, Tryz.ntmps86
    go_wp2
    go_ret
    rw [HE.out]
    exact ⟨rfl, HH1.out, HT1.out⟩
  · have hz : (0 : Int) < (t.fuse : Int) := by omega
    have wf : IntKind.i64.wrap ((t.fuse : Int) - 1) = (t.fuse : Int) - 1 := by rw [IntKind.wrap_i64]; omega
    have nf : ((t.fuse - 1 : Nat) : Int) = (t.fuse : Int) - 1 := by omega
    have h2 := head_set HH1.out 6 (.int .i64 ((t.fuse : Int) - 1)) (C' := headC { t with acts := t.acts + 1, fuse := t.fuse - 1 } vf vs vr vu) (by unfold headC; rw [← nf]; rfl)
    have T2 := Turned.setCell (F := fun k => k = b) HT1.out (p := ⟨b, 6, none⟩) (fun _ => rfl) (.int .i64 ((t.fuse : Int) - 1))
    obtain ⟨w2, hw2⟩ : ∃ w2, w1.setCell ⟨b, 6, none⟩ (.int .i64 ((t.fuse : Int) - 1)) = w2 := ⟨_, rfl⟩
    rw [hw2] at h2 T2
    have d62 : w2.cell? ⟨b, 6, none⟩ = some (.int .i64 ((t.fuse : Int) - 1)) := by rw [← nf]; exact head_cell h2 rfl
    have d72 : w2.cell? ⟨b, 7, none⟩ = some (.bool t.dead) := head_cell h2 rfl
    have z7 : w2.frozen? ⟨b, 7, none⟩ = false := frozen_of_row w2 b 7 _ _ h2
    have HH2 := Lib.hid h2
    have HT2 := Lib.hid T2
    clear h2 T2 nf
    by_cases h1 : t.fuse = 1
    · have hq : ((t.fuse : Int) - 1 == 0) = true := by rw [beq_iff_eq]; omega
      have HE : Hid (Sf.blown t = (13, { t with acts := t.acts + 1, fuse := 0, dead := true })) := by unfold Hid Sf.blown; rw [if_neg h0, if_pos h1]
      have h3 := head_set HH2.out 7 (.bool true) (C' := headC { t with acts := t.acts + 1, fuse := 0, dead := true } vf vs vr vu) (by unfold headC; simp only [h1]; rfl)
      have T3 := Turned.setCell (F := fun k => k = b) HT2.out (p := ⟨b, 7, none⟩) (fun _ => rfl) (.bool true)
      have HH3 := Lib.hid h3
      have HT3 := Lib.hid T3
      clear h0 h1 h3 T3
      go_enter Tryz.func86, Tryz.ntmps86
      go_wp2
      go_ret
      rw [HE.out]
      exact ⟨rfl, HH3.out, HT3.out⟩
    · have hq : ((t.fuse : Int) - 1 == 0) = false := by rw [beq_eq_false_iff_ne]; omega
      have HE : Hid (Sf.blown t = (0, { t with acts := t.acts + 1, fuse := t.fuse - 1 })) := by unfold Hid Sf.blown; rw [if_neg h0, if_neg h1]
      clear h0 h1
      go_enter Tryz.func86, Tryz.ntmps86
      go_wp2
      go_ret
      rw [HE.out]
      exact ⟨rfl, HH2.out, HT2.out⟩
set_option maxHeartbeats 2000000 in
set_option maxRecDepth 100000 in
/-- get reads the head and the directory. -/
theorem rget_head (w : World) (t : Sf.St) (b : Nat) (vf vs vr vu : Value) (h : w.heap[b]? = some (.cells (headC t vf vs vr vu) 53 (0, 0))) (B : Nat) (hv : Lv eK w B vu t.seen) (s : ByteArray) :
    Calls Tryz.prog 81 #[.pointer (some ⟨b, 0, none⟩), .string s] w (fun e w' => e = .returned (.tuple #[.int .i64 ((Sf.get t s).1 : Nat), .int .i64 ((Sf.get t s).2 : Nat)]) ∧ w = w') := by
  have d7 : w.cell? ⟨b, 7, none⟩ = some (.bool t.dead) := head_cell h rfl
  have d4 : w.cell? ⟨b, 4, none⟩ = some vu := head_cell h rfl
  have HV := Lib.hid hv
  have CF := Lib.hid (rfind_ent vu t.seen B w hv s)
  clear h
  cases hd : t.dead with
  | true =>
    have HE := Lib.hid (Sf.get_dead hd s)
    rw [hd] at d7
    clear hd hv
    go_enter Tryz.func81, Tryz.ntmps81
    go_wp2
    go_ret2
    rw [HE.out]
    exact ⟨rfl, rfl⟩
  | false =>
    rw [hd] at d7
    cases hp : Sf.place t.seen s with
    | none =>
      have HE : Hid (Sf.get t s = (0, 7)) := by
        unfold Hid Sf.get
        rw [hd, Sf.find_place, hp]
        rfl
      rw [hp] at CF
      clear hd hv hp
      go_enter Tryz.func81, Tryz.ntmps81
      go_wp2_with fail
      refine CF.out.mono ?_
      rintro e1 w1 ⟨rfl, rfl⟩
      have hneg : placeI none = -1 := rfl
      rw [hneg]
      clear CF
      go_wp2
      go_ret2
      rw [HE.out]
      exact ⟨rfl, rfl⟩
    | some i =>
      have hi : i < t.seen.length := by
        unfold Sf.place at hp
        exact (List.findIdx?_eq_some_iff_getElem.1 hp).1
      obtain ⟨A, c, e, hc1, hc2, _, _⟩ := hv
      subst e
      obtain ⟨bo, off, x, rfl, hbo, hx, hq, c0, c1⟩ := HV.out.ent_ hi
      have HE : Hid (Sf.get t s = (x.2, 0)) := by
        unfold Hid Sf.get
        rw [hd, Sf.find_place, hp]
        simp only [Bool.false_eq_true, if_false, Option.bind_some, hq, Option.map_some]
      have hsl : t.seen.length ≤ 9223372036854775807 := by simp only [maxLen] at hc2; omega
      have hii : (i : Int) < (t.seen.length : Int) := by omega
      have hi0 : ¬ (i : Int) < 0 := by omega
      have hi1 : (0 : Int) ≤ (i : Int) := by omega
      rw [hp] at CF
      clear hd hp hq hx hbo hc1 hc2
      go_enter Tryz.func81, Tryz.ntmps81
      go_wp2_with fail
      refine CF.out.mono ?_
      rintro e1 w1 ⟨rfl, rfl⟩
      have hpos : placeI (some i) = (i : Int) := rfl
      rw [hpos]
      clear CF
      go_wp2
      go_ret2
      rw [HE.out]
      exact ⟨rfl, rfl⟩
end Go.Proofs.YtmcbjcbnckpfkaaGreat
namespace Go.Proofs.YtmcbjcbnckpfkaaGreat
open Go.RowKit
set_option linter.unusedVariables false
section
variable {w w' : World} {f : Fp} {t t' : Sf.St} {b : Nat} {vf vs vr vu : Value} {rf : List RawF} {rr : List Sl}
theorem Body.same (h : Body w f t vf vs vr vu rf rr) (h1 : t'.files = t.files) (h2 : t'.row = t.row) (h3 : t'.seen = t.seen) (h4 : t'.sure = t.sure) : Body w f t' vf vs vr vu rf rr where
  nfiles := by rw [h1]; exact h.nfiles
  files := h.files
  file := fun i x g hx hg => h.file i x g hx (by rw [← h1]; exact hg)
  filesM := h.filesM
  apart := h.apart
  nrow := by rw [h2]; exact h.nrow
  row := h.row
  rows := fun i u d hu hd => h.rows i u d hu (by rw [← h2]; exact hd)
  rowM := h.rowM
  seen := by rw [h3]; exact h.seen
  sure := by rw [h4]; exact h.sure
/-- The same files and directories; more acts, another fuse. -/
theorem Good.same (h : Good t) (h0 : t'.room = t.room) (h1 : t'.files = t.files) (h2 : t'.row = t.row) (h3 : t'.seen = t.seen) (h4 : t'.sure = t.sure) (ha : t.acts ≤ t'.acts) (hm : t'.acts ≤ 1099511627776) (hf : t'.fuse < 9223372036854775808) : Good t' where
  room := by rw [h0]; exact h.room
  files := by rw [h1]; have := h.files; omega
  rows := by rw [h2]; have := h.rows; omega
  acts := hm
  fuse := hf
  sure := by rw [h4, h1]; exact h.sure
  seen := by rw [h3, h1]; exact h.seen
  row := by rw [h2, h1]; exact h.row
  frow := by rw [h1]; exact fun g hg => Nat.le_trans (h.frow g hg) ha
  inv := ⟨by rw [h3]; exact h.inv.nums, by rw [h3, h1]; exact h.inv.lt⟩
/-- A list of the disk's own is not in its head's block. -/
theorem RHas.files_ne (h : RHas w f t b vf vs vr vu rf rr) : vf.ownBlock ≠ some b := own_kind h.body.files h.head (by decide)
theorem RHas.row_ne (h : RHas w f t b vf vs vr vu rf rr) : vr.ownBlock ≠ some b := own_kind h.body.row h.head (by decide)
theorem RHas.acts_ne (h : RHas w f t b vf vs vr vu rf rr) (i : Nat) (x : RawF) (hx : rf[i]? = some x) : (slV x.row).ownBlock ≠ some b := by
  have hi : i < t.files.length := by have := (List.getElem?_eq_some_iff.1 hx).1; have := h.body.nfiles; omega
  obtain ⟨ra, _, ho, _⟩ := (h.body.file i x _ hx (List.getElem?_eq_getElem hi)).acts
  exact own_kind ho h.head (by decide)
/-- The head is turned alone. -/
theorem RHas.turn_head (h : RHas w f t b vf vs vr vu rf rr) (hw : w'.heap[b]? = some (.cells (headC t' vf vs vr vu) 53 (0, 0))) (ht : Turned (fun k => k = b) w w') (h1 : t'.files = t.files) (h2 : t'.row = t.row) (h3 : t'.seen = t.seen) (h4 : t'.sure = t.sure) (hg : Good t') : RHas w' f t' b vf vs vr vu rf rr where
  head := hw
  body := (h.body.turned ht (fun k e hr => h.sep k (e ▸ h.mine) hr) (fun k hk e => h.files_ne (e ▸ hk)) (fun k hk e => h.row_ne (e ▸ hk)) (fun i x hx k hk e => h.acts_ne i x hx (e ▸ hk))).same h1 h2 h3 h4
  good := hg
  mine := h.mine
  lt := fun k hk => Nat.lt_of_lt_of_le (h.lt k hk) ht.size
  sep := h.sep
end
section
variable {w : World} {f : Fp} {t : Sf.St} {b : Nat}
set_option maxHeartbeats 2000000 in
set_option maxRecDepth 100000 in
theorem rarm_disk (h : RDiskM w f t b) (n : Int) (hn : I64 n) : Calls Tryz.prog 38 #[.pointer (some ⟨b, 0, none⟩), .int .i64 n] w (IsDeed RDiskM f b (Sf.arm t n) w) := by
  have HD := Lib.hid h
  obtain ⟨vf, vs, vr, vu, rf, rr, h⟩ := h
  have HH := Lib.hid h
  have d7 : w.cell? ⟨b, 7, none⟩ = some (.bool t.dead) := h.cell rfl
  have d6 : w.cell? ⟨b, 6, none⟩ = some (.int .i64 (t.fuse : Nat)) := h.cell rfl
  have z6 : w.frozen? ⟨b, 6, none⟩ = false := frozen_of_row w b 6 _ _ h.head
  clear h
  cases hd : t.dead with
  | true =>
    have HE : Hid (Sf.arm t n = (13, t)) := by unfold Hid Sf.arm; rw [hd]; rfl
    rw [hd] at d7
    clear hd
    go_enter Tryz.func38, Tryz.ntmps38
    go_wp2
    go_ret
    rw [HE.out]
    exact ⟨rfl, f, HD.out, Fp.Next.refl _ _, Turned.refl _ _⟩
  | false =>
    rw [hd] at d7
    by_cases h0 : n < 0
    · have HE : Hid (Sf.arm t n = (2, t)) := by unfold Hid Sf.arm; rw [hd, if_pos h0]; rfl
      clear hd
      go_enter Tryz.func38, Tryz.ntmps38
      go_wp2
      go_ret
      rw [HE.out]
      exact ⟨rfl, f, HD.out, Fp.Next.refl _ _, Turned.refl _ _⟩
    · have HE : Hid (Sf.arm t n = (0, { t with fuse := n.toNat })) := by unfold Hid Sf.arm; rw [hd, if_neg h0]; rfl
      have hnn : ((n.toNat : Nat) : Int) = n := by omega
      have h1 := head_set HH.out.head 6 (.int .i64 n) (C' := headC { t with fuse := n.toNat } vf vs vr vu) (by unfold headC; simp only [hnn]; rfl)
      have T1 : Turned (fun k => k = b) w (w.setCell ⟨b, 6, none⟩ (.int .i64 n)) := Turned.setCell (F := fun k => k = b) (Turned.refl (fun k => k = b) w) (p := ⟨b, 6, none⟩) (fun _ => rfl) _
      obtain ⟨w1, hw1⟩ : ∃ w1, w.setCell ⟨b, 6, none⟩ (.int .i64 n) = w1 := ⟨_, rfl⟩
      rw [hw1] at h1 T1
      have hfu : n.toNat < 9223372036854775808 := by unfold I64 at hn; omega
      have HX : Hid (RHas w1 f { t with fuse := n.toNat } b vf vs vr vu rf rr) := HH.out.turn_head h1 T1 rfl rfl rfl rfl (HH.out.good.same rfl rfl rfl rfl rfl (Nat.le_refl _) HH.out.good.acts hfu)
      have HT := Lib.hid (T1.mono (G := f.M) (fun k _ hk => hk ▸ HH.out.mine))
      clear hd h1 T1 hnn hfu
      go_enter Tryz.func38, Tryz.ntmps38
      go_wp2
      go_ret
      rw [HE.out]
      exact ⟨rfl, f, ⟨_, _, _, _, _, _, HX.out⟩, Fp.Next.refl _ _, HT.out⟩
end
end Go.Proofs.YtmcbjcbnckpfkaaGreat
namespace Go.Proofs.YtmcbjcbnckpfkaaGreat
open Go.RowKit
set_option linter.unusedVariables false
theorem blown_same (t : Sf.St) : (Sf.blown t).2.room = t.room ∧ (Sf.blown t).2.files = t.files ∧ (Sf.blown t).2.row = t.row ∧ (Sf.blown t).2.seen = t.seen ∧ (Sf.blown t).2.sure = t.sure ∧ (Sf.blown t).2.acts = t.acts + 1 ∧ (Sf.blown t).2.fuse ≤ t.fuse := by
  unfold Sf.blown
  split
  · exact ⟨rfl, rfl, rfl, rfl, rfl, rfl, Nat.le_refl _⟩
  · split
    · exact ⟨rfl, rfl, rfl, rfl, rfl, rfl, Nat.zero_le _⟩
    · exact ⟨rfl, rfl, rfl, rfl, rfl, rfl, Nat.sub_le _ _⟩
theorem Good.blown {t : Sf.St} (h : Good t) (hf : Sf.Few t) : Good (Sf.blown t).2 := by
  obtain ⟨h0, h1, h2, h3, h4, h5, h6⟩ := blown_same t
  unfold Sf.Few at hf
  have := h.fuse
  exact h.same h0 h1 h2 h3 h4 (by omega) (by omega) (by omega)
section
variable {w w' : World} {f : Fp} {t : Sf.St} {b : Nat} {vf vs vr vu : Value} {rf : List RawF} {rr : List Sl}
/-- blown, of a whole disk. -/
theorem RHas.blown (h : RHas w f t b vf vs vr vu rf rr) (hf : Sf.Few t) :
    Calls Tryz.prog 86 #[.pointer (some ⟨b, 0, none⟩)] w (fun e w' => e = .returned (.int .i64 ((Sf.blown t).1 : Nat)) ∧ RHas w' f (Sf.blown t).2 b vf vs vr vu rf rr ∧ Turned (fun k => k = b) w w') := by
  have ha := h.good.acts
  refine (rblown_head w t b vf vs vr vu h.head (by omega) h.good.fuse).mono ?_
  rintro e w1 ⟨rfl, hw, ht⟩
  obtain ⟨h0, h1, h2, h3, h4, h5, h6⟩ := blown_same t
  exact ⟨rfl, h.turn_head hw ht h1 h2 h3 h4 (h.good.blown hf), ht⟩
/-- The directory is made sure. -/
theorem RHas.sure_dir (h : RHas w f t b vf vs vr vu rf rr) (hw : w'.heap[b]? = some (.cells (headC t vf vu (.slice none 0 0) vu) 53 (0, 0))) (ht : Turned (fun k => k = b) w w') : RHas w' f { t with sure := t.seen, row := [] } b vf vu (.slice none 0 0) vu rf [] := by
  have B := h.body.turned ht (fun k e hr => h.sep k (e ▸ h.mine) hr) (fun k hk e => h.files_ne (e ▸ hk)) (fun k hk e => h.row_ne (e ▸ hk)) (fun i x hx k hk e => h.acts_ne i x hx (e ▸ hk))
  exact {
    head := hw
    body := { nfiles := B.nfiles, files := B.files, file := B.file, filesM := B.filesM, apart := B.apart, nrow := rfl, row := OwnL.nil_ _ _ _, rows := fun i u d hu => (by simp at hu), rowM := fun k hk => (by cases hk), seen := B.seen, sure := B.seen }
    good := { room := h.good.room, files := h.good.files, rows := Nat.zero_le _, acts := h.good.acts, fuse := h.good.fuse, sure := h.good.seen, seen := h.good.seen, row := fun d hd => (by cases hd), frow := h.good.frow, inv := ⟨h.good.inv.nums, h.good.inv.lt⟩ }
    mine := h.mine
    lt := fun k hk => Nat.lt_of_lt_of_le (h.lt k hk) ht.size
    sep := h.sep }
end
section
variable {w : World} {f : Fp} {t : Sf.St} {b : Nat}
set_option maxHeartbeats 2000000 in
set_option maxRecDepth 100000 in
theorem rsyncDir_disk (h : RDiskM w f t b) (hf : Sf.Few t) : Calls Tryz.prog 37 #[.pointer (some ⟨b, 0, none⟩)] w (IsDeed RDiskM f b (Sf.syncDir t) w) := by
  have HD := Lib.hid h
  obtain ⟨vf, vs, vr, vu, rf, rr, h⟩ := h
  obtain ⟨Au, cu, eu, _⟩ := h.body.seen.lv
  obtain ⟨nu, hnu⟩ : ∃ n, t.seen.length = n := ⟨_, rfl⟩
  rw [hnu] at eu
  subst eu
  have CB := Lib.hid (h.blown hf)
  have hm := h.mine
  have d7 : w.cell? ⟨b, 7, none⟩ = some (.bool t.dead) := h.cell rfl
  clear h
  cases hd : t.dead with
  | true =>
    have HE : Hid (Sf.syncDir t = (13, t)) := by unfold Hid Sf.syncDir; rw [hd]; rfl
    rw [hd] at d7
    clear hd CB
    go_enter Tryz.func37, Tryz.ntmps37
    go_wp2
    go_ret
    rw [HE.out]
    exact ⟨rfl, f, HD.out, Fp.Next.refl _ _, Turned.refl _ _⟩
  | false =>
    rw [hd] at d7
    have hsn := (blown_same t).2.2.2.1
    obtain ⟨r, t1, hbl⟩ : ∃ r t1, Sf.blown t = (r, t1) := ⟨_, _, rfl⟩
    replace hsn : t1.seen = t.seen := by rw [hbl] at hsn; exact hsn
    have HE : Hid (Sf.syncDir t = if r ≠ 0 then (r, t1) else (0, { t1 with sure := t1.seen, row := [] })) := by
      unfold Hid Sf.syncDir
      rw [hd, hbl, ← hsn]
      rfl
    rw [hbl] at CB
    clear hd hbl hsn
    by_cases h0 : r = 0
    · have hq : ((r : Int) == 0) = true := by rw [beq_iff_eq]; omega
      have HE2 : Hid (Sf.syncDir t = (0, { t1 with sure := t1.seen, row := [] })) := HE.out.trans (if_neg (by simpa using h0))
      have HR : Hid (r = 0) := h0
      clear HE h0
      go_enter Tryz.func37, Tryz.ntmps37
      go_wp2_with fail
      refine CB.out.mono ?_
      rintro e1 w1 ⟨rfl, hX, hT⟩
      have HX := Lib.hid hX
      have d4 : w1.cell? ⟨b, 4, none⟩ = some (.slice Au nu cu) := hX.cell rfl
      have d2 : w1.cell? ⟨b, 2, none⟩ = some vs := hX.cell rfl
      have z2 : w1.frozen? ⟨b, 2, none⟩ = false := frozen_of_row w1 b 2 _ _ hX.head
      have h2 := head_set hX.head 2 (.slice Au nu cu) (C' := headC t1 vf (.slice Au nu cu) vr (.slice Au nu cu)) rfl
      have T2 := Turned.setCell (F := fun k => k = b) (Turned.refl (fun k => k = b) w1) (p := ⟨b, 2, none⟩) (fun _ => rfl) (.slice Au nu cu)
      obtain ⟨w2, hw2⟩ : ∃ w2, w1.setCell ⟨b, 2, none⟩ (.slice Au nu cu) = w2 := ⟨_, rfl⟩
      rw [hw2] at h2 T2
      have d3 : w2.cell? ⟨b, 3, none⟩ = some vr := head_cell h2 rfl
      have z3 : w2.frozen? ⟨b, 3, none⟩ = false := frozen_of_row w2 b 3 _ _ h2
      have h3 := head_set h2 3 (.slice none 0 0) (C' := headC t1 vf (.slice Au nu cu) (.slice none 0 0) (.slice Au nu cu)) rfl
      have T3 := Turned.setCell (F := fun k => k = b) T2 (p := ⟨b, 3, none⟩) (fun _ => rfl) (.slice none 0 0)
      obtain ⟨w3, hw3⟩ : ∃ w3, w2.setCell ⟨b, 3, none⟩ (.slice none 0 0) = w3 := ⟨_, rfl⟩
      rw [hw3] at h3 T3
      have HY := Lib.hid (hX.sure_dir h3 T3)
      have HT := Lib.hid ((hT.trans T3 (fun k _ hk => hk)).mono (G := f.M) (fun k _ hk => hk ▸ hm))
      clear CB hX hT h2 T2 h3 T3
      go_wp2
      go_ret
      rw [HE2.out]
      exact ⟨by rw [HR.out]; rfl, f, ⟨_, _, _, _, _, _, HY.out⟩, Fp.Next.refl _ _, HT.out⟩
    · have hq : ((r : Int) == 0) = false := by rw [beq_eq_false_iff_ne]; omega
      have HE2 : Hid (Sf.syncDir t = (r, t1)) := HE.out.trans (if_pos h0)
      clear HE h0
      go_enter Tryz.func37, Tryz.ntmps37
      go_wp2_with fail
      refine CB.out.mono ?_
      rintro e1 w1 ⟨rfl, hX, hT⟩
      have HX := Lib.hid hX
      have HT := Lib.hid (hT.mono (G := f.M) (fun k _ hk => hk ▸ hm))
      clear CB hX hT
      go_wp2
      go_ret
      rw [HE2.out]
      exact ⟨rfl, f, ⟨_, _, _, _, _, _, HX.out⟩, Fp.Next.refl _ _, HT.out⟩
end
end Go.Proofs.YtmcbjcbnckpfkaaGreat
