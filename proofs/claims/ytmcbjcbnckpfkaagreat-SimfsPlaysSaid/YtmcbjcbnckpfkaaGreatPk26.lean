/-
  RSfN: stookref14: a disk as it lies in memory.
  RSfO: stookref14: blown, Arm, get.
  RSfQ: stookref14: a head that is turned alone; Arm.
-/
import Derived.Test.YtmcbjcbnckpfkaaGreatPk25
import Derived.Test.YtmcbjcbnckpfkaaGreatPk13
import Derived.BigRegion
namespace Go.Proofs.YtmcbjcbnckpfkaaGreat
open Go.RowKit
set_option linter.unusedVariables false
/-- A slice that reads as a list, in a block of a set. -/
structure Rd {P : Program} {α : Type} (K : El P α) (w : World) (R : Nat → Prop) (v : Value) (l : List α) : Prop where
  lv : Lv K w w.heap.size v l
  blk : 0 < l.length → ∀ k, v.ownBlock = some k → R k
section
variable {P : Program} {α : Type} {K : El P α} {w w' : World} {R R' F : Nat → Prop} {v : Value} {l : List α}
theorem Rd.turned (h : Rd K w R v l) (ht : Turned F w w') (hF : ∀ k, F k → ¬ R k) : Rd K w' R v l :=
  ⟨(h.lv.turnedB_ ht (fun hp k hk hf => hF k hf (h.blk hp k hk))).mono_ ht.size, h.blk⟩
theorem Rd.mono (h : Rd K w R v l) (hR : ∀ k, R k → R' k) : Rd K w R' v l := ⟨h.lv, fun hp k hk => hR k (h.blk hp k hk)⟩
theorem Rd.of_own {n : Nat} (h : OwnL K w n v l) (hR : ∀ k, n ≤ k → k < w.heap.size → R k) : Rd K w R v l := ⟨h.form_, fun _ k hk => hR k (h.lt_ k hk).1 (h.lt_ k hk).2⟩
theorem Rd.nil_ (w : World) (R : Nat → Prop) : Rd K w R (.slice none 0 0) [] := ⟨Lv.nil_ _ _ _, fun h => by simp at h⟩
end
/-- A file of a disk. -/
structure HasFile (w : World) (fp : Fp) (x : RawF) (f : Sf.File) : Prop where
  sure : Rd yK w fp.R (slV x.sure) f.sure
  acts : ∃ ra : List RawA, ra.length = f.row.length ∧ OwnL aK w 0 (slV x.row) ra ∧ ∀ (i : Nat) (r : RawA) (a : Sf.Act), ra[i]? = some r → f.row[i]? = some a → r.cut = a.cut ∧ r.at_ = a.at_ ∧ Rd yK w fp.R (slV r.sl) a.b
  mine : ∀ k, (slV x.row).ownBlock = some k → fp.M k
  ok : FileOk f
theorem HasFile.turned {w w' : World} {fp : Fp} {x : RawF} {f : Sf.File} {F : Nat → Prop} (h : HasFile w fp x f) (ht : Turned F w w') (hR : ∀ k, F k → ¬ fp.R k) (hM : ∀ k, (slV x.row).ownBlock = some k → ¬ F k) : HasFile w' fp x f := by
  obtain ⟨h1, ⟨ra, h2, h3, h4⟩, h5, h6⟩ := h
  exact ⟨h1.turned ht hR, ⟨ra, h2, h3.turned_ ht hM, fun i r a hr ha => ⟨(h4 i r a hr ha).1, (h4 i r a hr ha).2.1, (h4 i r a hr ha).2.2.turned ht hR⟩⟩, h5, h6⟩
theorem HasFile.read {w : World} {fp : Fp} {x : RawF} {f : Sf.File} (h : HasFile w fp x f) : FileV w w.heap.size x f := by
  obtain ⟨h1, ⟨ra, h2, h3, h4⟩, _, _⟩ := h
  exact ⟨h1.lv, ra, h2, h3.form_, fun i r a hr ha => ⟨(h4 i r a hr ha).1, (h4 i r a hr ha).2.1, (h4 i r a hr ha).2.2.lv⟩⟩
/-- The files and the directories of a disk. -/
structure Body (w : World) (fp : Fp) (t : Sf.St) (vf vs vr vu : Value) (rf : List RawF) (rr : List Sl) : Prop where
  nfiles : rf.length = t.files.length
  files : OwnL fK w 0 vf rf
  file : ∀ (i : Nat) (x : RawF) (f : Sf.File), rf[i]? = some x → t.files[i]? = some f → HasFile w fp x f
  filesM : ∀ k, vf.ownBlock = some k → fp.M k
  apart : ∀ (i j : Nat) (x y : RawF), i ≠ j → rf[i]? = some x → rf[j]? = some y → Apart (slV x.row) (slV y.row)
  nrow : rr.length = t.row.length
  row : OwnL rK w 0 vr rr
  rows : ∀ (i : Nat) (u : Sl) (d : Sf.Dir), rr[i]? = some u → t.row[i]? = some d → Rd eK w fp.R (slV u) d
  rowM : ∀ k, vr.ownBlock = some k → fp.M k
  seen : Rd eK w fp.R vu t.seen
  sure : Rd eK w fp.R vs t.sure
theorem Body.turned {w w' : World} {fp : Fp} {t : Sf.St} {vf vs vr vu : Value} {rf : List RawF} {rr : List Sl} {F : Nat → Prop} (h : Body w fp t vf vs vr vu rf rr) (ht : Turned F w w') (hR : ∀ k, F k → ¬ fp.R k)
    (hf : ∀ k, vf.ownBlock = some k → ¬ F k) (hr : ∀ k, vr.ownBlock = some k → ¬ F k) (ha : ∀ (i : Nat) (x : RawF), rf[i]? = some x → ∀ k, (slV x.row).ownBlock = some k → ¬ F k) : Body w' fp t vf vs vr vu rf rr where
  nfiles := h.nfiles
  files := h.files.turned_ ht hf
  file := fun i x f hx hq => (h.file i x f hx hq).turned ht hR (ha i x hx)
  filesM := h.filesM
  apart := h.apart
  nrow := h.nrow
  row := h.row.turned_ ht hr
  rows := fun i u d hu hd => (h.rows i u d hu hd).turned ht hR
  rowM := h.rowM
  seen := h.seen.turned ht hR
  sure := h.sure.turned ht hR
/-- What may be: numbers of files that are there, few names, no more than there is room for. -/
structure Good (t : Sf.St) : Prop where
  room : t.room ≤ 1048576
  files : t.files.length ≤ 64 + t.acts
  rows : t.row.length ≤ t.acts
  acts : t.acts ≤ 1099511627776
  fuse : t.fuse < 9223372036854775808
  sure : t.sure.length ≤ 64 ∧ ∀ e ∈ t.sure, e.2 < t.files.length
  seen : t.seen.length ≤ 64 ∧ ∀ e ∈ t.seen, e.2 < t.files.length
  row : ∀ d ∈ t.row, d.length ≤ 64 ∧ ∀ e ∈ d, e.2 < t.files.length
  frow : ∀ f ∈ t.files, f.row.length ≤ t.acts
  inv : Sf.Inv t
def headC (t : Sf.St) (vf vs vr vu : Value) : Array Value := #[.int .i64 (t.room : Nat), vf, vs, vr, vu, .int .i64 (t.acts : Nat), .int .i64 (t.fuse : Nat), .bool t.dead]
structure RHas (w : World) (fp : Fp) (t : Sf.St) (b : Nat) (vf vs vr vu : Value) (rf : List RawF) (rr : List Sl) : Prop where
  head : w.heap[b]? = some (.cells (headC t vf vs vr vu) 53 (0, 0))
  body : Body w fp t vf vs vr vu rf rr
  good : Good t
  mine : fp.M b
  lt : fp.Lt w.heap.size
  sep : ∀ k, fp.M k → ¬ fp.R k
def RDiskM (w : World) (fp : Fp) (t : Sf.St) (b : Nat) : Prop := ∃ vf vs vr vu rf rr, RHas w fp t b vf vs vr vu rf rr
theorem rdiskM_lt {w : World} {f : Fp} {t : Sf.St} {b : Nat} (h : RDiskM w f t b) : f.Lt w.heap.size := by obtain ⟨_, _, _, _, _, _, h⟩ := h; exact h.lt
theorem rdiskM_sep {w : World} {f : Fp} {t : Sf.St} {b : Nat} (h : RDiskM w f t b) : ∀ k, f.M k → ¬ f.R k := by obtain ⟨_, _, _, _, _, _, h⟩ := h; exact h.sep
theorem Body.rowMs {w : World} {fp : Fp} {t : Sf.St} {vf vs vr vu : Value} {rf : List RawF} {rr : List Sl} (h : Body w fp t vf vs vr vu rf rr) (i : Nat) (x : RawF) (hx : rf[i]? = some x) (k : Nat) (hk : (slV x.row).ownBlock = some k) : fp.M k := by
  have hi : i < t.files.length := by have := (List.getElem?_eq_some_iff.1 hx).1; have := h.nfiles; omega
  exact (h.file i x _ hx (List.getElem?_eq_getElem hi)).mine k hk
theorem rdiskM_turned {w w' : World} {f : Fp} {t : Sf.St} {b : Nat} {F : Nat → Prop} (h : RDiskM w f t b) (ht : Turned F w w') (hF : f.Off F) : RDiskM w' f t b := by
  obtain ⟨vf, vs, vr, vu, rf, rr, h⟩ := h
  have hb : b < w.heap.size := h.lt b (.inl h.mine)
  refine ⟨vf, vs, vr, vu, rf, rr, (ht.block b hb (fun hf => (hF b hf).1 h.mine)).trans h.head, ?_, h.good, h.mine, fun k hk => Nat.lt_of_lt_of_le (h.lt k hk) ht.size, h.sep⟩
  exact h.body.turned ht (fun k hk => (hF k hk).2) (fun k hk hf => (hF k hf).1 (h.body.filesM k hk)) (fun k hk hf => (hF k hf).1 (h.body.rowM k hk)) (fun i x hx k hk hf => (hF k hf).1 (h.body.rowMs i x hx k hk))
theorem rdiskM_law : DiskLaw RDiskM := ⟨rdiskM_lt, rdiskM_turned, rdiskM_sep⟩
/-- A list of one's own is in no block of another kind. -/
theorem own_kind {P : Program} {α : Type} {K : El P α} {w : World} {base b : Nat} {v : Value} {l : List α} {cs : Array Value} {T : TypeId} {fr : Nat × Nat} (h : OwnL K w base v l) (hb : w.heap[b]? = some (.cells cs T fr)) (hT : T ≠ K.e) : v.ownBlock ≠ some b := by
  intro e
  rcases h.2 with ⟨rfl, _⟩ | ⟨g, s, rfl, _, _, _, hh⟩
  · cases e
  · have eg : g = b := Option.some.inj e
    subst eg
    rw [hb] at hh
    injection hh with hh
    injection hh with _ hh _
    exact hT hh
section
variable {w : World} {f : Fp} {t : Sf.St} {b : Nat}
theorem RHas.cell {vf vs vr vu : Value} {rf : List RawF} {rr : List Sl} (h : RHas w f t b vf vs vr vu rf rr) {j : Nat} {u : Value} (hj : (headC t vf vs vr vu)[j]? = some u) : w.cell? ⟨b, j, none⟩ = some u := by
  rw [cell_of_row _ b j _ _ _ h.head]
  exact hj
set_option maxHeartbeats 1000000 in
set_option maxRecDepth 100000 in
theorem racts_disk (h : RDiskM w f t b) : Calls Tryz.prog 47 #[.pointer (some ⟨b, 0, none⟩)] w (IsNum t.acts w) := by
  obtain ⟨vf, vs, vr, vu, rf, rr, h⟩ := h
  have h5 : w.cell? ⟨b, 5, none⟩ = some (.int .i64 (t.acts : Nat)) := h.cell rfl
  clear h
  go_enter Tryz.func47, Tryz.ntmps47
  go_wp2
  go_ret
  exact ⟨rfl, Below.refl _ _⟩
set_option maxHeartbeats 1000000 in
set_option maxRecDepth 100000 in
theorem rdead_disk (h : RDiskM w f t b) : Calls Tryz.prog 49 #[.pointer (some ⟨b, 0, none⟩)] w (IsBool t.dead w) := by
  obtain ⟨vf, vs, vr, vu, rf, rr, h⟩ := h
  have h7 : w.cell? ⟨b, 7, none⟩ = some (.bool t.dead) := h.cell rfl
  clear h
  go_enter Tryz.func49, Tryz.ntmps49
  go_wp2
  go_ret
  exact ⟨rfl, Below.refl _ _⟩
set_option maxHeartbeats 1000000 in
set_option maxRecDepth 100000 in
theorem rroom_disk (h : RDiskM w f t b) : Calls Tryz.prog 45 #[.pointer (some ⟨b, 0, none⟩)] w (IsNum (Sf.roomOf t) w) := by
  obtain ⟨vf, vs, vr, vu, rf, rr, h⟩ := h
  have h7 : w.cell? ⟨b, 7, none⟩ = some (.bool t.dead) := h.cell rfl
  have h0 : w.cell? ⟨b, 0, none⟩ = some (.int .i64 (t.room : Nat)) := h.cell rfl
  clear h
  cases hd : t.dead with
  | true =>
    have HR : Hid (Sf.roomOf t = 0) := by unfold Hid Sf.roomOf; rw [hd]; rfl
    rw [hd] at h7
    clear hd
    go_enter Tryz.func45, Tryz.ntmps45
    go_wp2
    go_ret
    exact ⟨by rw [HR.out]; rfl, Below.refl _ _⟩
  | false =>
    have HR : Hid (Sf.roomOf t = t.room) := by unfold Hid Sf.roomOf; rw [hd]; rfl
    rw [hd] at h7
    clear hd
    go_enter Tryz.func45, Tryz.ntmps45
    go_wp2
    go_ret
    exact ⟨by rw [HR.out]; rfl, Below.refl _ _⟩
end
end Go.Proofs.YtmcbjcbnckpfkaaGreat
namespace Go.Proofs.YtmcbjcbnckpfkaaGreat
open Go.RowKit
set_option linter.unusedVariables false
theorem head_cell {w : World} {b : Nat} {C : Array Value} (h : w.heap[b]? = some (.cells C 53 (0, 0))) {j : Nat} {u : Value} (hj : C[j]? = some u) : w.cell? ⟨b, j, none⟩ = some u := by
  rw [cell_of_row _ b j _ _ _ h]; exact hj
theorem head_set {w : World} {b : Nat} {C C' : Array Value} (h : w.heap[b]? = some (.cells C 53 (0, 0))) (j : Nat) (u : Value) (hC : C.set! j u = C') : (w.setCell ⟨b, j, none⟩ u).heap[b]? = some (.cells C' 53 (0, 0)) := by
  rw [heap_setCell_same w b j _ _ u h, ← hC]
  rfl
set_option maxHeartbeats 2000000 in
set_option maxRecDepth 100000 in
theorem rblown_head (w : World) (t : Sf.St) (b : Nat) (vf vs vr vu : Value) (h : w.heap[b]? = some (.cells (headC t vf vs vr vu) 53 (0, 0))) (ha : t.acts ≤ 4398046511104) (hf : t.fuse < 9223372036854775808) :
    Calls Tryz.prog 86 #[.pointer (some ⟨b, 0, none⟩)] w (fun e w' => e = .returned (.int .i64 ((Sf.blown t).1 : Nat)) ∧ w'.heap[b]? = some (.cells (headC (Sf.blown t).2 vf vs vr vu) 53 (0, 0)) ∧ Turned (fun k => k = b) w w') := by
  have d5 : w.cell? ⟨b, 5, none⟩ = some (.int .i64 (t.acts : Nat)) := head_cell h rfl
  have z5 : w.frozen? ⟨b, 5, none⟩ = false := frozen_of_row w b 5 _ _ h
  have wa : IntKind.i64.wrap ((t.acts : Int) + 1) = (t.acts : Int) + 1 := by rw [IntKind.wrap_i64]; omega
  have na : ((t.acts + 1 : Nat) : Int) = (t.acts : Int) + 1 := by omega
  have h1 := head_set h 5 (.int .i64 ((t.acts : Int) + 1)) (C' := headC { t with acts := t.acts + 1 } vf vs vr vu) (by unfold headC; rw [← na]; rfl)
  have T1 : Turned (fun k => k = b) w (w.setCell ⟨b, 5, none⟩ (.int .i64 ((t.acts : Int) + 1))) := Turned.setCell (F := fun k => k = b) (Turned.refl (fun k => k = b) w) (p := ⟨b, 5, none⟩) (fun _ => rfl) _
  obtain ⟨w1, hw1⟩ : ∃ w1, w.setCell ⟨b, 5, none⟩ (.int .i64 ((t.acts : Int) + 1)) = w1 := ⟨_, rfl⟩
  rw [hw1] at h1 T1
  have d6 : w1.cell? ⟨b, 6, none⟩ = some (.int .i64 (t.fuse : Nat)) := head_cell h1 rfl
  have z6 : w1.frozen? ⟨b, 6, none⟩ = false := frozen_of_row w1 b 6 _ _ h1
  have HH1 := Lib.hid h1
  have HT1 := Lib.hid T1
  clear h h1 T1 na
  by_cases h0 : t.fuse = 0
  · have hz : ¬ (0 : Int) < (t.fuse : Int) := by omega
    have HE : Hid (Sf.blown t = (0, { t with acts := t.acts + 1 })) := if_pos h0
    clear h0
    go_enter Tryz.func86, Tryz.ntmps86
    go_wp2
    go_ret
    rw [HE.out]
    exact ⟨rfl, HH1.out, HT1.out⟩
  · have hz : (0 : Int) < (t.fuse : Int) := by omega
    have wf : IntKind.i64.wrap ((t.fuse : Int) - 1) = (t.fuse : Int) - 1 := by rw [IntKind.wrap_i64]; omega
    have nf : ((t.fuse - 1 : Nat) : Int) = (t.fuse : Int) - 1 := by omega
    have h2 := head_set HH1.out 6 (.int .i64 ((t.fuse : Int) - 1)) (C' := headC { t with acts := t.acts + 1, fuse := t.fuse - 1 } vf vs vr vu) (by unfold headC; rw [← nf]; rfl)
    have T2 := Turned.setCell (F := fun k => k = b) HT1.out (p := ⟨b, 6, none⟩) (fun _ => rfl) (.int .i64 ((t.fuse : Int) - 1))
    obtain ⟨w2, hw2⟩ : ∃ w2, w1.setCell ⟨b, 6, none⟩ (.int .i64 ((t.fuse : Int) - 1)) = w2 := ⟨_, rfl⟩
    rw [hw2] at h2 T2
    have d62 : w2.cell? ⟨b, 6, none⟩ = some (.int .i64 ((t.fuse : Int) - 1)) := by rw [← nf]; exact head_cell h2 rfl
    have d72 : w2.cell? ⟨b, 7, none⟩ = some (.bool t.dead) := head_cell h2 rfl
    have z7 : w2.frozen? ⟨b, 7, none⟩ = false := frozen_of_row w2 b 7 _ _ h2
    have HH2 := Lib.hid h2
    have HT2 := Lib.hid T2
    clear h2 T2 nf
    by_cases h1 : t.fuse = 1
    · have hq : ((t.fuse : Int) - 1 == 0) = true := by rw [beq_iff_eq]; omega
      have HE : Hid (Sf.blown t = (13, { t with acts := t.acts + 1, fuse := 0, dead := true })) := by unfold Hid Sf.blown; rw [if_neg h0, if_pos h1]
      have h3 := head_set HH2.out 7 (.bool true) (C' := headC { t with acts := t.acts + 1, fuse := 0, dead := true } vf vs vr vu) (by unfold headC; simp only [h1]; rfl)
      have T3 := Turned.setCell (F := fun k => k = b) HT2.out (p := ⟨b, 7, none⟩) (fun _ => rfl) (.bool true)
      have HH3 := Lib.hid h3
      have HT3 := Lib.hid T3
      clear h0 h1 h3 T3
      go_enter Tryz.func86, Tryz.ntmps86
      go_wp2
      go_ret
      rw [HE.out]
      exact ⟨rfl, HH3.out, HT3.out⟩
    · have hq : ((t.fuse : Int) - 1 == 0) = false := by rw [beq_eq_false_iff_ne]; omega
      have HE : Hid (Sf.blown t = (0, { t with acts := t.acts + 1, fuse := t.fuse - 1 })) := by unfold Hid Sf.blown; rw [if_neg h0, if_neg h1]
      clear h0 h1
      go_enter Tryz.func86, Tryz.ntmps86
      go_wp2
      go_ret
      rw [HE.out]
      exact ⟨rfl, HH2.out, HT2.out⟩
set_option maxHeartbeats 2000000 in
set_option maxRecDepth 100000 in
/-- get reads the head and the directory. -/
theorem rget_head (w : World) (t : Sf.St) (b : Nat) (vf vs vr vu : Value) (h : w.heap[b]? = some (.cells (headC t vf vs vr vu) 53 (0, 0))) (B : Nat) (hv : Lv eK w B vu t.seen) (s : ByteArray) :
    Calls Tryz.prog 81 #[.pointer (some ⟨b, 0, none⟩), .string s] w (fun e w' => e = .returned (.tuple #[.int .i64 ((Sf.get t s).1 : Nat), .int .i64 ((Sf.get t s).2 : Nat)]) ∧ w = w') := by
  have d7 : w.cell? ⟨b, 7, none⟩ = some (.bool t.dead) := head_cell h rfl
  have d4 : w.cell? ⟨b, 4, none⟩ = some vu := head_cell h rfl
  have HV := Lib.hid hv
  have CF := Lib.hid (rfind_ent vu t.seen B w hv s)
  clear h
  cases hd : t.dead with
  | true =>
    have HE := Lib.hid (Sf.get_dead hd s)
    rw [hd] at d7
    clear hd hv
    go_enter Tryz.func81, Tryz.ntmps81
    go_wp2
    go_ret2
    rw [HE.out]
    exact ⟨rfl, rfl⟩
  | false =>
    rw [hd] at d7
    cases hp : Sf.place t.seen s with
    | none =>
      have HE : Hid (Sf.get t s = (0, 7)) := by
        unfold Hid Sf.get
        rw [hd, Sf.find_place, hp]
        rfl
      rw [hp] at CF
      clear hd hv hp
      go_enter Tryz.func81, Tryz.ntmps81
      go_wp2_with fail
      refine CF.out.mono ?_
      rintro e1 w1 ⟨rfl, rfl⟩
      have hneg : placeI none = -1 := rfl
      rw [hneg]
      clear CF
      go_wp2
      go_ret2
      rw [HE.out]
      exact ⟨rfl, rfl⟩
    | some i =>
      have hi : i < t.seen.length := by
        unfold Sf.place at hp
        exact (List.findIdx?_eq_some_iff_getElem.1 hp).1
      obtain ⟨A, c, e, hc1, hc2, _, _⟩ := hv
      subst e
      obtain ⟨bo, off, x, rfl, hbo, hx, hq, c0, c1⟩ := HV.out.ent_ hi
      have HE : Hid (Sf.get t s = (x.2, 0)) := by
        unfold Hid Sf.get
        rw [hd, Sf.find_place, hp]
        simp only [Bool.false_eq_true, if_false, Option.bind_some, hq, Option.map_some]
      have hsl : t.seen.length ≤ 9223372036854775807 := by simp only [maxLen] at hc2; omega
      have hii : (i : Int) < (t.seen.length : Int) := by omega
      have hi0 : ¬ (i : Int) < 0 := by omega
      have hi1 : (0 : Int) ≤ (i : Int) := by omega
      rw [hp] at CF
      clear hd hp hq hx hbo hc1 hc2
      go_enter Tryz.func81, Tryz.ntmps81
      go_wp2_with fail
      refine CF.out.mono ?_
      rintro e1 w1 ⟨rfl, rfl⟩
      have hpos : placeI (some i) = (i : Int) := rfl
      rw [hpos]
      clear CF
      go_wp2
      go_ret2
      rw [HE.out]
      exact ⟨rfl, rfl⟩
end Go.Proofs.YtmcbjcbnckpfkaaGreat
namespace Go.Proofs.YtmcbjcbnckpfkaaGreat
open Go.RowKit
set_option linter.unusedVariables false
section
variable {w w' : World} {f : Fp} {t t' : Sf.St} {b : Nat} {vf vs vr vu : Value} {rf : List RawF} {rr : List Sl}
theorem Body.same (h : Body w f t vf vs vr vu rf rr) (h1 : t'.files = t.files) (h2 : t'.row = t.row) (h3 : t'.seen = t.seen) (h4 : t'.sure = t.sure) : Body w f t' vf vs vr vu rf rr where
  nfiles := by rw [h1]; exact h.nfiles
  files := h.files
  file := fun i x g hx hg => h.file i x g hx (by rw [← h1]; exact hg)
  filesM := h.filesM
  apart := h.apart
  nrow := by rw [h2]; exact h.nrow
  row := h.row
  rows := fun i u d hu hd => h.rows i u d hu (by rw [← h2]; exact hd)
  rowM := h.rowM
  seen := by rw [h3]; exact h.seen
  sure := by rw [h4]; exact h.sure
/-- The same files and directories; more acts, another fuse. -/
theorem Good.same (h : Good t) (h0 : t'.room = t.room) (h1 : t'.files = t.files) (h2 : t'.row = t.row) (h3 : t'.seen = t.seen) (h4 : t'.sure = t.sure) (ha : t.acts ≤ t'.acts) (hm : t'.acts ≤ 1099511627776) (hf : t'.fuse < 9223372036854775808) : Good t' where
  room := by rw [h0]; exact h.room
  files := by rw [h1]; have := h.files; omega
  rows := by rw [h2]; have := h.rows; omega
  acts := hm
  fuse := hf
  sure := by rw [h4, h1]; exact h.sure
  seen := by rw [h3, h1]; exact h.seen
  row := by rw [h2, h1]; exact h.row
  frow := by rw [h1]; exact fun g hg => Nat.le_trans (h.frow g hg) ha
  inv := ⟨by rw [h3]; exact h.inv.nums, by rw [h3, h1]; exact h.inv.lt⟩
/-- A list of the disk's own is not in its head's block. -/
theorem RHas.files_ne (h : RHas w f t b vf vs vr vu rf rr) : vf.ownBlock ≠ some b := own_kind h.body.files h.head (by decide)
theorem RHas.row_ne (h : RHas w f t b vf vs vr vu rf rr) : vr.ownBlock ≠ some b := own_kind h.body.row h.head (by decide)
theorem RHas.acts_ne (h : RHas w f t b vf vs vr vu rf rr) (i : Nat) (x : RawF) (hx : rf[i]? = some x) : (slV x.row).ownBlock ≠ some b := by
  have hi : i < t.files.length := by have := (List.getElem?_eq_some_iff.1 hx).1; have := h.body.nfiles; omega
  obtain ⟨ra, _, ho, _⟩ := (h.body.file i x _ hx (List.getElem?_eq_getElem hi)).acts
  exact own_kind ho h.head (by decide)
/-- The head is turned alone. -/
theorem RHas.turn_head (h : RHas w f t b vf vs vr vu rf rr) (hw : w'.heap[b]? = some (.cells (headC t' vf vs vr vu) 53 (0, 0))) (ht : Turned (fun k => k = b) w w') (h1 : t'.files = t.files) (h2 : t'.row = t.row) (h3 : t'.seen = t.seen) (h4 : t'.sure = t.sure) (hg : Good t') : RHas w' f t' b vf vs vr vu rf rr where
  head := hw
  body := (h.body.turned ht (fun k e hr => h.sep k (e ▸ h.mine) hr) (fun k hk e => h.files_ne (e ▸ hk)) (fun k hk e => h.row_ne (e ▸ hk)) (fun i x hx k hk e => h.acts_ne i x hx (e ▸ hk))).same h1 h2 h3 h4
  good := hg
  mine := h.mine
  lt := fun k hk => Nat.lt_of_lt_of_le (h.lt k hk) ht.size
  sep := h.sep
end
section
variable {w : World} {f : Fp} {t : Sf.St} {b : Nat}
set_option maxHeartbeats 2000000 in
set_option maxRecDepth 100000 in
theorem rarm_disk (h : RDiskM w f t b) (n : Int) (hn : I64 n) : Calls Tryz.prog 38 #[.pointer (some ⟨b, 0, none⟩), .int .i64 n] w (IsDeed RDiskM f b (Sf.arm t n) w) := by
  have HD := Lib.hid h
  obtain ⟨vf, vs, vr, vu, rf, rr, h⟩ := h
  have HH := Lib.hid h
  have d7 : w.cell? ⟨b, 7, none⟩ = some (.bool t.dead) := h.cell rfl
  have d6 : w.cell? ⟨b, 6, none⟩ = some (.int .i64 (t.fuse : Nat)) := h.cell rfl
  have z6 : w.frozen? ⟨b, 6, none⟩ = false := frozen_of_row w b 6 _ _ h.head
  clear h
  cases hd : t.dead with
  | true =>
    have HE : Hid (Sf.arm t n = (13, t)) := by unfold Hid Sf.arm; rw [hd]; rfl
    rw [hd] at d7
    clear hd
    go_enter Tryz.func38, Tryz.ntmps38
    go_wp2
    go_ret
    rw [HE.out]
    exact ⟨rfl, f, HD.out, Fp.Next.refl _ _, Turned.refl _ _⟩
  | false =>
    rw [hd] at d7
    by_cases h0 : n < 0
    · have HE : Hid (Sf.arm t n = (2, t)) := by unfold Hid Sf.arm; rw [hd, if_pos h0]; rfl
      clear hd
      go_enter Tryz.func38, Tryz.ntmps38
      go_wp2
      go_ret
      rw [HE.out]
      exact ⟨rfl, f, HD.out, Fp.Next.refl _ _, Turned.refl _ _⟩
    · have HE : Hid (Sf.arm t n = (0, { t with fuse := n.toNat })) := by unfold Hid Sf.arm; rw [hd, if_neg h0]; rfl
      have hnn : ((n.toNat : Nat) : Int) = n := by omega
      have h1 := head_set HH.out.head 6 (.int .i64 n) (C' := headC { t with fuse := n.toNat } vf vs vr vu) (by unfold headC; simp only [hnn]; rfl)
      have T1 : Turned (fun k => k = b) w (w.setCell ⟨b, 6, none⟩ (.int .i64 n)) := Turned.setCell (F := fun k => k = b) (Turned.refl (fun k => k = b) w) (p := ⟨b, 6, none⟩) (fun _ => rfl) _
      obtain ⟨w1, hw1⟩ : ∃ w1, w.setCell ⟨b, 6, none⟩ (.int .i64 n) = w1 := ⟨_, rfl⟩
      rw [hw1] at h1 T1
      have hfu : n.toNat < 9223372036854775808 := by unfold I64 at hn; omega
      have HX : Hid (RHas w1 f { t with fuse := n.toNat } b vf vs vr vu rf rr) := HH.out.turn_head h1 T1 rfl rfl rfl rfl (HH.out.good.same rfl rfl rfl rfl rfl (Nat.le_refl _) HH.out.good.acts hfu)
      have HT := Lib.hid (T1.mono (G := f.M) (fun k _ hk => hk ▸ HH.out.mine))
      clear hd h1 T1 hnn hfu
      go_enter Tryz.func38, Tryz.ntmps38
      go_wp2
      go_ret
      rw [HE.out]
      exact ⟨rfl, f, ⟨_, _, _, _, _, _, HX.out⟩, Fp.Next.refl _ _, HT.out⟩
end
end Go.Proofs.YtmcbjcbnckpfkaaGreat
