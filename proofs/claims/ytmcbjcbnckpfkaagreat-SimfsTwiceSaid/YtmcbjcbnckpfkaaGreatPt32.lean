/-
  RSfZ: stookref14: what is used is not too much; a file's bytes behind other calls.
  RSfCa: stookref14: a copy of a disk that is under way.
  RSfZd: stookref14: Sync.
-/
import Derived.Test.YtmcbjcbnckpfkaaGreatPt31
import Derived.Deep.RegionHeld3
namespace Go.Proofs.YtmcbjcbnckpfkaaGreat
open Go.RowKit
set_option linter.unusedVariables false
theorem Sf.lens_le {t : Sf.St} {d : Sf.Dir} (h : ∀ e ∈ d, Sf.len t e.2 ≤ 1048576) : Sf.lens t d ≤ d.length * 1048576 := by
  induction d with
  | nil => simp [Sf.lens]
  | cons x d ih =>
    have hc : Sf.lens t (x :: d) = Sf.len t x.2 + Sf.lens t d := by simp [Sf.lens]
    have h1 := h x (by simp)
    have h2 := ih (fun e he => h e (by simp [he]))
    rw [hc, List.length_cons, Nat.succ_mul]
    omega
section
variable {w w' : World} {f : Fp} {t : Sf.St} {b : Nat} {vf vs vr vu : Value} {rf : List RawF} {rr : List Sl}
theorem RHas.len_le (h : RHas w f t b vf vs vr vu rf rr) {n : Nat} (hn : n < t.files.length) : Sf.len t n ≤ 1048576 := by
  obtain ⟨_, _, _, x, _, _, _, _, _, _, hF⟩ := h.file_at hn
  have := hF.ok.len _ (Nat.le_refl _)
  rw [Sf.bytes_all] at this
  exact this
theorem RHas.used_le (h : RHas w f t b vf vs vr vu rf rr) : Sf.used t ≤ 67108864 := by
  unfold Sf.used
  split
  · omega
  · have h1 := Sf.lens_le (t := t) (d := t.seen) (fun e he => h.len_le (h.good.seen.2 e he))
    have h2 := h.good.seen.1
    have h3 : t.seen.length * 1048576 ≤ 64 * 1048576 := Nat.mul_le_mul_right _ h2
    omega
theorem RHas.disk_below (h : RHas w f t b vf vs vr vu rf rr) (hb : Below w.heap.size w w') : RDiskM w' f t b := ⟨_, _, _, _, _, _, h.below hb⟩
/-- now of a file, behind other calls. -/
theorem RHas.now_at (h : RHas w f t b vf vs vr vu rf rr) {n : Nat} (hn : n < t.files.length) :
    ∃ g cf, vf = .slice (some ⟨g, 0, none⟩) t.files.length cf ∧ g < w.heap.size ∧ t.files.length ≤ 9223372036854775807 ∧ ∀ w', Below w.heap.size w w' → Calls Tryz.prog 83 #[.pointer (some ⟨g, n * 2, none⟩)] w' (IsL1 yK (Sf.now (Sf.fileAt t n)) w') := by
  obtain ⟨g, off, cf, x, evf, hsl, hgl, hx, c0, c1, hF⟩ := h.file_at hn
  have hown := h.body.files
  rw [evf] at hown
  have hoff : off = 0 := by
    rcases hown.2 with ⟨e, _⟩ | ⟨g', s, e, _⟩
    · cases e
    · injection e with e1 e2 e3
      injection e1 with e1
      injection e1 with e1 e2
  subst hoff
  refine ⟨g, cf, evf, hgl, hsl, fun w' hb => ?_⟩
  obtain ⟨g2, off2, cf2, x2, evf2, _, hgl2, hx2, d0, d1, hF2⟩ := (h.below hb).file_at hn
  rw [evf] at evf2
  injection evf2 with e1 _ _
  injection e1 with e1
  injection e1 with e1 e2
  subst e1 e2
  rw [Nat.zero_add] at d0 d1
  exact rnow_file w' g (n * 2) w'.heap.size x2 (Sf.fileAt t n) hgl2 d0 d1 hF2.read (Nat.le_refl _) hF2.ok
end
end Go.Proofs.YtmcbjcbnckpfkaaGreat
namespace Go.Proofs.YtmcbjcbnckpfkaaGreat
open Go.RowKit
set_option linter.unusedVariables false
/-- A file and its copy: the same sure bytes, its own row. -/
def CopyRow (w wr : World) (f : Fp) (x y : RawF) (g : Sf.File) : Prop :=
  y.sure = x.sure ∧ ∃ ra : List RawA, ra.length = g.row.length ∧ OwnL aK wr w.heap.size (slV y.row) ra ∧ ∀ (i : Nat) (r : RawA) (a : Sf.Act), ra[i]? = some r → g.row[i]? = some a → r.cut = a.cut ∧ r.at_ = a.at_ ∧ Rd yK w f.R (slV r.sl) a.b
/-- A copy of which i files are there. -/
structure CopyIn (w wr : World) (f : Fp) (t : Sf.St) (ob : Nat) (vf vs vr vu : Value) (rf rf' : List RawF) (rr : List Sl) (i : Nat) : Prop where
  head : wr.heap[ob]? = some (.cells (headC t vf vs vr vu) 53 (0, 0))
  ob : w.heap.size ≤ ob
  files : OwnL fK wr w.heap.size vf rf'
  len : rf'.length = i
  each : ∀ (j : Nat) (x y : RawF) (g : Sf.File), rf[j]? = some x → rf'[j]? = some y → t.files[j]? = some g → CopyRow w wr f x y g
  apart : ∀ (j k : Nat) (x y : RawF), j ≠ k → rf'[j]? = some x → rf'[k]? = some y → Apart (slV x.row) (slV y.row)
  row : OwnL rK wr w.heap.size vr rr
  below : Below w.heap.size w wr
theorem CopyRow.lt {w wr : World} {f : Fp} {x y : RawF} {g : Sf.File} (h : CopyRow w wr f x y g) {k : Nat} (hk : (slV y.row).ownBlock = some k) : w.heap.size ≤ k ∧ k < wr.heap.size := by
  obtain ⟨_, ra, _, ho, _⟩ := h
  exact ho.lt_ k hk
theorem CopyRow.turned {w wr w' : World} {f : Fp} {x y : RawF} {g : Sf.File} {F : Nat → Prop} (h : CopyRow w wr f x y g) (ht : Turned F wr w') (hn : ∀ k, (slV y.row).ownBlock = some k → ¬ F k) : CopyRow w w' f x y g := by
  obtain ⟨h1, ra, h2, ho, h3⟩ := h
  exact ⟨h1, ra, h2, ho.turned_ ht hn, h3⟩
section
variable {w wr : World} {f : Fp} {t : Sf.St} {b ob : Nat} {vf vs vr vu vf0 vr0 : Value} {rf rf' : List RawF} {rr : List Sl} {i : Nat}
/-- What is new and not yet the copy's changes nothing of it. -/
theorem CopyIn.fresh (h : CopyIn w wr f t ob vf vs vr vu rf rf' rr i) {w1 : World} (hb : Below wr.heap.size wr w1) : CopyIn w w1 f t ob vf vs vr vu rf rf' rr i where
  head := (hb.block ob (Array.getElem?_eq_some_iff.1 h.head).1).trans h.head
  ob := h.ob
  files := h.files.below_ hb (Nat.le_refl _)
  len := h.len
  each := fun j x y g hx hy hg => (h.each j x y g hx hy hg).turned (Turned.of_below hb) (fun k hk hF => by have := ((h.each j x y g hx hy hg).lt hk).2; omega)
  apart := h.apart
  row := h.row.below_ hb (Nat.le_refl _)
  below := h.below.trans (hb.mono h.below.size)
/-- One more file. -/
theorem CopyIn.step (h : CopyIn w wr f t ob vf vs vr vu rf rf' rr i) {x : RawF} {g : Sf.File} (hx : rf[i]? = some x) (hg : t.files[i]? = some g) {s2 : Sl} {n0 : Nat}
    (hnew : CopyRow w wr f x ⟨x.sure, s2⟩ g) (hfar : ∀ k, (slV s2).ownBlock = some k → n0 ≤ k) (hold : ∀ (j : Nat) (y : RawF), rf'[j]? = some y → ∀ k, (slV y.row).ownBlock = some k → k < n0)
    {w5 w7 : World} {A : Option Addr} {c : Nat} (hA : OwnL fK w5 w.heap.size (.slice A (rf'.length + 1) c) (rf' ++ [⟨x.sure, s2⟩])) (hG : wr.grownBy w5 vf.ownBlock) (T7 : Turned (fun k => k = ob) w5 w7)
    (hw : w7.heap[ob]? = some (.cells (headC t (.slice A (rf'.length + 1) c) vs vr vu) 53 (0, 0))) (hAo : (Value.slice A (rf'.length + 1) c).ownBlock ≠ some ob) (hin : i < t.files.length) (hfl : rf.length = t.files.length) :
    CopyIn w w7 f t ob (.slice A (rf'.length + 1) c) vs vr vu rf (rf' ++ [⟨x.sure, s2⟩]) rr (i + 1) := by
  have T5 : Turned (fun k => vf.ownBlock = some k) wr w5 := Turned.of_grown hG
  have T : Turned (fun k => vf.ownBlock = some k ∨ k = ob) wr w7 := (T5.mono (G := fun k => vf.ownBlock = some k ∨ k = ob) (fun k _ hk => .inl hk)).trans (T7.mono (G := fun k => vf.ownBlock = some k ∨ k = ob) (fun k _ hk => .inr hk)) (fun k _ hk => hk)
  have hrow : ∀ {x y : RawF} {g : Sf.File}, CopyRow w wr f x y g → ∀ k, (slV y.row).ownBlock = some k → ¬ (vf.ownBlock = some k ∨ k = ob) := fun hc k hk e => by
    obtain ⟨_, ra, _, ho, _⟩ := hc
    rcases e with e | e
    · exact own_two ho h.files (by decide) hk e
    · exact own_kind ho h.head (by decide) (e ▸ hk)
  exact {
    head := hw
    ob := h.ob
    files := hA.turned_ T7 (fun k hk e => hAo (e ▸ hk))
    len := by rw [List.length_append, h.len]; rfl
    each := fun j x' y g' hx' hy hg' => by
      by_cases hj : j < rf'.length
      · rw [List.getElem?_append_left hj] at hy
        have hc := h.each j x' y g' hx' hy hg'
        exact hc.turned T (hrow hc)
      · have hl : j < (rf' ++ [(⟨x.sure, s2⟩ : RawF)]).length := (List.getElem?_eq_some_iff.1 hy).1
        have ej : j = rf'.length := by simp at hl; omega
        subst ej
        have ey : (⟨x.sure, s2⟩ : RawF) = y := by simpa using hy
        rw [h.len] at hx' hg'
        rw [hx] at hx'
        rw [hg] at hg'
        injection hx' with hx'
        injection hg' with hg'
        subst ey hx' hg'
        exact hnew.turned T (hrow hnew)
    apart := fun j k y z hjk hy hz => by
      by_cases hj : j < rf'.length
      · rw [List.getElem?_append_left hj] at hy
        by_cases hk : k < rf'.length
        · rw [List.getElem?_append_left hk] at hz
          exact h.apart j k y z hjk hy hz
        · have hl : k < (rf' ++ [(⟨x.sure, s2⟩ : RawF)]).length := (List.getElem?_eq_some_iff.1 hz).1
          have ek : k = rf'.length := by simp at hl; omega
          subst ek
          have ez : (⟨x.sure, s2⟩ : RawF) = z := by simpa using hz
          subst ez
          exact fun q h1 h2 => by have := hold j y hy q h1; have := hfar q h2; omega
      · have hl : j < (rf' ++ [(⟨x.sure, s2⟩ : RawF)]).length := (List.getElem?_eq_some_iff.1 hy).1
        have ej : j = rf'.length := by simp at hl; omega
        subst ej
        have ey : (⟨x.sure, s2⟩ : RawF) = y := by simpa using hy
        subst ey
        have hk : k < rf'.length := by
          have hl : k < (rf' ++ [(⟨x.sure, s2⟩ : RawF)]).length := (List.getElem?_eq_some_iff.1 hz).1
          simp at hl; omega
        rw [List.getElem?_append_left hk] at hz
        exact fun q h1 h2 => by have := hold k z hz q h2; have := hfar q h1; omega
    row := h.row.turned_ T (fun k hk e => e.elim (fun e => own_two h.files h.row (by decide) e hk) (fun e => own_kind h.row h.head (by decide) (e ▸ hk)))
    below := h.below.trans (T.below h.below.size (fun k hk => hk.elim (fun e => (h.files.lt_ k e).1) (fun e => e ▸ h.ob))) }
/-- All files are there. -/
theorem CopyIn.end_ (h : CopyIn w wr f t ob vf vs vr vu rf rf' rr i) (hi : i = rf.length) (h0 : RHas w f t b vf0 vs vr0 vu rf rr) :
    RHas wr ⟨fun k => w.heap.size ≤ k ∧ k < wr.heap.size, f.R⟩ t ob vf vs vr vu rf' rr := by
  have hR : ∀ k, w.heap.size ≤ k → ¬ f.R k := fun k hk hr => by have := h0.lt k (.inr hr); omega
  have T : Turned (fun k => w.heap.size ≤ k) w wr := Turned.of_below h.below
  exact {
    head := h.head
    body := {
      nfiles := by rw [h.len, hi]; exact h0.body.nfiles
      files := h.files.mono_ (Nat.zero_le _)
      file := fun j y g hy hg => by
        have hj : j < rf.length := by have := (List.getElem?_eq_some_iff.1 hy).1; have := h.len; omega
        obtain ⟨x, hx⟩ : ∃ x, rf[j]? = some x := ⟨_, List.getElem?_eq_getElem hj⟩
        have hc := h.each j x y g hx hy hg
        have hF := h0.body.file j x g hx hg
        have hlt : ∀ k, (slV y.row).ownBlock = some k → w.heap.size ≤ k ∧ k < wr.heap.size := fun k hk => hc.lt hk
        obtain ⟨h1, ra, h2, ho, h3⟩ := hc
        exact ⟨by rw [h1]; exact hF.sure.turned T hR, ⟨ra, h2, ho.mono_ (Nat.zero_le _), fun q r a hr ha => ⟨(h3 q r a hr ha).1, (h3 q r a hr ha).2.1, (h3 q r a hr ha).2.2.turned T hR⟩⟩, fun k hk => hlt k hk, hF.ok⟩
      filesM := fun k hk => h.files.lt_ k hk
      apart := h.apart
      nrow := h0.body.nrow
      row := h.row.mono_ (Nat.zero_le _)
      rows := fun q u d hu hd => (h0.body.rows q u d hu hd).turned T hR
      rowM := fun k hk => h.row.lt_ k hk
      seen := h0.body.seen.turned T hR
      sure := h0.body.sure.turned T hR }
    good := h0.good
    mine := ⟨h.ob, (Array.getElem?_eq_some_iff.1 h.head).1⟩
    lt := fun k hk => hk.elim (fun h => h.2) (fun hr => Nat.lt_of_lt_of_le (h0.lt k (.inr hr)) h.below.size)
    sep := fun k hk hr => hR k hk.1 hr }
end
end Go.Proofs.YtmcbjcbnckpfkaaGreat
namespace Go.Proofs.YtmcbjcbnckpfkaaGreat
open Go.RowKit
set_option linter.unusedVariables false
/-- A cell of an own list is not frozen. -/
theorem own_cool {P : Program} {α : Type} {K : El P α} {w : World} {base g j n c : Nat} {l : List α} (h : OwnL K w base (.slice (some ⟨g, 0, none⟩) n c) l) : w.frozen? ⟨g, j, none⟩ = false := by
  rcases h.2 with ⟨e, _⟩ | ⟨g', s, e, _, _, _, hh⟩
  · cases e
  · injection e with e1 e2 e3
    injection e1 with e1
    injection e1 with e1
    subst e1
    exact frozen_of_row w g _ _ _ hh
theorem cell_set_else (w : World) (g j k : Nat) (v : Value) (h : j ≠ k) : (w.setCell ⟨g, k, none⟩ v).cell? ⟨g, j, none⟩ = w.cell? ⟨g, j, none⟩ := by
  exact World.cell?_setCell_other w ⟨g, k, none⟩ ⟨g, j, none⟩ v (fun e => by injection e with _ e _; exact h e.symm)
section
variable {w : World} {f : Fp} {t : Sf.St} {b : Nat}
set_option maxHeartbeats 4000000 in
set_option maxRecDepth 100000 in
theorem rsync_disk (h : RDiskM w f t b) (hf : Sf.Few t) (s : ByteArray) :
    Calls Tryz.prog 36 #[.pointer (some ⟨b, 0, none⟩), .string s] w (IsDeed RDiskM f b (Sf.sync t s) w) := by
  have HD := Lib.hid h
  obtain ⟨vf, vs, vr, vu, rf, rr, h⟩ := h
  have CG := Lib.hid (rget_head w t b vf vs vr vu h.head w.heap.size h.body.seen.lv s)
  have CB := Lib.hid (h.blown hf)
  obtain ⟨k, er, hge⟩ : ∃ k er, Sf.get t s = (k, er) := ⟨_, _, rfl⟩
  have HE : Hid (Sf.sync t s = if er ≠ 0 then (er, t) else if (Sf.blown t).1 ≠ 0 then Sf.blown t else (0, { (Sf.blown t).2 with files := t.files.set k ⟨Sf.now (Sf.fileAt t k), []⟩ })) := by unfold Hid Sf.sync; rw [hge]
  rw [hge] at CG
  by_cases he : er = 0
  · have hq : ((er : Int) == 0) = true := by rw [beq_iff_eq]; omega
    have HE1 : Hid (Sf.sync t s = if (Sf.blown t).1 ≠ 0 then Sf.blown t else (0, { (Sf.blown t).2 with files := t.files.set k ⟨Sf.now (Sf.fileAt t k), []⟩ })) := HE.out.trans (if_neg (by simpa using he))
    rw [he] at hge
    have hk := get_lt h.good hge
    have hM : f.M b := h.mine
    have HM := Lib.hid hM
    obtain ⟨h0, h1, h2, h3, h4, h5, h6⟩ := blown_same t
    have HFS := Lib.hid h1
    obtain ⟨⟨e, t1⟩, hbl⟩ : ∃ x, Sf.blown t = x := ⟨_, rfl⟩
    rw [hbl] at CB HFS HE1
    have HKT : Hid (k < t.files.length) := hk
    have hl0 : t.files.length ≤ 9223372036854775807 := by obtain ⟨_, _, _, _, hsl, _⟩ := h.now_at hk; exact hsl
    clear HE he hge h h0 h1 h2 h3 h4 h5 h6 hbl hf hk hM
    by_cases h0 : e = 0
    · have hq2 : ((e : Int) == 0) = true := by rw [beq_iff_eq]; omega
      have HE2 : Hid (Sf.sync t s = (0, { t1 with files := t.files.set k ⟨Sf.now (Sf.fileAt t k), []⟩ })) := HE1.out.trans (if_neg (by simpa using h0))
      subst h0
      clear HE1
      go_enter Tryz.func36, Tryz.ntmps36
      go_wp2_with fail
      refine CG.out.mono ?_
      rintro e1 w1 ⟨rfl, rfl⟩
      clear CG
      go_wp2_with fail
      refine CB.out.mono ?_
      rintro e2 w2 ⟨rfl, hR, hT⟩
      have HH := Lib.hid hR
      have HT2 := Lib.hid hT
      have hk1 : k < t1.files.length := by rw [show t1.files = t.files from HFS.out]; exact HKT.out
      have HFA : Hid (Sf.fileAt t1 k = Sf.fileAt t k) := by unfold Hid Sf.fileAt; rw [show t1.files = t.files from HFS.out]
      obtain ⟨g, cf, evf, hgl, hsl, hnow⟩ := hR.now_at hk1
      obtain ⟨g2, off2, cf2, x, evf2, _, _, hx, d0, d1, _⟩ := hR.file_at hk1
      have eoff : g2 = g ∧ off2 = 0 := by
        rw [evf] at evf2
        injection evf2 with e1 _ _
        injection e1 with e1
        injection e1 with e1 e2
        exact ⟨e1.symm, e2.symm⟩
      obtain ⟨rfl, rfl⟩ := eoff
      rw [Nat.zero_add] at d0 d1
      have hc1 : w2.cell? ⟨b, 1, none⟩ = some (.slice (some ⟨g2, 0, none⟩) t1.files.length cf) := by have := hR.cell (j := 1) rfl; rw [evf] at this; exact this
      have hb : b < w2.heap.size := hR.lt b (.inl hR.mine)
      have HC : Hid (∀ w', Below w2.heap.size w2 w' → w'.cell? ⟨b, 1, none⟩ = some (.slice (some ⟨g2, 0, none⟩) t1.files.length cf) ∧ w'.cell? ⟨g2, k * 2, none⟩ = some (slV x.sure) ∧ w'.cell? ⟨g2, k * 2 + 1, none⟩ = some (slV x.row)) := fun w' hb' => ⟨(hb'.cell (p := ⟨b, 1, none⟩) hb).trans hc1, (hb'.cell (p := ⟨g2, k * 2, none⟩) hgl).trans d0, (hb'.cell (p := ⟨g2, k * 2 + 1, none⟩) hgl).trans d1⟩
      have HEV : Hid (vf = .slice (some ⟨g2, 0, none⟩) t1.files.length cf) := evf
      have HFO : Hid (∀ w', Below w2.heap.size w2 w' → OwnL fK w' 0 vf rf) := fun w' hb' => hR.body.files.below_ hb' (Nat.le_refl _)
      have HX := Lib.hid hx
      have HK1 := Lib.hid hk1
      have HNW := Lib.hid (hnow w2.drew (Below.refl _ _).drew)
      rw [HFA.out] at HNW
      have hki : (k : Int) < (t1.files.length : Int) := by omega
      have hk0 : (0 : Int) ≤ (k : Int) := by omega
      have hl1 : t1.files.length ≤ 9223372036854775807 := hsl
      have s0 := (HC.out w2.drew (Below.refl _ _).drew).1
      have HGL : Hid (g2 < w2.heap.size) := hgl
      clear CB hR hT evf evf2 hgl hnow hx d0 d1 hc1 hb hk1 hsl
      go_wp2
      refine wp_region_m (fun w' => w'.cell? ⟨b, 1, none⟩ = some (.slice (some ⟨g2, 0, none⟩) t1.files.length cf)) 14 (by kernel_rfl) ?_
      refine wpAnyM_take (i := 0) (v := ?_) rfl (by kernel_rfl) (by kernel_rfl) (by kernel_rfl) (by kernel_rfl) (fun _ _ _ h => h) s0 (Or.inl ⟨by rfl, (by intro w' hSw; go_simp; first | done | with_reducible rfl)⟩) ?_
      try simp only [Act.put, List.getElem_toArray, List.getElem_cons_zero, List.setIfInBounds_toArray, List.set_cons_zero, List.set_cons_succ]
      refine wpAnyM_take (i := 1) (v := ?_) rfl (by kernel_rfl) (by kernel_rfl) (by kernel_rfl) (by kernel_rfl) (fun _ _ _ h => h) s0 (Or.inl ⟨by rfl, (by intro w' hSw; go_simp; first | done | with_reducible rfl)⟩) ?_
      try simp only [Act.put, List.getElem_toArray, List.getElem_cons_succ, List.getElem_cons_zero, List.setIfInBounds_toArray, List.set_cons_zero, List.set_cons_succ]
      refine wpAnyM_take (i := 2) (v := ?_) rfl (by kernel_rfl) (by kernel_rfl) (by kernel_rfl) (by kernel_rfl) (fun _ _ _ h => h) s0 (Or.inl ⟨by rfl, (by intro w' hSw; go_simp; first | done | with_reducible rfl)⟩) ?_
      try simp only [Act.put, List.getElem_toArray, List.getElem_cons_succ, List.getElem_cons_zero, List.setIfInBounds_toArray, List.set_cons_zero, List.set_cons_succ]
      refine wpAnyM_take (i := 3) (v := ?_) rfl (by kernel_rfl) (by kernel_rfl) (by kernel_rfl) (by kernel_rfl) (fun _ _ _ h => h) s0 (Or.inl ⟨by rfl, (by intro w' hSw; go_simp; first | done | with_reducible rfl)⟩) ?_
      try simp only [Act.put, List.getElem_toArray, List.getElem_cons_succ, List.getElem_cons_zero, List.setIfInBounds_toArray, List.set_cons_zero, List.set_cons_succ]
      refine wpAnyM_take (i := 4) (v := ?_) rfl (by kernel_rfl) (by kernel_rfl) (by kernel_rfl) (by kernel_rfl) (fun _ _ _ h => h) s0 (Or.inl ⟨by rfl, (by intro w' hSw; go_simp; first | done | with_reducible rfl)⟩) ?_
      try simp only [Act.put, List.getElem_toArray, List.getElem_cons_succ, List.getElem_cons_zero, List.setIfInBounds_toArray, List.set_cons_zero, List.set_cons_succ]
      refine wpAnyM_take (i := 5) (v := ?_) rfl (by kernel_rfl) (by kernel_rfl) (by kernel_rfl) (by kernel_rfl) (fun _ _ _ h => h) s0 (Or.inl ⟨by rfl, (by intro w' hSw; go_simp; first | done | with_reducible rfl)⟩) ?_
      try simp only [Act.put, List.getElem_toArray, List.getElem_cons_succ, List.getElem_cons_zero, List.setIfInBounds_toArray, List.set_cons_zero, List.set_cons_succ]
      refine wpAnyM_take (i := 6) (v := ?_) rfl (by kernel_rfl) (by kernel_rfl) (by kernel_rfl) (by kernel_rfl) (fun _ _ _ h => h) s0 (Or.inl ⟨by rfl, (by intro w' hSw; go_simp; first | done | with_reducible rfl)⟩) ?_
      try simp only [Act.put, List.getElem_toArray, List.getElem_cons_succ, List.getElem_cons_zero, List.setIfInBounds_toArray, List.set_cons_zero, List.set_cons_succ]
      refine wpAnyM_take (i := 7) (v := ?_) rfl (by kernel_rfl) (by kernel_rfl) (by kernel_rfl) (by kernel_rfl) (fun _ _ _ h => h) s0 (Or.inl ⟨by rfl, (by intro w' hSw; go_simp; first | done | with_reducible rfl)⟩) ?_
      try simp only [Act.put, List.getElem_toArray, List.getElem_cons_succ, List.getElem_cons_zero, List.setIfInBounds_toArray, List.set_cons_zero, List.set_cons_succ]
      refine wpAnyM_take (i := 8) (v := ?_) rfl (by kernel_rfl) (by kernel_rfl) (by kernel_rfl) (by kernel_rfl) (fun _ _ _ h => h) s0 (Or.inl ⟨by rfl, (by intro w' hSw; go_simp; first | done | with_reducible rfl)⟩) ?_
      try simp only [Act.put, List.getElem_toArray, List.getElem_cons_succ, List.getElem_cons_zero, List.setIfInBounds_toArray, List.set_cons_zero, List.set_cons_succ]
      refine wpAnyM_take (i := 9) (v := ?_) rfl (by kernel_rfl) (by kernel_rfl) (by kernel_rfl) (by kernel_rfl) (fun _ _ _ h => h) s0 (Or.inl ⟨by rfl, (by intro w' hSw; go_simp; first | done | with_reducible rfl)⟩) ?_
      try simp only [Act.put, List.getElem_toArray, List.getElem_cons_succ, List.getElem_cons_zero, List.setIfInBounds_toArray, List.set_cons_zero, List.set_cons_succ]
      refine wpAnyM_take (i := 10) (v := ?_) rfl (by kernel_rfl) (by kernel_rfl) (by kernel_rfl) (by kernel_rfl) (fun _ _ _ h => h) s0 (Or.inl ⟨by rfl, (by intro w' hSw; go_simp; first | done | with_reducible rfl)⟩) ?_
      try simp only [Act.put, List.getElem_toArray, List.getElem_cons_succ, List.getElem_cons_zero, List.setIfInBounds_toArray, List.set_cons_zero, List.set_cons_succ]
      refine wpAnyM_next (i := 11) (by kernel_rfl) rfl (fun K hK => ?_)
      go_simp
      refine HNW.out.mono ?_
      rintro e4 w4 ⟨A4, c4, rfl, ho4, hb4⟩
      have hb24 : Below w2.heap.size w2 w4 := (Below.refl w2.heap.size w2).drew.trans hb4
      have HB4 := Lib.hid hb24
      have HO4 : Hid (OwnL yK w4 w2.heap.size (.slice A4 (Sf.now (Sf.fileAt t k)).length c4) (Sf.now (Sf.fileAt t k))) := ho4
      have s1 := (HC.out w4 hb24).1
      refine hK.out _ _ (.inr s1) ?_
      clear hK K HNW ho4 hb4 hb24
      try simp only [Act.put, List.getElem_toArray, List.getElem_cons_succ, List.getElem_cons_zero, List.setIfInBounds_toArray, List.set_cons_zero, List.set_cons_succ]
      refine wpAnyM_take (i := 12) (v := ?_) rfl (by kernel_rfl) (by kernel_rfl) (by kernel_rfl) (by kernel_rfl) (fun _ _ _ h => h) s1 (Or.inl ⟨by rfl, (by intro w' hSw; go_simp; first | done | with_reducible rfl)⟩) ?_
      try simp only [Act.put, List.getElem_toArray, List.getElem_cons_succ, List.getElem_cons_zero, List.setIfInBounds_toArray, List.set_cons_zero, List.set_cons_succ]
      refine wpAnyM_next (i := 13) (by kernel_rfl) rfl (fun K hK => ?_)
      go_simp
      refine hK.out _ _ (.inr s1) ?_
      clear hK K
      try simp only [Act.put, List.getElem_toArray, List.getElem_cons_succ, List.getElem_cons_zero, List.setIfInBounds_toArray, List.set_cons_zero, List.set_cons_succ]
      obtain ⟨l, hl⟩ : ∃ l, Sf.now (Sf.fileAt t k) = l := ⟨_, rfl⟩
      rw [hl] at HO4
      rw [hl]
      have HL := Lib.hid hl
      clear hl
      have hf4 := HFO.out w4 HB4.out
      rw [HEV.out] at hf4
      have z0 : w4.frozen? ⟨g2, k * 2, none⟩ = false := own_cool hf4
      have y0 := (HC.out w4 HB4.out).2.1
      obtain ⟨hf5, hG5⟩ := hf4.setc_ (j := 0) (x' := (⟨⟨A4, l.length, c4⟩, x.row⟩ : RawF)) (u := .slice A4 l.length c4) HX.out (by decide) rfl trivial
      have z1 : (w4.setCell ⟨g2, k * 2, none⟩ (.slice A4 l.length c4)).frozen? ⟨g2, k * 2 + 1, none⟩ = false := own_cool hf5
      have y1 : (w4.setCell ⟨g2, k * 2, none⟩ (.slice A4 l.length c4)).cell? ⟨g2, k * 2 + 1, none⟩ = some (slV x.row) := by rw [cell_set_else _ _ _ _ _ (by omega)]; exact (HC.out w4 HB4.out).2.2
      obtain ⟨hf6, hG6⟩ := hf5.setc_ (j := 1) (x' := (⟨⟨A4, l.length, c4⟩, ⟨none, 0, 0⟩⟩ : RawF)) (u := .slice none 0 0) (List.getElem?_set_self (List.getElem?_eq_some_iff.1 HX.out).1) (by decide) rfl trivial
      rw [List.set_set, ← HEV.out] at hf6
      have HF6 : Hid (OwnL fK ((w4.setCell ⟨g2, k * 2, none⟩ (.slice A4 l.length c4)).setCell ⟨g2, k * 2 + 1, none⟩ (.slice none 0 0)) 0 vf (rf.set k ⟨⟨A4, l.length, c4⟩, ⟨none, 0, 0⟩⟩)) := hf6
      have T6 : Turned (fun k => k = g2) w4 ((w4.setCell ⟨g2, k * 2, none⟩ (.slice A4 l.length c4)).setCell ⟨g2, k * 2 + 1, none⟩ (.slice none 0 0)) := Turned.setCell (F := fun k => k = g2) (Turned.setCell (F := fun k => k = g2) (Turned.refl (fun k => k = g2) w4) (p := ⟨g2, k * 2, none⟩) (fun _ => rfl) _) (p := ⟨g2, k * 2 + 1, none⟩) (fun _ => rfl) _
      have HT6 := Lib.hid T6
      obtain ⟨w5, hw5⟩ : ∃ w5, w4.setCell ⟨g2, k * 2, none⟩ (.slice A4 l.length c4) = w5 := ⟨_, rfl⟩
      rw [hw5] at HF6 HT6 z1 y1
      obtain ⟨w6, hw6⟩ : ∃ w6, w5.setCell ⟨g2, k * 2 + 1, none⟩ (.slice none 0 0) = w6 := ⟨_, rfl⟩
      rw [hw6] at HF6 HT6
      clear hf4 hf5 hf6 hG5 hG6 T6
      refine wpAnyM_next (i := 14) (by kernel_rfl) rfl (fun K hK => ?_)
      go_simp
      refine hK.out _ _ (.inl (Nat.le_refl _)) ?_
      clear hK K
      try simp only [Act.put, List.getElem_toArray, List.getElem_cons_succ, List.getElem_cons_zero, List.setIfInBounds_toArray, List.set_cons_zero, List.set_cons_succ]
      refine wpAnyM_done (by kernel_rfl) ?_ _
      clear z0 y0 z1 y1 hw5 hw6 s0 s1
      have T24 : Turned (fun k => k = g2) w4 w6 := HT6.out
      have T2 : Turned (fun k => k = g2) w2 w6 := ((Turned.of_below HB4.out).mono (G := fun k => k = g2) (fun k hk hs => absurd hs (by omega))).trans T24 (fun k _ hk => hk)
      obtain ⟨hRR, hTT⟩ := HH.out.sync_file HX.out HK1.out (sl := ⟨A4, l.length, c4⟩) (g := g2) (by rw [HEV.out]; rfl) (w7 := w6) (by rw [HFA.out, HL.out]; exact (HO4.out.turned_ T24 (fun k hk e => by have := (HO4.out.lt_ k hk).1; have := HGL.out; omega)).form_) (fun k hk => (HO4.out.lt_ k hk).1) (fun _ k hk => Nat.lt_of_lt_of_le (HO4.out.lt_ k hk).2 T24.size) HF6.out T2
      rw [HFA.out, HL.out] at hRR
      have HRR := Lib.hid hRR
      have HTT := Lib.hid hTT
      have HNX : Hid (∀ k, (Value.slice A4 l.length c4).ownBlock = some k → w.heap.size ≤ k) := fun k hk => Nat.le_trans HT2.out.size (HO4.out.lt_ k hk).1
      clear T24 T2 hRR hTT
      go_wp2
      go_ret
      rw [HE2.out, HL.out]
      have e : ({ t1 with files := t1.files.set k ⟨l, []⟩ } : Sf.St) = { t1 with files := t.files.set k ⟨l, []⟩ } := by rw [show t1.files = t.files from HFS.out]
      rw [e] at HRR
      refine ⟨rfl, _, ⟨vf, vs, vr, vu, _, rr, HRR.out⟩, ⟨fun k hk => .inl hk, fun k hk => ?_⟩, ?_⟩
      · rcases hk with hk | hk
        · exact .inl hk
        · exact .inr (HNX.out k hk.2)
      · exact (HT2.out.mono (G := f.M) (fun k _ hk => hk ▸ HM.out)).trans HTT.out (fun k _ hk => hk)
    · have hq2 : ((e : Int) == 0) = false := by rw [beq_eq_false_iff_ne]; omega
      have HE2 : Hid (Sf.sync t s = (e, t1)) := HE1.out.trans (if_pos h0)
      clear HE1 h0
      go_enter Tryz.func36, Tryz.ntmps36
      go_wp2_with fail
      refine CG.out.mono ?_
      rintro e1 w1 ⟨rfl, rfl⟩
      clear CG
      go_wp2_with fail
      refine CB.out.mono ?_
      rintro e2 w2 ⟨rfl, hR, hT⟩
      have HH := Lib.hid hR
      have HT2 := Lib.hid hT
      clear CB hR hT
      go_wp2
      go_ret
      rw [HE2.out]
      exact ⟨rfl, f, ⟨_, _, _, _, _, _, HH.out⟩, Fp.Next.refl _ _, HT2.out.mono (fun k _ hk => hk ▸ HM.out)⟩
  · have hq : ((er : Int) == 0) = false := by rw [beq_eq_false_iff_ne]; omega
    have HE2 : Hid (Sf.sync t s = (er, t)) := HE.out.trans (if_pos he)
    clear HE he hge h hf CB
    go_enter Tryz.func36, Tryz.ntmps36
    go_wp2_with fail
    refine CG.out.mono ?_
    rintro e1 w1 ⟨rfl, rfl⟩
    clear CG
    go_wp2
    go_ret
    rw [HE2.out]
    exact ⟨rfl, f, HD.out, Fp.Next.refl _ _, Turned.refl _ _⟩
end
end Go.Proofs.YtmcbjcbnckpfkaaGreat
