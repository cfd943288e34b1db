/-
  RSfY: stookref14: how many files a disk has had, where one more may be made.
  RSfZ: stookref14: what is used is not too much; a file's bytes behind other calls.
  RSfCa: stookref14: a copy of a disk that is under way.
-/
import Derived.Test.YtmcbjcbnckpfkaaGreatPk29
namespace Go.Proofs.YtmcbjcbnckpfkaaGreat
open Go.RowKit
set_option linter.unusedVariables false
/-- Where a name more may be, a file more may be, too. -/
def Sf.Num (t : Sf.St) : Prop := t.seen.length < 64 → t.files.length + 1 ≤ 64 + t.acts
theorem num_blown {u : Sf.St} (h : u.files.length ≤ 64 + u.acts) : Sf.Num (Sf.blown u).2 := by
  obtain ⟨_, h1, _, _, _, h5, _⟩ := blown_same u
  unfold Sf.Num
  rw [h1, h5]
  omega
theorem num_turn {t : Sf.St} (h : t.files.length ≤ 64 + t.acts) (d : Sf.Dir) : Sf.Num (Sf.turn t d).2 := num_blown (u := { t with seen := d, row := t.row ++ [d] }) h
theorem num_add {t : Sf.St} (h : t.files.length ≤ 64 + t.acts) (n : Nat) (a : Sf.Act) : Sf.Num (Sf.add t n a).2 := num_blown (u := { t with files := t.files.set n ⟨(Sf.fileAt t n).sure, (Sf.fileAt t n).row ++ [a]⟩ }) (by show (t.files.set n _).length ≤ _; rw [List.length_set]; exact h)
section
variable {t : Sf.St}
theorem num_create (h : Sf.Num t) (hg : Good t) (s : ByteArray) : Sf.Num (Sf.create t s).2 := by
  unfold Sf.create
  split
  · exact h
  split
  · exact h
  split
  · exact h
  split
  · exact h
  · rename_i h4
    exact num_turn (t := { t with files := t.files ++ [Sf.noFile] }) (by have := h (by omega); simpa using this) _
theorem num_append (h : Sf.Num t) (hg : Good t) (s : ByteArray) (b : List Nat) : Sf.Num (Sf.append t s b).2 := by
  unfold Sf.append
  split
  · exact h
  split
  · exact h
  · exact num_add hg.files _ _
theorem num_write (h : Sf.Num t) (hg : Good t) (s : ByteArray) (a : Int) (b : List Nat) : Sf.Num (Sf.write t s a b).2 := by
  unfold Sf.write
  split
  · exact h
  split
  · exact h
  split
  · exact h
  · exact num_add hg.files _ _
theorem num_cut (h : Sf.Num t) (hg : Good t) (s : ByteArray) (a : Int) : Sf.Num (Sf.cut t s a).2 := by
  unfold Sf.cut
  split
  · exact h
  split
  · exact h
  · exact num_add hg.files _ _
theorem num_rename (h : Sf.Num t) (hg : Good t) (s u : ByteArray) : Sf.Num (Sf.rename t s u).2 := by
  unfold Sf.rename
  split
  · exact h
  split
  · exact h
  · exact num_turn hg.files _
theorem num_remove (h : Sf.Num t) (hg : Good t) (s : ByteArray) : Sf.Num (Sf.remove t s).2 := by
  unfold Sf.remove
  split
  · exact h
  · exact num_turn hg.files _
theorem num_sync (h : Sf.Num t) (hg : Good t) (s : ByteArray) : Sf.Num (Sf.sync t s).2 := by
  unfold Sf.sync
  split
  · exact h
  split
  · exact num_blown hg.files
  · have h2 := num_blown hg.files
    obtain ⟨_, h1, _, h3, _, h5, _⟩ := blown_same t
    intro h6
    have h7 := h2 h6
    rw [h1] at h7
    show (t.files.set _ _).length + 1 ≤ 64 + (Sf.blown t).2.acts
    rw [List.length_set]
    exact h7
theorem num_syncDir (h : Sf.Num t) (hg : Good t) : Sf.Num (Sf.syncDir t).2 := by
  unfold Sf.syncDir
  split
  · exact h
  split
  · exact num_blown hg.files
  · exact num_blown hg.files
theorem num_arm (h : Sf.Num t) (hg : Good t) (n : Int) : Sf.Num (Sf.arm t n).2 := by
  unfold Sf.arm
  split
  · exact h
  split
  · exact h
  · exact h
end
theorem num_new (n : Nat) : Sf.Num (Sf.new n) := fun _ => by show 0 + 1 ≤ 64 + 0; omega
theorem kept_len (t : Sf.St) : ∀ (d : Sf.Dir) (l : List Int), (Sf.kept t d l).length = d.length := by
  intro d
  induction d with
  | nil => intro l; rfl
  | cons e d ih => intro l; rw [Sf.kept, List.length_cons, List.length_cons, ih]
theorem num_fail (t : Sf.St) (l : List Int) : Sf.Num (Sf.fail t l) := fun h => by
  have e1 : (Sf.fail t l).seen.length = (Sf.dirOf t l).length := by show (Sf.numbered _).length = _; simp [Sf.numbered]
  have e2 : (Sf.fail t l).files.length = (Sf.dirOf t l).length := by show ((Sf.kept t _ _).map _).length = _; rw [List.length_map, kept_len]
  rw [e1] at h
  rw [e2]
  show _ ≤ 64 + 0
  omega
end Go.Proofs.YtmcbjcbnckpfkaaGreat
namespace Go.Proofs.YtmcbjcbnckpfkaaGreat
open Go.RowKit
set_option linter.unusedVariables false
theorem Sf.lens_le {t : Sf.St} {d : Sf.Dir} (h : ∀ e ∈ d, Sf.len t e.2 ≤ 1048576) : Sf.lens t d ≤ d.length * 1048576 := by
  induction d with
  | nil => simp [Sf.lens]
  | cons x d ih =>
    have hc : Sf.lens t (x :: d) = Sf.len t x.2 + Sf.lens t d := by simp [Sf.lens]
    have h1 := h x (by simp)
    have h2 := ih (fun e he => h e (by simp [he]))
    rw [hc, List.length_cons, Nat.succ_mul]
    omega
section
variable {w w' : World} {f : Fp} {t : Sf.St} {b : Nat} {vf vs vr vu : Value} {rf : List RawF} {rr : List Sl}
theorem RHas.len_le (h : RHas w f t b vf vs vr vu rf rr) {n : Nat} (hn : n < t.files.length) : Sf.len t n ≤ 1048576 := by
  obtain ⟨_, _, _, x, _, _, _, _, _, _, hF⟩ := h.file_at hn
  have := hF.ok.len _ (Nat.le_refl _)
  rw [Sf.bytes_all] at this
  exact this
theorem RHas.used_le (h : RHas w f t b vf vs vr vu rf rr) : Sf.used t ≤ 67108864 := by
  unfold Sf.used
  split
  · omega
  · have h1 := Sf.lens_le (t := t) (d := t.seen) (fun e he => h.len_le (h.good.seen.2 e he))
    have h2 := h.good.seen.1
    have h3 : t.seen.length * 1048576 ≤ 64 * 1048576 := Nat.mul_le_mul_right _ h2
    omega
theorem RHas.disk_below (h : RHas w f t b vf vs vr vu rf rr) (hb : Below w.heap.size w w') : RDiskM w' f t b := ⟨_, _, _, _, _, _, h.below hb⟩
/-- now of a file, behind other calls. -/
theorem RHas.now_at (h : RHas w f t b vf vs vr vu rf rr) {n : Nat} (hn : n < t.files.length) :
    ∃ g cf, vf = .slice (some ⟨g, 0, none⟩) t.files.length cf ∧ g < w.heap.size ∧ t.files.length ≤ 9223372036854775807 ∧ ∀ w', Below w.heap.size w w' → Calls Tryz.prog 83 #[.pointer (some ⟨g, n * 2, none⟩)] w' (IsL1 yK (Sf.now (Sf.fileAt t n)) w') := by
  obtain ⟨g, off, cf, x, evf, hsl, hgl, hx, c0, c1, hF⟩ := h.file_at hn
  have hown := h.body.files
  rw [evf] at hown
  have hoff : off = 0 := by
    rcases hown.2 with ⟨e, _⟩ | ⟨g', s, e, _⟩
    · cases e
    · injection e with e1 e2 e3
      injection e1 with e1
      injection e1 with e1 e2
  subst hoff
  refine ⟨g, cf, evf, hgl, hsl, fun w' hb => ?_⟩
  obtain ⟨g2, off2, cf2, x2, evf2, _, hgl2, hx2, d0, d1, hF2⟩ := (h.below hb).file_at hn
  rw [evf] at evf2
  injection evf2 with e1 _ _
  injection e1 with e1
  injection e1 with e1 e2
  subst e1 e2
  rw [Nat.zero_add] at d0 d1
  exact rnow_file w' g (n * 2) w'.heap.size x2 (Sf.fileAt t n) hgl2 d0 d1 hF2.read (Nat.le_refl _) hF2.ok
end
end Go.Proofs.YtmcbjcbnckpfkaaGreat
namespace Go.Proofs.YtmcbjcbnckpfkaaGreat
open Go.RowKit
set_option linter.unusedVariables false
/-- A file and its copy: the same sure bytes, its own row. -/
def CopyRow (w wr : World) (f : Fp) (x y : RawF) (g : Sf.File) : Prop :=
  y.sure = x.sure ∧ ∃ ra : List RawA, ra.length = g.row.length ∧ OwnL aK wr w.heap.size (slV y.row) ra ∧ ∀ (i : Nat) (r : RawA) (a : Sf.Act), ra[i]? = some r → g.row[i]? = some a → r.cut = a.cut ∧ r.at_ = a.at_ ∧ Rd yK w f.R (slV r.sl) a.b
/-- A copy of which i files are there. -/
structure CopyIn (w wr : World) (f : Fp) (t : Sf.St) (ob : Nat) (vf vs vr vu : Value) (rf rf' : List RawF) (rr : List Sl) (i : Nat) : Prop where
  head : wr.heap[ob]? = some (.cells (headC t vf vs vr vu) 53 (0, 0))
  ob : w.heap.size ≤ ob
  files : OwnL fK wr w.heap.size vf rf'
  len : rf'.length = i
  each : ∀ (j : Nat) (x y : RawF) (g : Sf.File), rf[j]? = some x → rf'[j]? = some y → t.files[j]? = some g → CopyRow w wr f x y g
  apart : ∀ (j k : Nat) (x y : RawF), j ≠ k → rf'[j]? = some x → rf'[k]? = some y → Apart (slV x.row) (slV y.row)
  row : OwnL rK wr w.heap.size vr rr
  below : Below w.heap.size w wr
theorem CopyRow.lt {w wr : World} {f : Fp} {x y : RawF} {g : Sf.File} (h : CopyRow w wr f x y g) {k : Nat} (hk : (slV y.row).ownBlock = some k) : w.heap.size ≤ k ∧ k < wr.heap.size := by
  obtain ⟨_, ra, _, ho, _⟩ := h
  exact ho.lt_ k hk
theorem CopyRow.turned {w wr w' : World} {f : Fp} {x y : RawF} {g : Sf.File} {F : Nat → Prop} (h : CopyRow w wr f x y g) (ht : Turned F wr w') (hn : ∀ k, (slV y.row).ownBlock = some k → ¬ F k) : CopyRow w w' f x y g := by
  obtain ⟨h1, ra, h2, ho, h3⟩ := h
  exact ⟨h1, ra, h2, ho.turned_ ht hn, h3⟩
section
variable {w wr : World} {f : Fp} {t : Sf.St} {b ob : Nat} {vf vs vr vu vf0 vr0 : Value} {rf rf' : List RawF} {rr : List Sl} {i : Nat}
/-- What is new and not yet the copy's changes nothing of it. -/
theorem CopyIn.fresh (h : CopyIn w wr f t ob vf vs vr vu rf rf' rr i) {w1 : World} (hb : Below wr.heap.size wr w1) : CopyIn w w1 f t ob vf vs vr vu rf rf' rr i where
  head := (hb.block ob (Array.getElem?_eq_some_iff.1 h.head).1).trans h.head
  ob := h.ob
  files := h.files.below_ hb (Nat.le_refl _)
  len := h.len
  each := fun j x y g hx hy hg => (h.each j x y g hx hy hg).turned (Turned.of_below hb) (fun k hk hF => by have := ((h.each j x y g hx hy hg).lt hk).2; omega)
  apart := h.apart
  row := h.row.below_ hb (Nat.le_refl _)
  below := h.below.trans (hb.mono h.below.size)
/-- One more file. -/
theorem CopyIn.step (h : CopyIn w wr f t ob vf vs vr vu rf rf' rr i) {x : RawF} {g : Sf.File} (hx : rf[i]? = some x) (hg : t.files[i]? = some g) {s2 : Sl} {n0 : Nat}
    (hnew : CopyRow w wr f x ⟨x.sure, s2⟩ g) (hfar : ∀ k, (slV s2).ownBlock = some k → n0 ≤ k) (hold : ∀ (j : Nat) (y : RawF), rf'[j]? = some y → ∀ k, (slV y.row).ownBlock = some k → k < n0)
    {w5 w7 : World} {A : Option Addr} {c : Nat} (hA : OwnL fK w5 w.heap.size (.slice A (rf'.length + 1) c) (rf' ++ [⟨x.sure, s2⟩])) (hG : wr.grownBy w5 vf.ownBlock) (T7 : Turned (fun k => k = ob) w5 w7)
    (hw : w7.heap[ob]? = some (.cells (headC t (.slice A (rf'.length + 1) c) vs vr vu) 53 (0, 0))) (hAo : (Value.slice A (rf'.length + 1) c).ownBlock ≠ some ob) (hin : i < t.files.length) (hfl : rf.length = t.files.length) :
    CopyIn w w7 f t ob (.slice A (rf'.length + 1) c) vs vr vu rf (rf' ++ [⟨x.sure, s2⟩]) rr (i + 1) := by
  have T5 : Turned (fun k => vf.ownBlock = some k) wr w5 := Turned.of_grown hG
  have T : Turned (fun k => vf.ownBlock = some k ∨ k = ob) wr w7 := (T5.mono (G := fun k => vf.ownBlock = some k ∨ k = ob) (fun k _ hk => .inl hk)).trans (T7.mono (G := fun k => vf.ownBlock = some k ∨ k = ob) (fun k _ hk => .inr hk)) (fun k _ hk => hk)
  have hrow : ∀ {x y : RawF} {g : Sf.File}, CopyRow w wr f x y g → ∀ k, (slV y.row).ownBlock = some k → ¬ (vf.ownBlock = some k ∨ k = ob) := fun hc k hk e => by
    obtain ⟨_, ra, _, ho, _⟩ := hc
    rcases e with e | e
    · exact own_two ho h.files (by decide) hk e
    · exact own_kind ho h.head (by decide) (e ▸ hk)
  exact {
    head := hw
    ob := h.ob
    files := hA.turned_ T7 (fun k hk e => hAo (e ▸ hk))
    len := by rw [List.length_append, h.len]; rfl
    each := fun j x' y g' hx' hy hg' => by
      by_cases hj : j < rf'.length
      · rw [List.getElem?_append_left hj] at hy
        have hc := h.each j x' y g' hx' hy hg'
        exact hc.turned T (hrow hc)
      · have hl : j < (rf' ++ [(⟨x.sure, s2⟩ : RawF)]).length := (List.getElem?_eq_some_iff.1 hy).1
        have ej : j = rf'.length := by simp at hl; omega
        subst ej
        have ey : (⟨x.sure, s2⟩ : RawF) = y := by simpa using hy
        rw [h.len] at hx' hg'
        rw [hx] at hx'
        rw [hg] at hg'
        injection hx' with hx'
        injection hg' with hg'
        subst ey hx' hg'
        exact hnew.turned T (hrow hnew)
    apart := fun j k y z hjk hy hz => by
      by_cases hj : j < rf'.length
      · rw [List.getElem?_append_left hj] at hy
        by_cases hk : k < rf'.length
        · rw [List.getElem?_append_left hk] at hz
          exact h.apart j k y z hjk hy hz
        · have hl : k < (rf' ++ [(⟨x.sure, s2⟩ : RawF)]).length := (List.getElem?_eq_some_iff.1 hz).1
          have ek : k = rf'.length := by simp at hl; omega
          subst ek
          have ez : (⟨x.sure, s2⟩ : RawF) = z := by simpa using hz
          subst ez
          exact fun q h1 h2 => by have := hold j y hy q h1; have := hfar q h2; omega
      · have hl : j < (rf' ++ [(⟨x.sure, s2⟩ : RawF)]).length := (List.getElem?_eq_some_iff.1 hy).1
        have ej : j = rf'.length := by simp at hl; omega
        subst ej
        have ey : (⟨x.sure, s2⟩ : RawF) = y := by simpa using hy
        subst ey
        have hk : k < rf'.length := by
          have hl : k < (rf' ++ [(⟨x.sure, s2⟩ : RawF)]).length := (List.getElem?_eq_some_iff.1 hz).1
          simp at hl; omega
        rw [List.getElem?_append_left hk] at hz
        exact fun q h1 h2 => by have := hold k z hz q h2; have := hfar q h1; omega
    row := h.row.turned_ T (fun k hk e => e.elim (fun e => own_two h.files h.row (by decide) e hk) (fun e => own_kind h.row h.head (by decide) (e ▸ hk)))
    below := h.below.trans (T.below h.below.size (fun k hk => hk.elim (fun e => (h.files.lt_ k e).1) (fun e => e ▸ h.ob))) }
/-- All files are there. -/
theorem CopyIn.end_ (h : CopyIn w wr f t ob vf vs vr vu rf rf' rr i) (hi : i = rf.length) (h0 : RHas w f t b vf0 vs vr0 vu rf rr) :
    RHas wr ⟨fun k => w.heap.size ≤ k ∧ k < wr.heap.size, f.R⟩ t ob vf vs vr vu rf' rr := by
  have hR : ∀ k, w.heap.size ≤ k → ¬ f.R k := fun k hk hr => by have := h0.lt k (.inr hr); omega
  have T : Turned (fun k => w.heap.size ≤ k) w wr := Turned.of_below h.below
  exact {
    head := h.head
    body := {
      nfiles := by rw [h.len, hi]; exact h0.body.nfiles
      files := h.files.mono_ (Nat.zero_le _)
      file := fun j y g hy hg => by
        have hj : j < rf.length := by have := (List.getElem?_eq_some_iff.1 hy).1; have := h.len; omega
        obtain ⟨x, hx⟩ : ∃ x, rf[j]? = some x := ⟨_, List.getElem?_eq_getElem hj⟩
        have hc := h.each j x y g hx hy hg
        have hF := h0.body.file j x g hx hg
        have hlt : ∀ k, (slV y.row).ownBlock = some k → w.heap.size ≤ k ∧ k < wr.heap.size := fun k hk => hc.lt hk
        obtain ⟨h1, ra, h2, ho, h3⟩ := hc
        exact ⟨by rw [h1]; exact hF.sure.turned T hR, ⟨ra, h2, ho.mono_ (Nat.zero_le _), fun q r a hr ha => ⟨(h3 q r a hr ha).1, (h3 q r a hr ha).2.1, (h3 q r a hr ha).2.2.turned T hR⟩⟩, fun k hk => hlt k hk, hF.ok⟩
      filesM := fun k hk => h.files.lt_ k hk
      apart := h.apart
      nrow := h0.body.nrow
      row := h.row.mono_ (Nat.zero_le _)
      rows := fun q u d hu hd => (h0.body.rows q u d hu hd).turned T hR
      rowM := fun k hk => h.row.lt_ k hk
      seen := h0.body.seen.turned T hR
      sure := h0.body.sure.turned T hR }
    good := h0.good
    mine := ⟨h.ob, (Array.getElem?_eq_some_iff.1 h.head).1⟩
    lt := fun k hk => hk.elim (fun h => h.2) (fun hr => Nat.lt_of_lt_of_le (h0.lt k (.inr hr)) h.below.size)
    sep := fun k hk hr => hR k hk.1 hr }
end
end Go.Proofs.YtmcbjcbnckpfkaaGreat
