/-
  SetL: Own lists of elements of several cells: an element set whole, the list made shorter.
  PfMem: simfs: a disk as it lies in memory. Each block of it has a role; what lies in a block of one role is not turned where one of another role is.
  SfDead: Chapter 14: a dead disk does nothing; a deed counts at most one act; it has no name that is too long to be read.
-/
import Derived.Test.YtmcbjcbnckpfkaaGreatPt01
import Derived.Test.YtmcbjcbnckpfkaaGreatPt12
import Derived.BigRegion
import Derived.Test.YtmcbjcbnckpfkaaGreatPt05
namespace Go.Proofs.YtmcbjcbnckpfkaaGreat
open Go.RowKit
set_option linter.unusedVariables false

/-- Cells set one behind the other, from k on. -/
def setAll (w : World) (g k : Nat) : List Value → World
  | [] => w
  | u :: r => setAll (w.setCell ⟨g, k, none⟩ u) g (k + 1) r
def putAll (C : List Value) (k : Nat) : List Value → List Value
  | [] => C
  | u :: r => putAll (C.set k u) (k + 1) r
theorem setAll_heap {g : Nat} {e : TypeId} (us : List Value) : ∀ {w : World} {k : Nat} {C : List Value}, w.heap[g]? = some (.cells C.toArray e (0, 0)) →
    (setAll w g k us).heap[g]? = some (.cells (putAll C k us).toArray e (0, 0)) := by
  induction us with
  | nil => exact fun h => h
  | cons u r ih =>
    intro w k C h
    refine ih ?_
    rw [heap_setCell_same w g k _ _ u h]
    simp
theorem setAll_grown {g : Nat} (us : List Value) : ∀ (w : World) (k : Nat), w.grownBy (setAll w g k us) (some g) := by
  induction us with
  | nil => exact fun w k => ⟨rfl, rfl, rfl, Nat.le_refl _, fun _ _ _ => rfl⟩
  | cons u r ih =>
    intro w k
    obtain ⟨h1, h2, h3, h4, h5⟩ := ih (w.setCell ⟨g, k, none⟩ u) (k + 1)
    refine ⟨h1, h2, h3, Nat.le_trans (show w.heap.size ≤ (w.setCell ⟨g, k, none⟩ u).heap.size by simp) h4, fun i hi hne => ?_⟩
    exact (h5 i (by simpa using hi) hne).trans (heap_setCell_other w ⟨g, k, none⟩ i u (fun e => hne (by simp [e])))
theorem putAll_mid (c : List Value) (us : List Value) : ∀ (a b : List Value), us.length = b.length → putAll (a ++ b ++ c) a.length us = a ++ us ++ c := by
  induction us with
  | nil =>
    intro a b h
    have hb : b = [] := List.eq_nil_of_length_eq_zero h.symm
    subst hb
    rfl
  | cons u r ih =>
    intro a b h
    cases b with
    | nil => simp at h
    | cons y b =>
      have h' : r.length = b.length := by simpa using h
      have e : (a ++ y :: b ++ c).set a.length u = (a ++ [u]) ++ b ++ c := by simp
      have := ih (a ++ [u]) b h'
      rw [← e] at this
      rw [List.length_append, List.length_singleton] at this
      show putAll ((a ++ y :: b ++ c).set a.length u) (a.length + 1) r = _
      rw [this]
      simp

section
variable {P : Program} {α : Type} {K : El P α} {w w' : World} {base B : Nat} {v : Value} {l : List α}
theorem flat_put {l : List α} {k : Nat} (hk : k < l.length) (x : α) : putAll (K.flat l) (k * K.size) (K.enc x) = K.flat (l.set k x) := by
  have e : l = l.take k ++ l[k] :: l.drop (k + 1) := by simp
  have hl : (K.flat (l.take k)).length = k * K.size := by rw [flat_len, List.length_take, Nat.min_eq_left (by omega)]
  have e1 : K.flat l = K.flat (l.take k) ++ K.enc l[k] ++ K.flat (l.drop (k + 1)) := by
    conv => lhs; rw [e]
    rw [flat_app, flat_cons, List.append_assoc]
  have e2 : K.flat (l.set k x) = K.flat (l.take k) ++ K.enc x ++ K.flat (l.drop (k + 1)) := by
    rw [List.set_eq_take_append_cons_drop, if_pos hk, flat_app, flat_cons, List.append_assoc]
  rw [e1, e2, ← hl]
  exact putAll_mid _ _ _ _ (by rw [K.len, K.len])
/-- One element is set, all its cells. -/
theorem OwnL.setAll_ {g c n : Nat} (h : OwnL K w base (.slice (some ⟨g, 0, none⟩) n c) l) {j : Nat} (hj : j < l.length) {x : α} (hx : K.ok x) :
    OwnL K (setAll w g (j * K.size) (K.enc x)) base (.slice (some ⟨g, 0, none⟩) n c) (l.set j x) ∧ w.grownBy (setAll w g (j * K.size) (K.enc x)) (some g) := by
  rcases h.2 with ⟨e, rfl⟩ | ⟨g', s, e, hb, hs, hm, hh⟩
  · cases e
  · injection e with e1 e2 e3
    injection e1 with e1
    injection e1 with e1
    subst e1 e2 e3
    refine ⟨⟨fun y hy => ?_, .inr ⟨g, s, by rw [List.length_set], hb, hs, by rw [List.length_set]; exact hm, ?_⟩⟩, setAll_grown _ _ _⟩
    · rcases List.mem_or_eq_of_mem_set hy with h3 | rfl
      · exact h.1 y h3
      · exact hx
    · rw [setAll_heap (K.enc x) hh, ← List.set_append_left _ _ hj, flat_put (by simp; omega) x]
/-- The same slice, shorter: what stood behind is spare room. -/
theorem OwnL.take_ {g c n : Nat} (h : OwnL K w base (.slice (some ⟨g, 0, none⟩) n c) l) {k : Nat} (hk : k ≤ l.length) : OwnL K w base (.slice (some ⟨g, 0, none⟩) k c) (l.take k) := by
  rcases h.2 with ⟨e, rfl⟩ | ⟨g', s, e, hb, hs, hm, hh⟩
  · cases e
  · injection e with e1 e2 e3
    injection e1 with e1
    injection e1 with e1
    subst e1 e2 e3
    have hl : (l.take k).length = k := by rw [List.length_take, Nat.min_eq_left hk]
    have hl2 : (l.take k).length + (l.drop k ++ s).length = l.length + s.length := by rw [hl, List.length_append, List.length_drop]; omega
    refine ⟨fun y hy => h.1 y (List.mem_of_mem_take hy), .inr ⟨g, l.drop k ++ s, by rw [hl2, hl], hb, fun y hy => ?_, by rw [hl2]; exact hm, ?_⟩⟩
    · rcases List.mem_append.1 hy with hy | hy
      · exact h.1 y (List.mem_of_mem_drop hy)
      · exact hs y hy
    · rw [hh, ← List.append_assoc, List.take_append_drop]
end
end Go.Proofs.YtmcbjcbnckpfkaaGreat
namespace Go.Proofs.YtmcbjcbnckpfkaaGreat
open Go.RowKit
set_option linter.unusedVariables false
inductive Role where
  | head | files | names | sure | row | bytes
  | fsure (i : Nat) | frow (i : Nat) | fnow (i : Nat)
abbrev Who := Nat → Option Role
/-- A slice's block has this role. -/
def Bears (who : Who) (v : Value) (r : Role) : Prop := ∀ k, v.ownBlock = some k → who k = some r
theorem Bears.nil_ (who : Who) (r : Role) : Bears who (.slice none 0 0) r := fun k h => by cases h
/-- More roles. -/
def More (who who' : Who) : Prop := ∀ k r, who k = some r → who' k = some r
theorem More.refl (who : Who) : More who who := fun _ _ h => h
theorem More.trans {a b c : Who} (h : More a b) (h2 : More b c) : More a c := fun k r h3 => h2 k r (h k r h3)
theorem Bears.more {who who' : Who} {v : Value} {r : Role} (h : Bears who v r) (hm : More who who') : Bears who' v r := fun k hk => hm k r (h k hk)
/-- A block gets a role. -/
def lab (who : Who) (v : Value) (r : Role) : Who := fun k => match v.ownBlock with
  | some j => if k = j then some r else who k
  | none => who k
theorem lab_bears (who : Who) (v : Value) (r : Role) : Bears (lab who v r) v r := fun k hk => by unfold lab; rw [hk]; simp
theorem lab_more {who : Who} {v : Value} {r : Role} (h : ∀ k, v.ownBlock = some k → who k = none ∨ who k = some r) : More who (lab who v r) := fun k q hk => by
  unfold lab
  cases hv : v.ownBlock with
  | none => exact hk
  | some j =>
    simp only
    split
    · rename_i e
      subst e
      rcases h k hv with h1 | h1
      · rw [h1] at hk; cases hk
      · rw [h1] at hk; exact hk
    · exact hk
theorem lab_old {who : Who} {v : Value} {r : Role} {k : Nat} (h : v.ownBlock ≠ some k) : lab who v r k = who k := by
  unfold lab
  cases hv : v.ownBlock with
  | none => rfl
  | some j =>
    simp only
    rw [if_neg (fun e => h (by rw [hv, e]))]
theorem lab_some {who : Who} {v : Value} {r : Role} {k : Nat} (h : (lab who v r k).isSome) : (who k).isSome ∨ v.ownBlock = some k := by
  by_cases hv : v.ownBlock = some k
  · exact .inr hv
  · rw [lab_old hv] at h; exact .inl h
/-- An act of a file as it lies in memory. -/
structure ActV (w : World) (who : Who) (r : RawC) (a : Sf.Act) : Prop where
  cut : r.cut = a.cut
  at_ : r.at_ = a.at_
  lv : Lv yK w w.heap.size (slV r.sl) a.b
  blk : 0 < a.b.length → Bears who (slV r.sl) .bytes
structure HasX (w : World) (who : Who) (i : Nat) (x : RawX) (f : Sf.File) : Prop where
  sure : OwnL yK w 0 (slV x.sure) f.sure
  sureW : Bears who (slV x.sure) (.fsure i)
  now : OwnL yK w 0 (slV x.now) (Sf.now f)
  nowW : Bears who (slV x.now) (.fnow i)
  row : ∃ rc : List RawC, rc.length = f.row.length ∧ OwnL cK w 0 (slV x.row) rc ∧ ∀ (j : Nat) (r : RawC) (a : Sf.Act), rc[j]? = some r → f.row[j]? = some a → ActV w who r a
  rowW : Bears who (slV x.row) (.frow i)
  nil : f.row = [] → x.row = ⟨none, 0, 0⟩
  ok : FileOk f
section
variable {w w' : World} {who who' : Who} {F : Nat → Prop}
theorem Bears.off {v : Value} {r : Role} (h : Bears who v r) (hF : ∀ k, F k → who k ≠ some r) : ∀ k, v.ownBlock = some k → ¬ F k := fun k hk hf => hF k hf (h k hk)
theorem ActV.turned {r : RawC} {a : Sf.Act} (h : ActV w who r a) (ht : Turned F w w') (hF : ∀ k, F k → who k ≠ some .bytes) : ActV w' who r a :=
  ⟨h.cut, h.at_, (h.lv.turnedB_ ht (fun hp => (h.blk hp).off hF)).mono_ ht.size, h.blk⟩
theorem ActV.more {r : RawC} {a : Sf.Act} (h : ActV w who r a) (hm : More who who') : ActV w who' r a := ⟨h.cut, h.at_, h.lv, fun hp => (h.blk hp).more hm⟩
theorem HasX.turned {i : Nat} {x : RawX} {f : Sf.File} (h : HasX w who i x f) (ht : Turned F w w') (hF : ∀ k, F k → who k ≠ some .bytes ∧ who k ≠ some (.fsure i) ∧ who k ≠ some (.frow i) ∧ who k ≠ some (.fnow i)) : HasX w' who i x f := by
  obtain ⟨h1, h2, h3, h4, ⟨rc, h5, h6, h7⟩, h8, h9, h10⟩ := h
  exact ⟨h1.turned_ ht (h2.off fun k hk => (hF k hk).2.1), h2, h3.turned_ ht (h4.off fun k hk => (hF k hk).2.2.2), h4,
    ⟨rc, h5, h6.turned_ ht (h8.off fun k hk => (hF k hk).2.2.1), fun j r a hr ha => (h7 j r a hr ha).turned ht fun k hk => (hF k hk).1⟩, h8, h9, h10⟩
theorem HasX.more {i : Nat} {x : RawX} {f : Sf.File} (h : HasX w who i x f) (hm : More who who') : HasX w who' i x f := by
  obtain ⟨h1, h2, h3, h4, ⟨rc, h5, h6, h7⟩, h8, h9, h10⟩ := h
  exact ⟨h1, h2.more hm, h3, h4.more hm, ⟨rc, h5, h6, fun j r a hr ha => (h7 j r a hr ha).more hm⟩, h8.more hm, h9, h10⟩
end
/-- What may be, s acts ahead of their number. -/
structure GoodS (s : Nat) (t : Sf.St) : Prop where
  room : t.room ≤ 1048576
  files : t.files.length ≤ 64 + t.acts + s
  rows : t.row.length ≤ t.acts + s
  acts : t.acts ≤ 1099511627776
  fuse : t.fuse < 9223372036854775808
  sure : Sf.OkDir t.sure
  seen : Sf.OkDir t.seen
  row : ∀ d ∈ t.row, Sf.OkDir d
  lens : ∀ d, d = t.sure ∨ d = t.seen ∨ d ∈ t.row → d.length ≤ 64 ∧ ∀ e ∈ d, e.2 < t.files.length
  nums : (t.seen.map (·.2)).Nodup
  frow : ∀ f ∈ t.files, f.row.length ≤ t.acts + s
theorem GoodS.inv {s : Nat} {t : Sf.St} (h : GoodS s t) : Sf.Inv t := ⟨h.nums, (h.lens t.seen (.inr (.inl rfl))).2⟩
theorem GoodS.slack {s : Nat} {t : Sf.St} (h : GoodS s t) : GoodS (s + 1) t := ⟨h.room, by have := h.files; omega, by have := h.rows; omega, h.acts, h.fuse, h.sure, h.seen, h.row, h.lens, h.nums, fun f hf => by have := h.frow f hf; omega⟩
/-- A number that some directory of the disk has. -/
def Reach (t : Sf.St) (i : Nat) : Prop := ∃ d, (d = t.sure ∨ d = t.seen ∨ d ∈ t.row) ∧ ∃ e ∈ d, e.2 = i
structure PBody (w : World) (who : Who) (s : Nat) (t : Sf.St) (bf bs bn : Nat) (vr : Sl) (ff : Int → Option RawX) (rn : List RawN) : Prop where
  files : IsMp fM w bf (64 + t.acts + s) ff
  names : IsMp dM w bn (64 + t.acts + s) (Sf.dirF t.seen)
  sure : IsMp dM w bs (64 + t.acts + s) (Sf.dirF t.sure)
  row : OwnL nK w 0 (slV vr) rn
  hrow : t.row = Sf.dirs t.sure rn
  hseen : t.seen = rn.foldl Sf.doN t.sure
  nil : t.row = [] → vr = ⟨none, 0, 0⟩
  file : ∀ (i : Int) (x : RawX), ff i = some x → ∃ (n : Nat) (f : Sf.File), i = (n : Int) ∧ t.files[n]? = some f ∧ HasX w who n x f
  there : ∀ n : Nat, Reach t n → (ff (n : Int)).isSome
  filesW : who bf = some .files
  namesW : who bn = some .names
  sureW : who bs = some .sure
  rowW : Bears who (slV vr) .row
def headP (t : Sf.St) (bf bs bn : Nat) (vr : Sl) : Array Value :=
  #[.int .i64 (t.room : Nat), .map (some bf), .int .i64 (t.files.length : Nat), .map (some bs), slV vr, .map (some bn), .int .i64 (t.acts : Nat), .int .i64 (t.fuse : Nat), .bool t.dead]
def IsHead (w : World) (b : Nat) (C : Array Value) : Prop := w.heap[b]? = some (.cells C 80 (0, 0))
structure PHas (w : World) (fp : Fp) (s : Nat) (t : Sf.St) (b : Nat) (who : Who) (bf bs bn : Nat) (vr : Sl) (ff : Int → Option RawX) (rn : List RawN) : Prop where
  head : IsHead w b (headP t bf bs bn vr)
  body : PBody w who s t bf bs bn vr ff rn
  good : GoodS s t
  mine : who b = some .head
  m : ∀ k, fp.M k ↔ (who k).isSome
  r : ∀ k, ¬ fp.R k
  lt : ∀ k, (who k).isSome → k < w.heap.size
def PDisk (w : World) (fp : Fp) (t : Sf.St) (b : Nat) : Prop := ∃ who bf bs bn vr ff rn, PHas w fp 0 t b who bf bs bn vr ff rn
section
variable {w w' : World} {fp : Fp} {s : Nat} {t : Sf.St} {b : Nat} {who who' : Who} {bf bs bn : Nat} {vr : Sl} {ff : Int → Option RawX} {rn : List RawN} {F : Nat → Prop}
theorem PBody.turned (h : PBody w who s t bf bs bn vr ff rn) (ht : Turned F w w') (hF : ∀ k, F k → who k = none ∨ who k = some .head) : PBody w' who s t bf bs bn vr ff rn := by
  have no : ∀ k r, r ≠ Role.head → who k = some r → ¬ F k := fun k r hr hk hf => by
    rcases hF k hf with h1 | h1
    · rw [h1] at hk; cases hk
    · rw [h1] at hk; exact hr (Option.some.inj hk).symm
  have no2 : ∀ r, r ≠ Role.head → ∀ k, F k → who k ≠ some r := fun r hr k hf hk => no k r hr hk hf
  exact ⟨h.files.turned_ ht (no _ _ (by simp) h.filesW), h.names.turned_ ht (no _ _ (by simp) h.namesW), h.sure.turned_ ht (no _ _ (by simp) h.sureW), h.row.turned_ ht (h.rowW.off (no2 _ (by simp))), h.hrow, h.hseen, h.nil,
    fun i x hx => by
      obtain ⟨n, f, h1, h2, h3⟩ := h.file i x hx
      exact ⟨n, f, h1, h2, h3.turned ht fun k hk => ⟨no2 _ (by simp) k hk, no2 _ (by simp) k hk, no2 _ (by simp) k hk, no2 _ (by simp) k hk⟩⟩,
    h.there, h.filesW, h.namesW, h.sureW, h.rowW⟩
theorem PHas.turned (h : PHas w fp s t b who bf bs bn vr ff rn) (ht : Turned F w w') (hF : ∀ k, F k → who k = none) : PHas w' fp s t b who bf bs bn vr ff rn := by
  have hb := h.lt b (by rw [h.mine]; rfl)
  exact ⟨(ht.block b hb (fun hf => by have := hF b hf; rw [h.mine] at this; cases this)).trans h.head, h.body.turned ht (fun k hk => .inl (hF k hk)), h.good, h.mine, h.m, h.r, fun k hk => Nat.lt_of_lt_of_le (h.lt k hk) ht.size⟩
theorem PHas.below (h : PHas w fp s t b who bf bs bn vr ff rn) (hb : Below w.heap.size w w') : PHas w' fp s t b who bf bs bn vr ff rn :=
  h.turned (Turned.of_below hb) fun k hk => by
    cases hw : who k with
    | none => rfl
    | some r => have := h.lt k (by rw [hw]; rfl); omega
theorem PHas.new (h : PHas w fp s t b who bf bs bn vr ff rn) {k : Nat} (hk : w.heap.size ≤ k) : who k = none := by
  cases hw : who k with
  | none => rfl
  | some r => have := h.lt k (by rw [hw]; rfl); omega
theorem PHas.cell (h : PHas w fp s t b who bf bs bn vr ff rn) {j : Nat} {u : Value} (hj : (headP t bf bs bn vr)[j]? = some u) : w.cell? ⟨b, j, none⟩ = some u := by
  rw [cell_of_row _ b j _ _ _ h.head]
  exact hj
theorem pdisk_lt (h : PDisk w fp t b) : fp.Lt w.heap.size := by
  obtain ⟨who, bf, bs, bn, vr, ff, rn, h⟩ := h
  exact fun k hk => hk.elim (fun hm => h.lt k ((h.m k).1 hm)) (fun hr => absurd hr (h.r k))
theorem pdisk_sep (h : PDisk w fp t b) : ∀ k, fp.M k → ¬ fp.R k := by
  obtain ⟨who, bf, bs, bn, vr, ff, rn, h⟩ := h
  exact fun k _ => h.r k
theorem pdisk_turned (h : PDisk w fp t b) (ht : Turned F w w') (hF : fp.Off F) : PDisk w' fp t b := by
  obtain ⟨who, bf, bs, bn, vr, ff, rn, h⟩ := h
  refine ⟨who, bf, bs, bn, vr, ff, rn, h.turned ht fun k hk => ?_⟩
  cases hw : who k with
  | none => rfl
  | some r => exact absurd ((h.m k).2 (by rw [hw]; rfl)) (hF k hk).1
theorem PHas.mono (h : PHas w fp s t b who bf bs bn vr ff rn) : PHas w fp (s + 1) t b who bf bs bn vr ff rn :=
  ⟨h.head, ⟨h.body.files.mono_ (by omega), h.body.names.mono_ (by omega), h.body.sure.mono_ (by omega), h.body.row, h.body.hrow, h.body.hseen, h.body.nil, h.body.file, h.body.there, h.body.filesW, h.body.namesW, h.body.sureW, h.body.rowW⟩, h.good.slack, h.mine, h.m, h.r, h.lt⟩
theorem PHas.len_seen (h : PHas w fp s t b who bf bs bn vr ff rn) {u : ByteArray} {k : Nat} (hg : Sf.get t u = (k, 0)) : t.dead = false ∧ Sf.find t.seen u = some k := by
  have := Sf.get_ok (t := t) (s := u) (by rw [hg])
  rw [hg] at this
  exact this
/-- The file of a name. -/
theorem PHas.file_of (h : PHas w fp s t b who bf bs bn vr ff rn) {u : ByteArray} {k : Nat} (hg : Sf.get t u = (k, 0)) : ∃ x, ff (k : Int) = some x ∧ k < t.files.length ∧ HasX w who k x (Sf.fileAt t k) := by
  obtain ⟨_, hf⟩ := h.len_seen hg
  have hm := Sf.find_mem hf
  have hs := h.body.there k ⟨t.seen, .inr (.inl rfl), _, hm, rfl⟩
  obtain ⟨x, hx⟩ := Option.isSome_iff_exists.1 hs
  obtain ⟨n, f, h1, h2, h3⟩ := h.body.file _ x hx
  have e : n = k := by omega
  subst e
  refine ⟨x, hx, (List.getElem?_eq_some_iff.1 h2).1, ?_⟩
  have : Sf.fileAt t n = f := by unfold Sf.fileAt; rw [List.getD_eq_getElem?_getD, h2]; rfl
  rw [this]
  exact h3
end
theorem pdisk_law : DiskLaw PDisk := ⟨pdisk_lt, pdisk_turned, pdisk_sep⟩
end Go.Proofs.YtmcbjcbnckpfkaaGreat
namespace Go.Proofs.YtmcbjcbnckpfkaaGreat.Sf
open Go.RowKit
set_option linter.unusedVariables false
theorem get_dead {t : St} (h : t.dead = true) (s : ByteArray) : get t s = (0, 13) := by unfold get; rw [if_pos h]
theorem dead_deed {t : St} (h : t.dead = true) (o : Op) : doOp t o = (if o.call ≤ 8 then 13 else 0, t) := by
  unfold doOp
  by_cases h0 : o.call = 0
  · rw [if_pos h0, if_pos (by omega)]; unfold create; rw [if_pos h]
  rw [if_neg h0]
  by_cases h1 : o.call = 1
  · rw [if_pos h1, if_pos (by omega)]; unfold append; rw [get_dead h, if_pos (by decide)]
  rw [if_neg h1]
  by_cases h2 : o.call = 2
  · rw [if_pos h2, if_pos (by omega)]; unfold write; rw [get_dead h, if_pos (by decide)]
  rw [if_neg h2]
  by_cases h3 : o.call = 3
  · rw [if_pos h3, if_pos (by omega)]; unfold cut; rw [get_dead h, if_pos (by decide)]
  rw [if_neg h3]
  by_cases h4 : o.call = 4
  · rw [if_pos h4, if_pos (by omega)]; unfold rename; rw [get_dead h, if_pos (by decide)]
  rw [if_neg h4]
  by_cases h5 : o.call = 5
  · rw [if_pos h5, if_pos (by omega)]; unfold remove; rw [get_dead h, if_pos (by decide)]
  rw [if_neg h5]
  by_cases h6 : o.call = 6
  · rw [if_pos h6, if_pos (by omega)]; unfold sync; rw [get_dead h, if_pos (by decide)]
  rw [if_neg h6]
  by_cases h7 : o.call = 7
  · rw [if_pos h7, if_pos (by omega)]; unfold syncDir; rw [if_pos h]
  rw [if_neg h7]
  by_cases h8 : o.call = 8
  · rw [if_pos h8, if_pos (by omega)]; unfold arm; rw [if_pos h]
  rw [if_neg h8, if_neg (by omega)]
theorem used_dead {t : St} (h : t.dead = true) : used t = 0 := by unfold used; rw [if_pos h]
theorem names_dead {t : St} (h : t.dead = true) : names t = [] := by unfold names; rw [if_pos h]
theorem room_dead {t : St} (h : t.dead = true) : roomOf t = 0 := by unfold roomOf; rw [if_pos h]
theorem blown_acts (t : St) : (blown t).2.acts = t.acts + 1 := by
  unfold blown
  split
  · rfl
  · split <;> rfl
theorem arm_acts (t : St) (n : Int) : (arm t n).2.acts ≤ t.acts := by
  unfold arm
  split
  · exact Nat.le_refl _
  · split <;> exact Nat.le_refl _
theorem acts_le (t : St) (o : Op) : (doOp t o).2.acts ≤ t.acts + 1 := by
  have hb := blown_acts
  unfold doOp
  split
  · unfold create; split; · simp
    split; · simp
    split; · simp
    split; · simp
    unfold turn; rw [hb]; simp
  split
  · unfold append; split; · simp
    split; · simp
    unfold add; rw [hb]; simp
  split
  · unfold write; split; · simp
    split; · simp
    split; · simp
    unfold add; rw [hb]; simp
  split
  · unfold cut; split; · simp
    split; · simp
    unfold add; rw [hb]; simp
  split
  · unfold rename; split; · simp
    split; · simp
    unfold turn; rw [hb]; simp
  split
  · unfold remove; split; · simp
    unfold turn; rw [hb]; simp
  split
  · unfold sync; split; · simp
    split; · rw [hb]; simp
    simp only [hb]; simp
  split
  · unfold syncDir; split; · simp
    split; · rw [hb]; simp
    simp only [hb]; simp
  split
  · unfold arm; split; · simp
    split <;> simp
  simp
end Go.Proofs.YtmcbjcbnckpfkaaGreat.Sf
