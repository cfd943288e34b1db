/-
  PfMem: simfs: a disk as it lies in memory. Each block of it has a role; what lies in a block of one role is not turned where one of another role is.
  SfDead: Chapter 14: a dead disk does nothing; a deed counts at most one act; it has no name that is too long to be read.
  PfA: simfs: made, refusal, find, act.
-/
import Derived.Test.YtmcbjcbnckpfkaaPn10
import Derived.BigRegion
import Derived.Test.YtmcbjcbnckpfkaaPn04
namespace Go.Proofs.Ytmcbjcbnckpfkaa
open Go.RowKit
set_option linter.unusedVariables false
inductive Role where
  | head | files | names | sure | row | bytes
  | fsure (i : Nat) | frow (i : Nat) | fnow (i : Nat)
abbrev Who := Nat → Option Role
/-- A slice's block has this role. -/
def Bears (who : Who) (v : Value) (r : Role) : Prop := ∀ k, v.ownBlock = some k → who k = some r
theorem Bears.nil_ (who : Who) (r : Role) : Bears who (.slice none 0 0) r := fun k h => by cases h
/-- More roles. -/
def More (who who' : Who) : Prop := ∀ k r, who k = some r → who' k = some r
theorem More.refl (who : Who) : More who who := fun _ _ h => h
theorem More.trans {a b c : Who} (h : More a b) (h2 : More b c) : More a c := fun k r h3 => h2 k r (h k r h3)
theorem Bears.more {who who' : Who} {v : Value} {r : Role} (h : Bears who v r) (hm : More who who') : Bears who' v r := fun k hk => hm k r (h k hk)
/-- A block gets a role. -/
def lab (who : Who) (v : Value) (r : Role) : Who := fun k => match v.ownBlock with
  | some j => if k = j then some r else who k
  | none => who k
theorem lab_bears (who : Who) (v : Value) (r : Role) : Bears (lab who v r) v r := fun k hk => by unfold lab; rw [hk]; simp
theorem lab_more {who : Who} {v : Value} {r : Role} (h : ∀ k, v.ownBlock = some k → who k = none ∨ who k = some r) : More who (lab who v r) := fun k q hk => by
  unfold lab
  cases hv : v.ownBlock with
  | none => exact hk
  | some j =>
    simp only
    split
    · rename_i e
      subst e
      rcases h k hv with h1 | h1
      · rw [h1] at hk; cases hk
      · rw [h1] at hk; exact hk
    · exact hk
theorem lab_old {who : Who} {v : Value} {r : Role} {k : Nat} (h : v.ownBlock ≠ some k) : lab who v r k = who k := by
  unfold lab
  cases hv : v.ownBlock with
  | none => rfl
  | some j =>
    simp only
    rw [if_neg (fun e => h (by rw [hv, e]))]
theorem lab_some {who : Who} {v : Value} {r : Role} {k : Nat} (h : (lab who v r k).isSome) : (who k).isSome ∨ v.ownBlock = some k := by
  by_cases hv : v.ownBlock = some k
  · exact .inr hv
  · rw [lab_old hv] at h; exact .inl h
/-- An act of a file as it lies in memory. -/
structure ActV (w : World) (who : Who) (r : RawC) (a : Sf.Act) : Prop where
  cut : r.cut = a.cut
  at_ : r.at_ = a.at_
  lv : Lv yK w w.heap.size (slV r.sl) a.b
  blk : 0 < a.b.length → Bears who (slV r.sl) .bytes
structure HasX (w : World) (who : Who) (i : Nat) (x : RawX) (f : Sf.File) : Prop where
  sure : OwnL yK w 0 (slV x.sure) f.sure
  sureW : Bears who (slV x.sure) (.fsure i)
  now : OwnL yK w 0 (slV x.now) (Sf.now f)
  nowW : Bears who (slV x.now) (.fnow i)
  row : ∃ rc : List RawC, rc.length = f.row.length ∧ OwnL cK w 0 (slV x.row) rc ∧ ∀ (j : Nat) (r : RawC) (a : Sf.Act), rc[j]? = some r → f.row[j]? = some a → ActV w who r a
  rowW : Bears who (slV x.row) (.frow i)
  nil : f.row = [] → x.row = ⟨none, 0, 0⟩
  ok : FileOk f
section
variable {w w' : World} {who who' : Who} {F : Nat → Prop}
theorem Bears.off {v : Value} {r : Role} (h : Bears who v r) (hF : ∀ k, F k → who k ≠ some r) : ∀ k, v.ownBlock = some k → ¬ F k := fun k hk hf => hF k hf (h k hk)
theorem ActV.turned {r : RawC} {a : Sf.Act} (h : ActV w who r a) (ht : Turned F w w') (hF : ∀ k, F k → who k ≠ some .bytes) : ActV w' who r a :=
  ⟨h.cut, h.at_, (h.lv.turnedB_ ht (fun hp => (h.blk hp).off hF)).mono_ ht.size, h.blk⟩
theorem ActV.more {r : RawC} {a : Sf.Act} (h : ActV w who r a) (hm : More who who') : ActV w who' r a := ⟨h.cut, h.at_, h.lv, fun hp => (h.blk hp).more hm⟩
theorem HasX.turned {i : Nat} {x : RawX} {f : Sf.File} (h : HasX w who i x f) (ht : Turned F w w') (hF : ∀ k, F k → who k ≠ some .bytes ∧ who k ≠ some (.fsure i) ∧ who k ≠ some (.frow i) ∧ who k ≠ some (.fnow i)) : HasX w' who i x f := by
  obtain ⟨h1, h2, h3, h4, ⟨rc, h5, h6, h7⟩, h8, h9, h10⟩ := h
  exact ⟨h1.turned_ ht (h2.off fun k hk => (hF k hk).2.1), h2, h3.turned_ ht (h4.off fun k hk => (hF k hk).2.2.2), h4,
    ⟨rc, h5, h6.turned_ ht (h8.off fun k hk => (hF k hk).2.2.1), fun j r a hr ha => (h7 j r a hr ha).turned ht fun k hk => (hF k hk).1⟩, h8, h9, h10⟩
theorem HasX.more {i : Nat} {x : RawX} {f : Sf.File} (h : HasX w who i x f) (hm : More who who') : HasX w who' i x f := by
  obtain ⟨h1, h2, h3, h4, ⟨rc, h5, h6, h7⟩, h8, h9, h10⟩ := h
  exact ⟨h1, h2.more hm, h3, h4.more hm, ⟨rc, h5, h6, fun j r a hr ha => (h7 j r a hr ha).more hm⟩, h8.more hm, h9, h10⟩
end
/-- What may be, s acts ahead of their number. -/
structure GoodS (s : Nat) (t : Sf.St) : Prop where
  room : t.room ≤ 1048576
  files : t.files.length ≤ 64 + t.acts + s
  rows : t.row.length ≤ t.acts + s
  acts : t.acts ≤ 1099511627776
  fuse : t.fuse < 9223372036854775808
  sure : Sf.OkDir t.sure
  seen : Sf.OkDir t.seen
  row : ∀ d ∈ t.row, Sf.OkDir d
  lens : ∀ d, d = t.sure ∨ d = t.seen ∨ d ∈ t.row → d.length ≤ 64 ∧ ∀ e ∈ d, e.2 < t.files.length
  nums : (t.seen.map (·.2)).Nodup
  frow : ∀ f ∈ t.files, f.row.length ≤ t.acts + s
theorem GoodS.inv {s : Nat} {t : Sf.St} (h : GoodS s t) : Sf.Inv t := ⟨h.nums, (h.lens t.seen (.inr (.inl rfl))).2⟩
theorem GoodS.slack {s : Nat} {t : Sf.St} (h : GoodS s t) : GoodS (s + 1) t := ⟨h.room, by have := h.files; omega, by have := h.rows; omega, h.acts, h.fuse, h.sure, h.seen, h.row, h.lens, h.nums, fun f hf => by have := h.frow f hf; omega⟩
/-- A number that some directory of the disk has. -/
def Reach (t : Sf.St) (i : Nat) : Prop := ∃ d, (d = t.sure ∨ d = t.seen ∨ d ∈ t.row) ∧ ∃ e ∈ d, e.2 = i
structure PBody (w : World) (who : Who) (s : Nat) (t : Sf.St) (bf bs bn : Nat) (vr : Sl) (ff : Int → Option RawX) (rn : List RawN) : Prop where
  files : IsMp fM w bf (64 + t.acts + s) ff
  names : IsMp dM w bn (64 + t.acts + s) (Sf.dirF t.seen)
  sure : IsMp dM w bs (64 + t.acts + s) (Sf.dirF t.sure)
  row : OwnL nK w 0 (slV vr) rn
  hrow : t.row = Sf.dirs t.sure rn
  hseen : t.seen = rn.foldl Sf.doN t.sure
  nil : t.row = [] → vr = ⟨none, 0, 0⟩
  file : ∀ (i : Int) (x : RawX), ff i = some x → ∃ (n : Nat) (f : Sf.File), i = (n : Int) ∧ t.files[n]? = some f ∧ HasX w who n x f
  there : ∀ n : Nat, Reach t n → (ff (n : Int)).isSome
  filesW : who bf = some .files
  namesW : who bn = some .names
  sureW : who bs = some .sure
  rowW : Bears who (slV vr) .row
def headP (t : Sf.St) (bf bs bn : Nat) (vr : Sl) : Array Value :=
  #[.int .i64 (t.room : Nat), .map (some bf), .int .i64 (t.files.length : Nat), .map (some bs), slV vr, .map (some bn), .int .i64 (t.acts : Nat), .int .i64 (t.fuse : Nat), .bool t.dead]
def IsHead (w : World) (b : Nat) (C : Array Value) : Prop := w.heap[b]? = some (.cells C 50 (0, 0))
structure PHas (w : World) (fp : Fp) (s : Nat) (t : Sf.St) (b : Nat) (who : Who) (bf bs bn : Nat) (vr : Sl) (ff : Int → Option RawX) (rn : List RawN) : Prop where
  head : IsHead w b (headP t bf bs bn vr)
  body : PBody w who s t bf bs bn vr ff rn
  good : GoodS s t
  mine : who b = some .head
  m : ∀ k, fp.M k ↔ (who k).isSome
  r : ∀ k, ¬ fp.R k
  lt : ∀ k, (who k).isSome → k < w.heap.size
def PDisk (w : World) (fp : Fp) (t : Sf.St) (b : Nat) : Prop := ∃ who bf bs bn vr ff rn, PHas w fp 0 t b who bf bs bn vr ff rn
section
variable {w w' : World} {fp : Fp} {s : Nat} {t : Sf.St} {b : Nat} {who who' : Who} {bf bs bn : Nat} {vr : Sl} {ff : Int → Option RawX} {rn : List RawN} {F : Nat → Prop}
theorem PBody.turned (h : PBody w who s t bf bs bn vr ff rn) (ht : Turned F w w') (hF : ∀ k, F k → who k = none ∨ who k = some .head) : PBody w' who s t bf bs bn vr ff rn := by
  have no : ∀ k r, r ≠ Role.head → who k = some r → ¬ F k := fun k r hr hk hf => by
    rcases hF k hf with h1 | h1
    · rw [h1] at hk; cases hk
    · rw [h1] at hk; exact hr (Option.some.inj hk).symm
  have no2 : ∀ r, r ≠ Role.head → ∀ k, F k → who k ≠ some r := fun r hr k hf hk => no k r hr hk hf
  exact ⟨h.files.turned_ ht (no _ _ (by simp) h.filesW), h.names.turned_ ht (no _ _ (by simp) h.namesW), h.sure.turned_ ht (no _ _ (by simp) h.sureW), h.row.turned_ ht (h.rowW.off (no2 _ (by simp))), h.hrow, h.hseen, h.nil,
    fun i x hx => by
      obtain ⟨n, f, h1, h2, h3⟩ := h.file i x hx
      exact ⟨n, f, h1, h2, h3.turned ht fun k hk => ⟨no2 _ (by simp) k hk, no2 _ (by simp) k hk, no2 _ (by simp) k hk, no2 _ (by simp) k hk⟩⟩,
    h.there, h.filesW, h.namesW, h.sureW, h.rowW⟩
theorem PHas.turned (h : PHas w fp s t b who bf bs bn vr ff rn) (ht : Turned F w w') (hF : ∀ k, F k → who k = none) : PHas w' fp s t b who bf bs bn vr ff rn := by
  have hb := h.lt b (by rw [h.mine]; rfl)
  exact ⟨(ht.block b hb (fun hf => by have := hF b hf; rw [h.mine] at this; cases this)).trans h.head, h.body.turned ht (fun k hk => .inl (hF k hk)), h.good, h.mine, h.m, h.r, fun k hk => Nat.lt_of_lt_of_le (h.lt k hk) ht.size⟩
theorem PHas.below (h : PHas w fp s t b who bf bs bn vr ff rn) (hb : Below w.heap.size w w') : PHas w' fp s t b who bf bs bn vr ff rn :=
  h.turned (Turned.of_below hb) fun k hk => by
    cases hw : who k with
    | none => rfl
    | some r => have := h.lt k (by rw [hw]; rfl); omega
theorem PHas.new (h : PHas w fp s t b who bf bs bn vr ff rn) {k : Nat} (hk : w.heap.size ≤ k) : who k = none := by
  cases hw : who k with
  | none => rfl
  | some r => have := h.lt k (by rw [hw]; rfl); omega
theorem PHas.cell (h : PHas w fp s t b who bf bs bn vr ff rn) {j : Nat} {u : Value} (hj : (headP t bf bs bn vr)[j]? = some u) : w.cell? ⟨b, j, none⟩ = some u := by
  rw [cell_of_row _ b j _ _ _ h.head]
  exact hj
theorem pdisk_lt (h : PDisk w fp t b) : fp.Lt w.heap.size := by
  obtain ⟨who, bf, bs, bn, vr, ff, rn, h⟩ := h
  exact fun k hk => hk.elim (fun hm => h.lt k ((h.m k).1 hm)) (fun hr => absurd hr (h.r k))
theorem pdisk_sep (h : PDisk w fp t b) : ∀ k, fp.M k → ¬ fp.R k := by
  obtain ⟨who, bf, bs, bn, vr, ff, rn, h⟩ := h
  exact fun k _ => h.r k
theorem pdisk_turned (h : PDisk w fp t b) (ht : Turned F w w') (hF : fp.Off F) : PDisk w' fp t b := by
  obtain ⟨who, bf, bs, bn, vr, ff, rn, h⟩ := h
  refine ⟨who, bf, bs, bn, vr, ff, rn, h.turned ht fun k hk => ?_⟩
  cases hw : who k with
  | none => rfl
  | some r => exact absurd ((h.m k).2 (by rw [hw]; rfl)) (hF k hk).1
theorem PHas.mono (h : PHas w fp s t b who bf bs bn vr ff rn) : PHas w fp (s + 1) t b who bf bs bn vr ff rn :=
  ⟨h.head, ⟨h.body.files.mono_ (by omega), h.body.names.mono_ (by omega), h.body.sure.mono_ (by omega), h.body.row, h.body.hrow, h.body.hseen, h.body.nil, h.body.file, h.body.there, h.body.filesW, h.body.namesW, h.body.sureW, h.body.rowW⟩, h.good.slack, h.mine, h.m, h.r, h.lt⟩
theorem PHas.len_seen (h : PHas w fp s t b who bf bs bn vr ff rn) {u : ByteArray} {k : Nat} (hg : Sf.get t u = (k, 0)) : t.dead = false ∧ Sf.find t.seen u = some k := by
  have := Sf.get_ok (t := t) (s := u) (by rw [hg])
  rw [hg] at this
  exact this
/-- The file of a name. -/
theorem PHas.file_of (h : PHas w fp s t b who bf bs bn vr ff rn) {u : ByteArray} {k : Nat} (hg : Sf.get t u = (k, 0)) : ∃ x, ff (k : Int) = some x ∧ k < t.files.length ∧ HasX w who k x (Sf.fileAt t k) := by
  obtain ⟨_, hf⟩ := h.len_seen hg
  have hm := Sf.find_mem hf
  have hs := h.body.there k ⟨t.seen, .inr (.inl rfl), _, hm, rfl⟩
  obtain ⟨x, hx⟩ := Option.isSome_iff_exists.1 hs
  obtain ⟨n, f, h1, h2, h3⟩ := h.body.file _ x hx
  have e : n = k := by omega
  subst e
  refine ⟨x, hx, (List.getElem?_eq_some_iff.1 h2).1, ?_⟩
  have : Sf.fileAt t n = f := by unfold Sf.fileAt; rw [List.getD_eq_getElem?_getD, h2]; rfl
  rw [this]
  exact h3
end
theorem pdisk_law : DiskLaw PDisk := ⟨pdisk_lt, pdisk_turned, pdisk_sep⟩
end Go.Proofs.Ytmcbjcbnckpfkaa
namespace Go.Proofs.Ytmcbjcbnckpfkaa.Sf
open Go.RowKit
set_option linter.unusedVariables false
theorem get_dead {t : St} (h : t.dead = true) (s : ByteArray) : get t s = (0, 13) := by unfold get; rw [if_pos h]
theorem dead_deed {t : St} (h : t.dead = true) (o : Op) : doOp t o = (if o.call ≤ 8 then 13 else 0, t) := by
  unfold doOp
  by_cases h0 : o.call = 0
  · rw [if_pos h0, if_pos (by omega)]; unfold create; rw [if_pos h]
  rw [if_neg h0]
  by_cases h1 : o.call = 1
  · rw [if_pos h1, if_pos (by omega)]; unfold append; rw [get_dead h, if_pos (by decide)]
  rw [if_neg h1]
  by_cases h2 : o.call = 2
  · rw [if_pos h2, if_pos (by omega)]; unfold write; rw [get_dead h, if_pos (by decide)]
  rw [if_neg h2]
  by_cases h3 : o.call = 3
  · rw [if_pos h3, if_pos (by omega)]; unfold cut; rw [get_dead h, if_pos (by decide)]
  rw [if_neg h3]
  by_cases h4 : o.call = 4
  · rw [if_pos h4, if_pos (by omega)]; unfold rename; rw [get_dead h, if_pos (by decide)]
  rw [if_neg h4]
  by_cases h5 : o.call = 5
  · rw [if_pos h5, if_pos (by omega)]; unfold remove; rw [get_dead h, if_pos (by decide)]
  rw [if_neg h5]
  by_cases h6 : o.call = 6
  · rw [if_pos h6, if_pos (by omega)]; unfold sync; rw [get_dead h, if_pos (by decide)]
  rw [if_neg h6]
  by_cases h7 : o.call = 7
  · rw [if_pos h7, if_pos (by omega)]; unfold syncDir; rw [if_pos h]
  rw [if_neg h7]
  by_cases h8 : o.call = 8
  · rw [if_pos h8, if_pos (by omega)]; unfold arm; rw [if_pos h]
  rw [if_neg h8, if_neg (by omega)]
theorem used_dead {t : St} (h : t.dead = true) : used t = 0 := by unfold used; rw [if_pos h]
theorem names_dead {t : St} (h : t.dead = true) : names t = [] := by unfold names; rw [if_pos h]
theorem room_dead {t : St} (h : t.dead = true) : roomOf t = 0 := by unfold roomOf; rw [if_pos h]
theorem blown_acts (t : St) : (blown t).2.acts = t.acts + 1 := by
  unfold blown
  split
  · rfl
  · split <;> rfl
theorem arm_acts (t : St) (n : Int) : (arm t n).2.acts ≤ t.acts := by
  unfold arm
  split
  · exact Nat.le_refl _
  · split <;> exact Nat.le_refl _
theorem acts_le (t : St) (o : Op) : (doOp t o).2.acts ≤ t.acts + 1 := by
  have hb := blown_acts
  unfold doOp
  split
  · unfold create; split; · simp
    split; · simp
    split; · simp
    split; · simp
    unfold turn; rw [hb]; simp
  split
  · unfold append; split; · simp
    split; · simp
    unfold add; rw [hb]; simp
  split
  · unfold write; split; · simp
    split; · simp
    split; · simp
    unfold add; rw [hb]; simp
  split
  · unfold cut; split; · simp
    split; · simp
    unfold add; rw [hb]; simp
  split
  · unfold rename; split; · simp
    split; · simp
    unfold turn; rw [hb]; simp
  split
  · unfold remove; split; · simp
    unfold turn; rw [hb]; simp
  split
  · unfold sync; split; · simp
    split; · rw [hb]; simp
    simp only [hb]; simp
  split
  · unfold syncDir; split; · simp
    split; · rw [hb]; simp
    simp only [hb]; simp
  split
  · unfold arm; split; · simp
    split <;> simp
  simp
end Go.Proofs.Ytmcbjcbnckpfkaa.Sf
namespace Go.Proofs.Ytmcbjcbnckpfkaa
open Go.RowKit
set_option linter.unusedVariables false
theorem equalIn_map_nil (w : World) (d : Nat) (t k e : TypeId) (p : Option Nat) (h : Try.prog.underlying t = some (.map k e)) : (Op.equalIn (d + 1) t (.map p) (.map none)).run Try.prog w = .ok p.isNone w := by
  cases p <;> simp [Op.equalIn, run_underlying h]
theorem neq_map_nil (w : World) (t k e : TypeId) (p : Option Nat) (h : Try.prog.underlying t = some (.map k e)) : (binOp .neq t (.map p) (.map none)).run Try.prog w = .ok (.bool (!p.isNone)) w := by
  simp only [binOp]
  simp [show Op.equal t (.map p) (.map none) = Op.equalIn (9999 + 1) t (.map p) (.map none) from rfl, equalIn_map_nil w 9999 t k e p h]
theorem eql_map_nil (w : World) (t k e : TypeId) (p : Option Nat) (h : Try.prog.underlying t = some (.map k e)) : (binOp .eql t (.map p) (.map none)).run Try.prog w = .ok (.bool p.isNone) w := by
  simp only [binOp]
  simp [show Op.equal t (.map p) (.map none) = Op.equalIn (9999 + 1) t (.map p) (.map none) from rfl, equalIn_map_nil w 9999 t k e p h]
theorem head_cellP {w : World} {b : Nat} {C : Array Value} (h : IsHead w b C) {j : Nat} {u : Value} (hj : C[j]? = some u) : w.cell? ⟨b, j, none⟩ = some u := by
  rw [cell_of_row _ b j _ _ _ h]; exact hj
theorem head_setP {w : World} {b : Nat} {C C' : Array Value} (h : IsHead w b C) (j : Nat) (u : Value) (hC : C.set! j u = C') : IsHead (w.setCell ⟨b, j, none⟩ u) b C' := by
  unfold IsHead
  rw [heap_setCell_same w b j _ _ u h, ← hC]
  rfl
section
variable {w : World} {b : Nat}
set_option maxHeartbeats 1000000 in
set_option maxRecDepth 100000 in
theorem pmade_cell (m : Option Nat) (h : w.cell? ⟨b, 1, none⟩ = some (.map m)) : Calls Try.prog 49 #[.pointer (some ⟨b, 0, none⟩)] w (fun e w' => e = .returned (.bool m.isSome) ∧ w = w') := by
  have hq := fun w => neq_map_nil w 45 _ _ m Try.underlying45
  go_enter Try.func49, Try.ntmps49
  go_wp2
  go_ret
  exact ⟨rfl, rfl⟩
set_option maxHeartbeats 1000000 in
set_option maxRecDepth 100000 in
theorem prefusal_cell (m : Nat) (h : w.cell? ⟨b, 1, none⟩ = some (.map (some m))) (d : Bool) (h8 : w.cell? ⟨b, 8, none⟩ = some (.bool d)) :
    Calls Try.prog 39 #[.pointer (some ⟨b, 0, none⟩)] w (fun e w' => e = .returned (.int .i64 (if d then 13 else 0)) ∧ w = w') := by
  have CM := Lib.hid (pmade_cell (some m) h)
  cases d with
  | true =>
    go_enter Try.func39, Try.ntmps39
    go_wp2_with fail
    refine CM.out.mono ?_
    rintro e1 w1 ⟨rfl, rfl⟩
    clear CM
    go_wp2
    go_ret
    exact ⟨rfl, rfl⟩
  | false =>
    go_enter Try.func39, Try.ntmps39
    go_wp2_with fail
    refine CM.out.mono ?_
    rintro e1 w1 ⟨rfl, rfl⟩
    clear CM
    go_wp2
    go_ret
    exact ⟨rfl, rfl⟩
end
section
variable {w : World} {fp : Fp} {s : Nat} {t : Sf.St} {b : Nat} {who : Who} {bf bs bn : Nat} {vr : Sl} {ff : Int → Option RawX} {rn : List RawN}
theorem prefusal_disk (h : PHas w fp s t b who bf bs bn vr ff rn) : Calls Try.prog 39 #[.pointer (some ⟨b, 0, none⟩)] w (fun e w' => e = .returned (.int .i64 (if t.dead then 13 else 0)) ∧ w = w') :=
  prefusal_cell bf (h.cell rfl) t.dead (h.cell rfl)
set_option maxHeartbeats 1000000 in
set_option maxRecDepth 100000 in
theorem pfind_disk (h : PHas w fp s t b who bf bs bn vr ff rn) (u : ByteArray) (hu : u.size ≤ maxLen) :
    Calls Try.prog 42 #[.pointer (some ⟨b, 0, none⟩), .string u] w (fun e w' => e = .returned (.tuple #[.int .i64 ((Sf.get t u).1 : Nat), .int .i64 ((Sf.get t u).2 : Nat)]) ∧ w = w') := by
  have CR := Lib.hid (prefusal_disk h)
  have h5 : w.cell? ⟨b, 5, none⟩ = some (.map (some bn)) := h.cell rfl
  have hl := h.body.names.look_ok (x := u) hu
  change (Instr.lookup 47 (.map (some bn)) (.string u) true).run Try.prog w = .ok (.tuple #[.int .i64 ((Sf.dirF t.seen u).getD 0), .bool (Sf.dirF t.seen u).isSome]) w at hl
  clear h
  cases hd : t.dead with
  | true =>
    have HE := Lib.hid (Sf.get_dead hd u)
    rw [hd] at CR
    clear hd hl
    go_enter Try.func42, Try.ntmps42
    go_wp2_with fail
    refine CR.out.mono ?_
    rintro e1 w1 ⟨rfl, rfl⟩
    clear CR
    go_wp2
    go_ret2
    rw [HE.out]
    exact ⟨rfl, rfl⟩
  | false =>
    rw [hd] at CR
    cases hf : Sf.find t.seen u with
    | none =>
      have HE : Hid (Sf.get t u = (0, 7)) := by unfold Hid Sf.get; rw [hd, hf]; rfl
      have e1 : Sf.dirF t.seen u = none := by unfold Sf.dirF; rw [hf]; rfl
      rw [e1] at hl
      clear hd hf e1
      go_enter Try.func42, Try.ntmps42
      go_wp2_with fail
      refine CR.out.mono ?_
      rintro e1 w1 ⟨rfl, rfl⟩
      clear CR
      go_wp2
      go_ret2
      rw [HE.out]
      exact ⟨rfl, rfl⟩
    | some n =>
      have HE : Hid (Sf.get t u = (n, 0)) := by unfold Hid Sf.get; rw [hd, hf]; rfl
      have e1 : Sf.dirF t.seen u = some (n : Int) := by unfold Sf.dirF; rw [hf]; rfl
      rw [e1] at hl
      clear hd hf e1
      go_enter Try.func42, Try.ntmps42
      go_wp2_with fail
      refine CR.out.mono ?_
      rintro e1 w1 ⟨rfl, rfl⟩
      clear CR
      go_wp2
      go_ret2
      rw [HE.out]
      exact ⟨rfl, rfl⟩
end
end Go.Proofs.Ytmcbjcbnckpfkaa
