/-
  PfNames: simfs: Names; maps.Clone of a directory.
  PfS: simfs: a disk of which one file becomes another one.
  PfStr: strings.Clone: the same bytes; a row of them is laid, and frozen.
-/
import Derived.Test.YtmcbjcbnckpfkaaGreatPt16
import Derived.Shelf.SlMaps.Clone
import Derived.Test.YtmcbjcbnckpfkaaGreatPt14
import Derived.Test.YtmcbjcbnckpfkaaGreatPt13
import Derived.Lib.UnsafeStr
import Derived.Lib.BufferWrite
namespace Go.Proofs.YtmcbjcbnckpfkaaGreat
open Go.RowKit
set_option linter.unusedVariables false
section
variable {w : World} {fp : Fp} {s : Nat} {t : Sf.St} {b : Nat} {who : Who} {bf bs bn : Nat} {vr : Sl} {ff : Int → Option RawX} {rn : List RawN}
set_option maxHeartbeats 1000000 in
set_option maxRecDepth 100000 in
theorem pnames_any (h : PDisk w fp t b) : Calls Tryz.prog 41 #[.pointer (some ⟨b, 0, none⟩)] w (IsQ1 sK (Sf.names t) w) := by
  obtain ⟨who, bf, bs, bn, vr, ff, rn, h⟩ := h
  have CR := Lib.hid (prefusal_disk h)
  have h5 : w.cell? ⟨b, 5, none⟩ = some (.map (some bn)) := h.cell rfl
  have CK := Lib.hid (prising_any bn _ t.seen w h.body.names h.good.seen (h.good.lens t.seen (.inr (.inl rfl))).1)
  clear h
  cases hd : t.dead with
  | true =>
    have HE : Hid (Sf.names t = []) := if_pos hd
    rw [hd] at CR
    clear hd CK
    go_enter Tryz.func41, Tryz.ntmps41
    go_wp2_with fail
    refine CR.out.mono ?_
    rintro e1 w1 ⟨rfl, rfl⟩
    clear CR
    go_wp2
    go_ret
    rw [HE.out]
    exact ⟨none, 0, rfl, OwnQ.nil_ _ _ _, Below.refl _ _⟩
  | false =>
    have HE : Hid (Sf.names t = t.seen.map (·.1)) := if_neg (by rw [hd]; simp)
    rw [hd] at CR
    rw [← HE.out] at CK
    clear hd
    go_enter Tryz.func41, Tryz.ntmps41
    go_wp2_with fail
    refine CR.out.mono ?_
    rintro e1 w1 ⟨rfl, rfl⟩
    clear CR
    go_wp2_with fail
    refine CK.out.mono ?_
    rintro e2 w2 ⟨A, c, rfl, ho, hb⟩
    have HO := Lib.hid ho
    have HB := Lib.hid hb
    clear CK ho hb
    go_wp2
    go_ret
    exact ⟨A, c, rfl, HO.out, HB.out⟩
set_option maxHeartbeats 1000000 in
set_option maxRecDepth 100000 in
/-- A copy of a directory: a new block. -/
theorem pmclone_any (b n : Nat) (f : ByteArray → Option Int) (w : World) (h : IsMp dM w b n f) : Calls Tryz.prog 56 #[.map (some b)] w (fun e w' => e = .returned (.map (some w.heap.size)) ∧ IsMp dM w' w.heap.size n f ∧ Below w.heap.size w w' ∧ w'.heap.size = w.heap.size + 1) := by
  obtain ⟨D, ⟨es, clock, hb, F, hs, hD⟩, hT⟩ := h
  have hq := fun w => eql_map_nil w 75 _ _ (some b) Tryz.underlying75
  go_enter Tryz.func56, Tryz.ntmps56
  go_wp2
  rw [run_callFunc_extern Tryz.func87 (by kernel_rfl) (by kernel_rfl) (by kernel_rfl) (e := Extern.MapsClone.clone) (by kernel_rfl), run_maps_clone_sl w 75 hb]
  simp only [Result.andThen]
  rw [Oper.upon_value]
  go_wp2
  rw [run_typeAssert_map_sl _ 75 20 _ _ _ Tryz.underlying75]
  simp only [Result.andThen]
  rw [Oper.upon_value]
  go_wp2
  go_ret
  exact ⟨rfl, ⟨D, ⟨es, clock, (MapKept.heap_alloc w _).1, F, hs, hD⟩, hT⟩, (Below.refl _ w).alloc (Nat.le_refl _) _, by simp⟩
end
end Go.Proofs.YtmcbjcbnckpfkaaGreat
namespace Go.Proofs.YtmcbjcbnckpfkaaGreat
open Go.RowKit
set_option linter.unusedVariables false
section
variable {w w' : World} {fp : Fp} {s q : Nat} {t : Sf.St} {b : Nat} {who who' : Who} {bf bs bn : Nat} {vr : Sl} {ff : Int → Option RawX} {rn : List RawN} {F : Nat → Prop}
theorem PBody.set_file (h : PBody w who s t bf bs bn vr ff rn) {n : Nat} (hn : n < t.files.length) {x : RawX} (hx : ff (n : Int) = some x) (x' : RawX) (f' : Sf.File) (hm : More who who') (hT : Turned F w w')
    (hF : ∀ k, F k → who k = none ∨ who k = some .head ∨ who k = some .files ∨ who k = some (.fsure n) ∨ who k = some (.frow n) ∨ who k = some (.fnow n)) (hmap : IsMp fM w' bf (64 + t.acts + q) (fun k => if k = (n : Int) then some x' else ff k)) (hX : HasX w' who' n x' f') (hq : s ≤ q) :
    PBody w' who' q { t with files := t.files.set n f' } bf bs bn vr (fun k => if k = (n : Int) then some x' else ff k) rn := by
  have no : ∀ r, r ≠ Role.head → r ≠ Role.files → r ≠ Role.fsure n → r ≠ Role.frow n → r ≠ Role.fnow n → ∀ k, F k → who k ≠ some r := fun r h1 h2 h3 h4 h5 k hf hk => by
    rcases hF k hf with h6 | h6 | h6 | h6 | h6 | h6 <;> rw [h6] at hk
    · cases hk
    · exact h1 (Option.some.inj hk).symm
    · exact h2 (Option.some.inj hk).symm
    · exact h3 (Option.some.inj hk).symm
    · exact h4 (Option.some.inj hk).symm
    · exact h5 (Option.some.inj hk).symm
  have no1 : ∀ r k, who k = some r → r ≠ Role.head → r ≠ Role.files → r ≠ Role.fsure n → r ≠ Role.frow n → r ≠ Role.fnow n → ¬ F k := fun r k hk h1 h2 h3 h4 h5 hf => no r h1 h2 h3 h4 h5 k hf hk
  refine ⟨hmap, (h.names.turned_ hT (no1 _ _ h.namesW (by simp) (by simp) (by simp) (by simp) (by simp))).mono_ (by show _ ≤ 64 + t.acts + q; omega), (h.sure.turned_ hT (no1 _ _ h.sureW (by simp) (by simp) (by simp) (by simp) (by simp))).mono_ (by show _ ≤ 64 + t.acts + q; omega),
    h.row.turned_ hT (h.rowW.off (no _ (by simp) (by simp) (by simp) (by simp) (by simp))), h.hrow, h.hseen, h.nil, fun i y hy => ?_, fun m hmr => ?_, hm _ _ h.filesW, hm _ _ h.namesW, hm _ _ h.sureW, h.rowW.more hm⟩
  · by_cases e : i = (n : Int)
    · rw [if_pos e] at hy
      obtain rfl := Option.some.inj hy
      exact ⟨n, f', e, by show (t.files.set n f')[n]? = _; rw [List.getElem?_set_self hn], hX⟩
    · rw [if_neg e] at hy
      obtain ⟨m, f, h1, h2, h3⟩ := h.file i y hy
      have hne : n ≠ m := fun e2 => e (by rw [h1, e2])
      refine ⟨m, f, h1, by show (t.files.set n f')[m]? = _; rw [List.getElem?_set_ne hne]; exact h2, (h3.turned hT fun k hk => ⟨no _ (by simp) (by simp) (by simp) (by simp) (by simp) k hk, ?_, ?_, ?_⟩).more hm⟩
      · exact no _ (by simp) (by simp) (by simpa using Ne.symm hne) (by simp) (by simp) k hk
      · exact no _ (by simp) (by simp) (by simp) (by simpa using Ne.symm hne) (by simp) k hk
      · exact no _ (by simp) (by simp) (by simp) (by simp) (by simpa using Ne.symm hne) k hk
  · by_cases e : (m : Int) = (n : Int)
    · rw [if_pos e]; rfl
    · rw [if_neg e]; exact h.there m hmr
theorem GoodS.set_file (h : GoodS s t) {n : Nat} {f' : Sf.File} (hf : f'.row.length ≤ t.acts + q) (hq : s ≤ q) : GoodS q { t with files := t.files.set n f' } := by
  refine ⟨h.room, by show (t.files.set n f').length ≤ 64 + t.acts + q; rw [List.length_set]; have := h.files; omega, by have := h.rows; show t.row.length ≤ t.acts + q; omega, h.acts, h.fuse, h.sure, h.seen, h.row, fun d hd => ⟨(h.lens d hd).1, fun e he => by show _ < (t.files.set n f').length; rw [List.length_set]; exact (h.lens d hd).2 e he⟩, h.nums, fun f hfm => ?_⟩
  rcases List.mem_or_eq_of_mem_set hfm with h1 | rfl
  · have := h.frow f h1; show f.row.length ≤ t.acts + q; omega
  · exact hf
/-- The footprint of a disk whose blocks have these roles. -/
def fpOf (who : Who) : Fp := ⟨fun k => (who k).isSome, fun _ => False⟩
theorem PHas.next_ (h : PHas w fp s t b who bf bs bn vr ff rn) (hn : ∀ k, (who' k).isSome → (who k).isSome ∨ w.heap.size ≤ k) : fp.Next (fpOf who') w.heap.size := ⟨fun k hk => (hn k hk).imp (fun h1 => (h.m k).2 h1) id, fun k hk => hk.elim⟩
theorem head_set_file (t : Sf.St) (n : Nat) (f' : Sf.File) : headP { t with files := t.files.set n f' } bf bs bn vr = headP t bf bs bn vr := by
  unfold headP
  simp only [List.length_set]
/-- An act more of a file. -/
theorem FileOk.more {f : Sf.File} (h : FileOk f) {a : Sf.Act} (ha : a.at_ ≤ (Sf.now f).length ∧ a.b.length ≤ 1048576 ∧ (a.cut = true → a.b = [])) (hl : (Sf.done (Sf.now f) a).length ≤ 1048576) (hr : f.row.length + 1 ≤ 2199023255552) : FileOk ⟨f.sure, f.row ++ [a]⟩ where
  len := fun k hk => by
    rw [List.length_append, List.length_singleton] at hk
    by_cases e : k = f.row.length + 1
    · subst e
      have e2 : Sf.bytes ⟨f.sure, f.row ++ [a]⟩ (f.row.length + 1) = Sf.now ⟨f.sure, f.row ++ [a]⟩ := by rw [← Sf.bytes_all, List.length_append, List.length_singleton]
      rw [e2, Sf.now_add]
      exact hl
    · have e2 : Sf.bytes ⟨f.sure, f.row ++ [a]⟩ k = Sf.bytes f k := by
        unfold Sf.bytes
        rw [List.take_append_of_le_length (by omega)]
      rw [e2]
      exact h.len k (by omega)
  at_ := fun k c hk => by
    by_cases e : k = f.row.length
    · subst e
      simp only [List.getElem?_append_right (Nat.le_refl _), Nat.sub_self, List.getElem?_cons_zero, Option.some.injEq] at hk
      subst hk
      have e2 : Sf.bytes ⟨f.sure, f.row ++ [a]⟩ f.row.length = Sf.now f := by
        rw [← Sf.bytes_all]
        unfold Sf.bytes
        rw [List.take_append_of_le_length (Nat.le_refl _)]
      rw [e2]
      exact ha
    · have hk' : k < f.row.length := by
        have := (List.getElem?_eq_some_iff.1 hk).1
        simp at this
        omega
      have e2 : Sf.bytes ⟨f.sure, f.row ++ [a]⟩ k = Sf.bytes f k := by
        unfold Sf.bytes
        rw [List.take_append_of_le_length (by omega)]
      rw [e2]
      exact h.at_ k c (by rwa [List.getElem?_append_left hk'] at hk)
  row := by rw [List.length_append, List.length_singleton]; exact hr
end
end Go.Proofs.YtmcbjcbnckpfkaaGreat
namespace Go.Proofs.YtmcbjcbnckpfkaaGreat
open Go.RowKit
set_option linter.unusedVariables false
theorem cellsY : Tryz.prog.cellsOf 5 = 1 := by kernel_rfl
theorem infoY : (Tryz.prog.info? 5).map (·.size) = some 1 := by kernel_rfl
set_option maxHeartbeats 2000000 in
set_option maxRecDepth 100000 in
theorem plite_any (s : ByteArray) (w : World) (hs : s.size ≤ 4096) : Calls Tryz.prog 99 #[.string s] w (fun e w' => e = .returned (.string s) ∧ Below w.heap.size w w') := by
  by_cases h0 : s.size = 0
  · have he : s = ⟨#[]⟩ := ByteArray.ext (Array.eq_empty_of_size_eq_zero h0)
    subst he
    go_enter Tryz.func99, Tryz.ntmps99
    go_wp2
    go_ret
    exact ⟨rfl, Below.refl _ _⟩
  · obtain ⟨W1, hmk, hown, hg1⟩ := run_make_l yK w w.heap.size .i64 .i64 s.size s.size (Nat.le_refl _) (by show 1 * _ ≤ _; omega) (by simp only [maxLen]; omega) (Nat.le_refl _)
    change (Instr.makeSlice 33 (.int .i64 (s.size : Nat)) (.int .i64 (s.size : Nat))).run Tryz.prog w = _ at hmk
    have hh : ∃ cs : Array Value, cs.size = s.size ∧ W1.heap[w.heap.size]? = some (.cells cs 5 (0, 0)) := by
      rcases hown.2 with ⟨e, _⟩ | ⟨g, sp, e, _, _, _, hh⟩
      · cases e
      · injection e with e1 e2 e3
        injection e1 with e1
        injection e1 with e1
        subst e1
        rw [List.length_replicate] at e2 e3
        exact ⟨_, by rw [List.size_toArray, flat_len, List.length_append, List.length_replicate]; show (s.size + sp.length) * 1 = _; omega, hh⟩
    obtain ⟨cs, hcs, hh⟩ := hh
    have hcp := Lib.run_copy_row_string (P := Tryz.prog) W1 33 9 3 5 w.heap.size 0 s.size s.size s cs 5 Tryz.underlying33 infoY hh (Nat.le_refl _) (by omega)
    have hY : (cs.toList.take 0 ++ Lib.byteCells s.data.toList ++ cs.toList.drop (0 + s.size)).toArray = (Lib.byteCells s.data.toList).toArray := by
      rw [List.take_zero, List.nil_append, List.drop_of_length_le (by rw [Array.length_toList]; omega), List.append_nil]
    rw [hY] at hcp
    have hg2 : W1.heap[w.heap.size]? = some (.cells cs 5 (0, 0)) := hh
    have hr := setRow_heap W1 w.heap.size cs (Lib.byteCells s.data.toList).toArray 5 (0, 0) hh
    obtain ⟨W2, hW2⟩ : ∃ W2, W1.setRow w.heap.size (Lib.byteCells s.data.toList).toArray = W2 := ⟨_, rfl⟩
    rw [hW2] at hcp hr
    have hb2 : Below w.heap.size w W2 := by
      rw [← hW2]
      have hbb := (Below.refl w.heap.size w).grown hg1 (Nat.le_refl _) (by intro k hk; cases hk)
      exact ⟨hbb.os, hbb.tape, hbb.output, by simpa using hbb.size, fun k hk => (setRow_other _ _ _ _ (by omega)).trans (hbb.block k hk)⟩
    have hsl : s.data.toList.length = s.size := by rw [Array.length_toList]; rfl
    have hUS := Lib.run_unsafeString_row (P := Tryz.prog) (w := W2) 137 3 9 5 Tryz.underlying137 cellsY w.heap.size (Lib.byteCells s.data.toList).toArray.size (by unfold World.shape?; rw [hr]) s.data.toList (fun e => h0 (by rw [← hsl, e]; rfl)) (by rw [List.size_toArray, Lib.byteCells_length]; exact Nat.le_refl _) (by omega)
      (fun j x hx => Lib.cells_of_row hr (Lib.byteCells s.data.toList).toArray.size j _ (by rw [List.take_of_length_le (by simp), List.toList_toArray]; simp [Lib.byteCells, hx]))
    rw [hsl] at hUS
    have HB := Lib.hid hb2
    have hne : ((s.size : Int) == 0) = false := by rw [beq_eq_false_iff_ne]; omega
    have hst : (⟨s.data.toList.toArray⟩ : ByteArray) = s := by rw [Array.toArray_toList]
    rw [hst] at hUS
    clear hown hg1 hh hcs hY hg2 hW2 hb2 hst hsl
    go_enter Tryz.func99, Tryz.ntmps99
    go_wp2
    go_ret
    exact ⟨rfl, Lib.below_freeze HB.out (p := ⟨w.heap.size, 0, none⟩) (Nat.le_refl _) _⟩
set_option maxHeartbeats 1000000 in
set_option maxRecDepth 100000 in
theorem pstrclone_any (s : ByteArray) (w : World) (hs : s.size ≤ 4096) : Calls Tryz.prog 94 #[.string s] w (fun e w' => e = .returned (.string s) ∧ Below w.heap.size w w') := by
  have C := Lib.hid (plite_any s w hs)
  go_enter Tryz.func94, Tryz.ntmps94
  go_wp2_with fail
  refine C.out.mono ?_
  rintro e w1 ⟨rfl, hb⟩
  have HB := Lib.hid hb
  clear C hb
  go_wp2
  go_ret
  exact ⟨rfl, HB.out⟩
end Go.Proofs.YtmcbjcbnckpfkaaGreat
