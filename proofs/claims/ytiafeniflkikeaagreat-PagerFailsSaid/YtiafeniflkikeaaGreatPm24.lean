/- Parts of the proof. -/
import Derived.Test.YtiafeniflkikeaaGreatPm23
import Derived.Test.YtiafeniflkikeaaGreatPm22
import Derived.Lib.UnsafeStr
import Derived.Lib.BufferWrite
import Derived.Maps.OwnSet
import Derived.Test.YtiafeniflkikeaaGreatPm04
namespace Go.Proofs.YtiafeniflkikeaaGreat
open Go.RowKit
set_option linter.unusedVariables false
section
variable {w w' : World} {fp : Fp} {s q : Nat} {t : Sf.St} {b : Nat} {who who' : Who} {bf bs bn : Nat} {vr : Sl} {ff : Int → Option RawX} {rn : List RawN} {F : Nat → Prop}
theorem PBody.set_file (h : PBody w who s t bf bs bn vr ff rn) {n : Nat} (hn : n < t.files.length) {x : RawX} (hx : ff (n : Int) = some x) (x' : RawX) (f' : Sf.File) (hm : More who who') (hT : Turned F w w')
  (hF : ∀ k, F k → who k = none ∨ who k = some .head ∨ who k = some .files ∨ who k = some (.fsure n) ∨ who k = some (.frow n) ∨ who k = some (.fnow n)) (hmap : IsMp fM w' bf (64 + t.acts + q) (fun k => if k = (n : Int) then some x' else ff k)) (hX : HasX w' who' n x' f') (hq : s ≤ q) :
  PBody w' who' q { t with files := t.files.set n f' } bf bs bn vr (fun k => if k = (n : Int) then some x' else ff k) rn := by
 have no : ∀ r, r ≠ Role.head → r ≠ Role.files → r ≠ Role.fsure n → r ≠ Role.frow n → r ≠ Role.fnow n → ∀ k, F k → who k ≠ some r := fun r h1 h2 h3 h4 h5 k hf hk => by
  rcases hF k hf with h6 | h6 | h6 | h6 | h6 | h6 <;> rw [h6] at hk
  ·cases hk
  ·exact h1 (Option.some.inj hk).symm
  ·exact h2 (Option.some.inj hk).symm
  ·exact h3 (Option.some.inj hk).symm
  ·exact h4 (Option.some.inj hk).symm
  ·exact h5 (Option.some.inj hk).symm
 have no1 : ∀ r k, who k = some r → r ≠ Role.head → r ≠ Role.files → r ≠ Role.fsure n → r ≠ Role.frow n → r ≠ Role.fnow n → ¬ F k := fun r k hk h1 h2 h3 h4 h5 hf => no r h1 h2 h3 h4 h5 k hf hk
 refine ⟨hmap, (h.names.turned_ hT (no1 _ _ h.namesW (by simp) (by simp) (by simp) (by simp) (by simp))).mono_ (by show _ ≤ 64 + t.acts + q; omega), (h.sure.turned_ hT (no1 _ _ h.sureW (by simp) (by simp) (by simp) (by simp) (by simp))).mono_ (by show _ ≤ 64 + t.acts + q; omega),
  h.row.turned_ hT (h.rowW.off (no _ (by simp) (by simp) (by simp) (by simp) (by simp))), h.hrow, h.hseen, h.nil, fun i y hy => ?_, fun m hmr => ?_, hm _ _ h.filesW, hm _ _ h.namesW, hm _ _ h.sureW, h.rowW.more hm⟩
 ·by_cases e : i = (n : Int)
  ·rw [if_pos e] at hy
   obtain rfl := Option.some.inj hy
   exact ⟨n, f', e, by show (t.files.set n f')[n]? = _; rw [List.getElem?_set_self hn], hX⟩
  ·rw [if_neg e] at hy
   obtain ⟨m, f, h1, h2, h3⟩ := h.file i y hy
   have hne : n ≠ m := fun e2 => e (by rw [h1, e2])
   refine ⟨m, f, h1, by show (t.files.set n f')[m]? = _; rw [List.getElem?_set_ne hne]; exact h2, (h3.turned hT fun k hk => ⟨no _ (by simp) (by simp) (by simp) (by simp) (by simp) k hk, ?_, ?_, ?_⟩).more hm⟩
   ·exact no _ (by simp) (by simp) (by simpa using Ne.symm hne) (by simp) (by simp) k hk
   ·exact no _ (by simp) (by simp) (by simp) (by simpa using Ne.symm hne) (by simp) k hk
   ·exact no _ (by simp) (by simp) (by simp) (by simp) (by simpa using Ne.symm hne) k hk
 ·by_cases e : (m : Int) = (n : Int)
  ·rw [if_pos e]; rfl
  ·rw [if_neg e]; exact h.there m hmr
theorem GoodS.set_file (h : GoodS s t) {n : Nat} {f' : Sf.File} (hf : f'.row.length ≤ t.acts + q) (hq : s ≤ q) : GoodS q { t with files := t.files.set n f' } := by
 refine ⟨h.room, by show (t.files.set n f').length ≤ 64 + t.acts + q; rw [List.length_set]; have := h.files; omega, by have := h.rows; show t.row.length ≤ t.acts + q; omega, h.acts, h.fuse, h.sure, h.seen, h.row, fun d hd => ⟨(h.lens d hd).1, fun e he => by show _ < (t.files.set n f').length; rw [List.length_set]; exact (h.lens d hd).2 e he⟩, h.nums, fun f hfm => ?_⟩
 rcases List.mem_or_eq_of_mem_set hfm with h1 | rfl
 ·have := h.frow f h1; show f.row.length ≤ t.acts + q; omega
 ·exact hf
def fpOf (who : Who) : Fp := ⟨fun k => (who k).isSome, fun _ => False⟩
theorem head_set_file (t : Sf.St) (n : Nat) (f' : Sf.File) : headP { t with files := t.files.set n f' } bf bs bn vr = headP t bf bs bn vr := by
 unfold headP
 simp only [List.length_set]
theorem FileOk.more {f : Sf.File} (h : FileOk f) {a : Sf.Act} (ha : a.at_ ≤ (Sf.now f).length ∧ a.b.length ≤ 1048576 ∧ (a.cut = true → a.b = [])) (hl : (Sf.done (Sf.now f) a).length ≤ 1048576) (hr : f.row.length + 1 ≤ 2199023255552) : FileOk ⟨f.sure, f.row ++ [a]⟩ where
 len := fun k hk => by
  rw [List.length_append, List.length_singleton] at hk
  by_cases e : k = f.row.length + 1
  ·subst e
   have e2 : Sf.bytes ⟨f.sure, f.row ++ [a]⟩ (f.row.length + 1) = Sf.now ⟨f.sure, f.row ++ [a]⟩ := by rw [← Sf.bytes_all, List.length_append, List.length_singleton]
   rw [e2, Sf.now_add]
   exact hl
  ·have e2 : Sf.bytes ⟨f.sure, f.row ++ [a]⟩ k = Sf.bytes f k := by
    unfold Sf.bytes
    rw [List.take_append_of_le_length (by omega)]
   rw [e2]
   exact h.len k (by omega)
 at_ := fun k c hk => by
  by_cases e : k = f.row.length
  ·subst e
   simp only [List.getElem?_append_right (Nat.le_refl _), Nat.sub_self, List.getElem?_cons_zero, Option.some.injEq] at hk
   subst hk
   have e2 : Sf.bytes ⟨f.sure, f.row ++ [a]⟩ f.row.length = Sf.now f := by
    rw [← Sf.bytes_all]
    unfold Sf.bytes
    rw [List.take_append_of_le_length (Nat.le_refl _)]
   rw [e2]
   exact ha
  ·have hk' : k < f.row.length := by
    have := (List.getElem?_eq_some_iff.1 hk).1
    simp at this
    omega
   have e2 : Sf.bytes ⟨f.sure, f.row ++ [a]⟩ k = Sf.bytes f k := by
    unfold Sf.bytes
    rw [List.take_append_of_le_length (by omega)]
   rw [e2]
   exact h.at_ k c (by rwa [List.getElem?_append_left hk'] at hk)
 row := by rw [List.length_append, List.length_singleton]; exact hr
end
end Go.Proofs.YtiafeniflkikeaaGreat
namespace Go.Proofs.YtiafeniflkikeaaGreat
open Go.RowKit
set_option linter.unusedVariables false
theorem cellsY : Tryz.prog.cellsOf 5 = 1 := by kernel_rfl
theorem infoY : (Tryz.prog.info? 5).map (·.size) = some 1 := by kernel_rfl
set_option maxHeartbeats 2000000 in
set_option maxRecDepth 100000 in
theorem plite_any (s : ByteArray) (w : World) (hs : s.size ≤ 4096) : Calls Tryz.prog 81 #[.string s] w (fun e w' => e = .returned (.string s) ∧ Below w.heap.size w w') := by
 by_cases h0 : s.size = 0
 ·have he : s = ⟨#[]⟩ := ByteArray.ext (Array.eq_empty_of_size_eq_zero h0)
  subst he
  go_enter Tryz.func81, Tryz.ntmps81
  go_wp2
  go_ret
  exact ⟨rfl, Below.refl _ _⟩
 ·obtain ⟨W1, hmk, hown, hg1⟩ := run_make_l yK w w.heap.size .i64 .i64 s.size s.size (Nat.le_refl _) (by show 1 * _ ≤ _; omega) (by simp only [maxLen]; omega) (Nat.le_refl _)
  change (Instr.makeSlice 40 (.int .i64 (s.size : Nat)) (.int .i64 (s.size : Nat))).run Tryz.prog w = _ at hmk
  have hh : ∃ cs : Array Value, cs.size = s.size ∧ W1.heap[w.heap.size]? = some (.cells cs 5 (0, 0)) := by
   rcases hown.2 with ⟨e, _⟩ | ⟨g, sp, e, _, _, _, hh⟩
   ·cases e
   ·injection e with e1 e2 e3
    injection e1 with e1
    injection e1 with e1
    subst e1
    rw [List.length_replicate] at e2 e3
    exact ⟨_, by rw [List.size_toArray, flat_len, List.length_append, List.length_replicate]; show (s.size + sp.length) * 1 = _; omega, hh⟩
  obtain ⟨cs, hcs, hh⟩ := hh
  have hcp := Lib.run_copy_row_string (P := Tryz.prog) W1 40 9 3 5 w.heap.size 0 s.size s.size s cs 5 Tryz.underlying40 infoY hh (Nat.le_refl _) (by omega)
  have hY : (cs.toList.take 0 ++ Lib.byteCells s.data.toList ++ cs.toList.drop (0 + s.size)).toArray = (Lib.byteCells s.data.toList).toArray := by
   rw [List.take_zero, List.nil_append, List.drop_of_length_le (by rw [Array.length_toList]; omega), List.append_nil]
  rw [hY] at hcp
  have hg2 : W1.heap[w.heap.size]? = some (.cells cs 5 (0, 0)) := hh
  have hr := setRow_heap W1 w.heap.size cs (Lib.byteCells s.data.toList).toArray 5 (0, 0) hh
  obtain ⟨W2, hW2⟩ : ∃ W2, W1.setRow w.heap.size (Lib.byteCells s.data.toList).toArray = W2 := ⟨_, rfl⟩
  rw [hW2] at hcp hr
  have hb2 : Below w.heap.size w W2 := by
   rw [← hW2]
   have hbb := (Below.refl w.heap.size w).grown hg1 (Nat.le_refl _) (by intro k hk; cases hk)
   exact ⟨hbb.os, hbb.tape, hbb.output, by simpa using hbb.size, fun k hk => (setRow_other _ _ _ _ (by omega)).trans (hbb.block k hk)⟩
  have hsl : s.data.toList.length = s.size := by rw [Array.length_toList]; rfl
  have hUS := Lib.run_unsafeString_row (P := Tryz.prog) (w := W2) 160 3 9 5 Tryz.underlying160 cellsY w.heap.size (Lib.byteCells s.data.toList).toArray.size (by unfold World.shape?; rw [hr]) s.data.toList (fun e => h0 (by rw [← hsl, e]; rfl)) (by rw [List.size_toArray, Lib.byteCells_length]; exact Nat.le_refl _) (by omega)
   (fun j x hx => Lib.cells_of_row hr (Lib.byteCells s.data.toList).toArray.size j _ (by rw [List.take_of_length_le (by simp), List.toList_toArray]; simp [Lib.byteCells, hx]))
  rw [hsl] at hUS
  have HB := Lib.hid hb2
  have hne : ((s.size : Int) == 0) = false := by rw [beq_eq_false_iff_ne]; omega
  have hst : (⟨s.data.toList.toArray⟩ : ByteArray) = s := by rw [Array.toArray_toList]
  rw [hst] at hUS
  clear hown hg1 hh hcs hY hg2 hW2 hb2 hst hsl
  go_enter Tryz.func81, Tryz.ntmps81
  go_wp2
  go_ret
  exact ⟨rfl, Lib.below_freeze HB.out (p := ⟨w.heap.size, 0, none⟩) (Nat.le_refl _) _⟩
set_option maxHeartbeats 1000000 in
set_option maxRecDepth 100000 in
theorem pstrclone_any (s : ByteArray) (w : World) (hs : s.size ≤ 4096) : Calls Tryz.prog 38 #[.string s] w (fun e w' => e = .returned (.string s) ∧ Below w.heap.size w w') := by
 have C := Lib.hid (plite_any s w hs)
 go_enter Tryz.func38, Tryz.ntmps38
 go_wp2_with fail
 refine C.out.mono ?_
 rintro e w1 ⟨rfl, hb⟩
 have HB := Lib.hid hb
 clear C hb
 go_wp2
 go_ret
 exact ⟨rfl, HB.out⟩
end Go.Proofs.YtiafeniflkikeaaGreat
namespace Go.Proofs.YtiafeniflkikeaaGreat
open Go.RowKit
set_option linter.unusedVariables false
def nV (a : RawN) : Value := .agg #[.string a.gone, .string a.come, .int .i64 (a.num : Nat)]
set_option maxHeartbeats 2000000 in
set_option maxRecDepth 100000 in
theorem pdirdo_any (d : Sf.Dir) (a : RawN) (bn k : Nat) (w : World) (h : IsMp dM w bn k (Sf.dirF d)) (hk : k < maxLen) (h1 : a.gone.size ≤ maxLen) (h2 : a.come.size ≤ maxLen) (h3 : a.num < 2199023255552) :
  Calls Tryz.prog 71 #[.map (some bn), nV a] w (fun e w' => (∃ v, e = .returned v) ∧ IsMp dM w' bn (k + 1) (Sf.dirF (Sf.doN d a)) ∧ w.grownBy w' (some bn)) := by
 have HE := Lib.hid (Sf.dirF_doN d a)
 obtain ⟨gone, come, num⟩ := a
 simp only at h1 h2 h3 HE
 change Calls _ _ #[.map (some bn), .agg #[.string gone, .string come, .int .i64 (num : Nat)]] w _
 obtain ⟨W, hW⟩ : ∃ W, w.alloc (.cells #[.string gone, .string come, .int .i64 (num : Nat)] 121) = W := ⟨_, rfl⟩
 have hW0 : W.heap[w.heap.size]? = some (.cells #[.string gone, .string come, .int .i64 (num : Nat)] 121 (0, 0)) := by rw [← hW]; exact heap_alloc_new _ _
 have hg : w.grownBy W none := by rw [← hW]; exact World.grownBy_alloc w _ none
 have hlt := h.lt_
 have hM : IsMp dM W bn k (Sf.dirF d) := h.of_block (hg.block bn hlt (by simp))
 have HC : Hid (∀ w', W.grownBy w' (some bn) → w'.cell? ⟨w.heap.size, 0, none⟩ = some (.string gone) ∧ w'.cell? ⟨w.heap.size, 1, none⟩ = some (.string come) ∧ w'.cell? ⟨w.heap.size, 2, none⟩ = some (.int .i64 (num : Nat))) := fun w' hg' => by
  have hh := (hg'.block w.heap.size (by rw [← hW]; simp) (fun e => by have := Option.some.inj e; omega)).trans hW0
  exact ⟨by rw [cell_of_row _ _ 0 _ _ _ hh]; rfl, by rw [cell_of_row _ _ 1 _ _ _ hh]; rfl, by rw [cell_of_row _ _ 2 _ _ _ hh]; rfl⟩
 have HM := Lib.hid hM
 have HG := Lib.hid hg
 obtain ⟨s0, s1, s2⟩ := HC.out W (grownBy_trans (r := some bn) ⟨rfl, rfl, rfl, Nat.le_refl _, fun _ _ _ => rfl⟩ ⟨rfl, rfl, rfl, Nat.le_refl _, fun _ _ _ => rfl⟩)
 clear h hM hg hlt
 have fin : ∀ (w1 w2 : World), W.grownBy w1 (some bn) → w1.grownBy w2 (some bn) → w.grownBy w2 (some bn) := fun w1 w2 g1 g2 => by
  have g := grownBy_trans g1 g2
  exact ⟨g.os.trans HG.out.os, g.tape.trans HG.out.tape, g.output.trans HG.out.output, Nat.le_trans HG.out.size g.size, fun j hj hne => (g.block j (Nat.lt_of_lt_of_le hj HG.out.size) hne).trans (HG.out.block j hj (by simp))⟩
 have FIN := Lib.hid fin
 clear fin
 by_cases hc : come = ByteArray.empty
 ·subst hc
  have hq : ByteArray.empty.toList.isEmpty = true := by rw [ByteArray.toList_eq]; rfl
  go_enter Tryz.func71, Tryz.ntmps71
  go_wp2_with (at_delete; refine wpList_delete_mp _ dM rfl _ _ rfl bn k _ rfl HM.out gone rfl h1 ?_; intro w1 hm1 hg1; have HM1 := Lib.hid hm1; have HG1 := Lib.hid hg1; obtain ⟨t0, t1, t2⟩ := HC.out w1 hg1; clear hm1 hg1)
  go_end0
  exact ⟨⟨_, rfl⟩, (HM1.out.mono_ (by omega)).congr_ (fun x _ => by rw [HE.out]; simp), FIN.out _ _ HG1.out ⟨rfl, rfl, rfl, Nat.le_refl _, fun _ _ _ => rfl⟩⟩
 ·have hq : come.toList.isEmpty = false := by
   cases he : come.toList.isEmpty with
   | false => rfl
   | true => exact absurd (Sf.toList_inj (by rw [List.isEmpty_iff.1 he, ByteArray.toList_eq]; rfl)) hc
  go_enter Tryz.func71, Tryz.ntmps71
  go_wp2_with (first
   | (at_delete; refine wpList_delete_mp _ dM rfl _ _ rfl bn k _ rfl HM.out gone rfl h1 ?_; intro w1 hm1 hg1; have HM1 := Lib.hid hm1; have HG1 := Lib.hid hg1; obtain ⟨t0, t1, t2⟩ := HC.out w1 hg1; clear hm1 hg1)
   | (at_mapUpdate; refine wpList_mapUpdate_mp _ dM rfl _ _ _ rfl bn k _ rfl HM1.out hk come rfl h2 (num : Int) rfl ?_; intro w2 hm2 hg2; have HM2 := Lib.hid hm2; have HG2 := Lib.hid hg2; clear hm2 hg2))
  go_end0
  refine ⟨⟨_, rfl⟩, HM2.out.congr_ (fun x _ => ?_), FIN.out _ _ HG1.out HG2.out⟩
  rw [HE.out]
  show (if x = come then some (num : Int) else if x = gone then none else Sf.dirF d x) = (if come ≠ ByteArray.empty ∧ x = come then some (num : Int) else if x = gone then none else Sf.dirF d x)
  by_cases e : x = come
  ·rw [if_pos e, if_pos ⟨hc, e⟩]
  ·rw [if_neg e, if_neg (show ¬ (come ≠ ByteArray.empty ∧ x = come) from fun h => e h.2)]
end Go.Proofs.YtiafeniflkikeaaGreat
namespace Go.Proofs.YtiafeniflkikeaaGreat
open Go.RowKit
set_option linter.unusedVariables false
section
variable {P : Program} {α : Type}
theorem step_append_m (w : World) {ops : Array Oper} {o : Oper} {a : Act} {K' : Act → World → Prop} {Q : Exit → Act → World → Prop} {E : Prop} (K : El P α) (hgd : o.guard = none) (s t : Operand)
  (ho : o.op = .call { callee := .builtin .append, args := #[s, t], argTypes := #[K.s, K.s] })
  (base : Nat) (v : Value) (hs : a.eval s = v) (l : List α) (hown : OwnL K w base v l) (x : Value) (hx0 : a.eval t = x) (B : Nat) (m : List α) (hx : Lv K w B x m) (hsz : (l.length + m.length) * K.bytes ≤ 140737488355328) (h63 : l.length + m.length ≤ maxLen) (hbase : base ≤ w.heap.size)
  (h : ∀ A c w', OwnL K w' base (.slice A (l ++ m).length c) (l ++ m) → w.grownBy w' v.ownBlock → Moved w v (.slice A (l ++ m).length c) → K' (a.put o.dst (.slice A (l ++ m).length c)) w') :
  if Region.wanted o (yielded ops a.tmps) = true then Oper.wp P o a w K' Q else E := by
 have hw : Region.wanted o (yielded ops a.tmps) = true := by simp [Region.wanted, hgd]
 rw [if_pos hw]
 obtain ⟨v', w', hr, hA, hG, hM⟩ := run_append_m w base v l hown o.type x B m hx hsz h63 hbase
 obtain ⟨A, c, rfl, _⟩ := hA.form_
 unfold Oper.wp execOp
 simp only [ho, resolve, invoke, builtin, Sem.run_bind, Sem.run_pure, Result.andThen_ok, List.map_toArray, List.map_cons, List.map_nil, hs, hx0, hr]
 exact h A c w' hA hG hM
end
end Go.Proofs.YtiafeniflkikeaaGreat
