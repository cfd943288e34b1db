/-
  VpMem: vocab.seen: what there is of a vocabulary so far: its memory.
  VpByte: vocab.seen's addByte.
  VpHas: vocab.seen's has, addByte.
-/
import Derived.Test.YtaedhccmdbodlaaPk11
import Derived.Test.YtaedhccmdbodlaaPk04
import Derived.Deep.QuietTactic
import Derived.BigQuiet
import Derived.BigRegion
import Derived.StillTailTactics
namespace Go.Proofs.Ytaedhccmdbodlaa
open Go.RowKit Go.Maps
set_option linter.unusedVariables false

theorem pair_arr : WideMaps.ArrKey Try.prog 75 3 2 := ⟨Try.underlying75, by kernel_rfl, by kernel_rfl, by kernel_rfl⟩
theorem pair_law : WideMaps.KeyLaw Try.prog 75 := deep_law_laid laidOut (m := 3) (by omega) (of_decide_eq_true (by kernel_rfl)) (by kernel_rfl) (by rw [Try.underlying75])
theorem pair_size : ∃ m, Try.prog.types.size = m + 1 := ⟨Try.prog.types.size - 1, (Nat.sub_add_cancel (of_decide_eq_true (by kernel_rfl))).symm⟩
def mpR : MpK Try.prog Int Unit := mpSet 103 40 113 .u32 Try.underlying103 Try.underlying40 (fun w => by kernel_rfl)
def mpP : MpK Try.prog (Int × Int) Unit := mpPairs 104 75 3 113 .i64 Try.underlying104 pair_arr Try.underlying3 pair_size pair_law (fun w => by kernel_rfl)
theorem i64_lit {a : Int} (h : I64 a) : (Lit.int .i64 a).wf = true := by unfold I64 at h; exact WalkArith.wf_i64 (by omega)
theorem u32_lit {a : Nat} (h : a < 4294967296) : (Lit.int .u32 (a : Int)).wf = true := WalkArith.wf_u32 (by omega)

namespace Vo
def isP (k : Int × Int) (q : Pc) : Bool := q.join && (q.left == k.1 && q.right == k.2)
def isR (r : Int) (q : Pc) : Bool := q.join && ((q.rank : Int) == r)
/-- Is there a join of that rank, of that pair? -/
def inR (D : List Pc) (r : Int) : Option Unit := if D.any (isR r) = true then some () else none
def inP (D : List Pc) (k : Int × Int) : Option Unit := if D.any (isP k) = true then some () else none
theorem inR_some (D : List Pc) (r : Int) : (inR D r).isSome = D.any (isR r) := by unfold inR; cases D.any (isR r) <;> rfl
theorem inP_some (D : List Pc) (k : Int × Int) : (inP D k).isSome = D.any (isP k) := by unfold inP; cases D.any (isP k) <;> rfl
theorem hasJoin_eq (D : List Pc) (p : Pc) : hasJoin D p = (D.any (isP (p.left, p.right)) || D.any (isR p.rank)) := by
  induction D with
  | nil => rfl
  | cons q r ih =>
    have ih' : hasJoin (q :: r) p = ((q.join && ((q.left == p.left && q.right == p.right) || q.rank == p.rank)) || hasJoin r p) := rfl
    rw [ih', ih, List.any_cons, List.any_cons]
    simp only [isP, isR]
    have e : (q.rank == p.rank) = ((q.rank : Int) == (p.rank : Int)) := by
      rw [Bool.eq_iff_iff, beq_iff_eq, beq_iff_eq]
      omega
    rw [e]
    cases hj : q.join <;> cases (q.left == p.left && q.right == p.right) <;> cases ((q.rank : Int) == (p.rank : Int)) <;> simp
theorem inR_byte {D : List Pc} {p : Pc} (hj : p.join = false) : inR (D ++ [p]) = inR D := by funext r; simp [inR, isR, hj]
theorem inP_byte {D : List Pc} {p : Pc} (hj : p.join = false) : inP (D ++ [p]) = inP D := by funext r; simp [inP, isP, hj]
theorem inR_join {D : List Pc} {p : Pc} (hj : p.join = true) : inR (D ++ [p]) = fun k => if k = (p.rank : Int) then some () else inR D k := by
  funext r
  simp only [inR, isR, List.any_append, List.any_cons, List.any_nil, hj, Bool.true_and, Bool.or_false]
  by_cases h : (p.rank : Int) = r
  · simp [h]
  · simp [h, Ne.symm h]
theorem inP_join {D : List Pc} {p : Pc} (hj : p.join = true) : inP (D ++ [p]) = fun k => if k = (p.left, p.right) then some () else inP D k := by
  funext r
  obtain ⟨a, b⟩ := r
  simp only [inP, isP, List.any_append, List.any_cons, List.any_nil, hj, Bool.true_and, Bool.or_false]
  by_cases h : (a, b) = (p.left, p.right)
  · have h2 := Prod.mk.inj h
    simp [h2.1, h2.2]
  · have : (p.left == a && p.right == b) = false := by
      rw [Bool.eq_false_iff]
      intro e
      simp at e
      exact h (by rw [e.1, e.2])
    rw [this, if_neg h]
    simp
end Vo

/-- The cells of a seen. -/
def seenC (bs : List Bool) (b1 b2 : Nat) (v : Value) : List Value := bs.map Value.bool ++ [.map (some b1), .map (some b2), v]
/-- A seen at block sb: which bytes there are, the maps of the ranks and of the pairs, the own list of sizes. -/
structure SeenQ (w : World) (sb base b1 b2 : Nat) (v : Value) (sz : List Int) (bs : List Bool) (n1 n2 : Nat) (f1 : Int → Option Unit) (f2 : Int × Int → Option Unit) : Prop where
  head : w.heap[sb]? = some (.cells (seenC bs b1 b2 v).toArray 106 (0, 0))
  len : bs.length = 256
  own : OwnL iK w base v sz
  ranks : IsMp mpR w b1 n1 f1
  pairs : IsMp mpP w b2 n2 f2
  apart : v.ownBlock ≠ some sb
  d12 : b1 ≠ b2
  low0 : base ≤ sb
  low1 : base ≤ b1
  low2 : base ≤ b2

section
variable {w w' : World} {sb base b1 b2 n1 n2 : Nat} {v v' : Value} {sz sz' : List Int} {bs : List Bool} {f1 : Int → Option Unit} {f2 : Int × Int → Option Unit}
theorem mp_list {κ β α : Type} {P : Program} {K : MpK P κ β} {E : El P α} {w : World} {b n base : Nat} {f : κ → Option β} {v : Value} {l : List α} (h : IsMp K w b n f) (ho : OwnL E w base v l) : v.ownBlock ≠ some b := fun e => by
  obtain ⟨D, ⟨es, clock, h1, _⟩, _⟩ := h
  rcases ho.2 with ⟨rfl, _⟩ | ⟨g', c, rfl, _, _, _, hh⟩
  · cases e
  · have e : g' = b := Option.some.inj e
    subst e
    rw [hh] at h1
    cases h1
theorem mp_row {κ β : Type} {P : Program} {K : MpK P κ β} {w : World} {b n s : Nat} {f : κ → Option β} {cs : Array Value} {t : TypeId} {fr : Nat × Nat} (h : IsMp K w b n f) (hs : w.heap[s]? = some (.cells cs t fr)) : b ≠ s := fun e => by
  obtain ⟨D, ⟨es, clock, h1, _⟩, _⟩ := h
  subst e
  rw [hs] at h1
  cases h1
theorem SeenQ.bool_ (h : SeenQ w sb base b1 b2 v sz bs n1 n2 f1 f2) {b : Nat} {t : Bool} (hb : bs[b]? = some t) : w.cell? ⟨sb, b, none⟩ = some (.bool t) := by
  have hlt := (List.getElem?_eq_some_iff.1 hb).1
  rw [cell_of_row _ sb b _ _ _ h.head, List.getElem?_toArray, seenC, List.getElem?_append_left (by simpa using hlt), List.getElem?_map, hb]; rfl
theorem seen_tail (bs : List Bool) (hl : bs.length = 256) (b1 b2 : Nat) (v : Value) (j : Nat) : (seenC bs b1 b2 v).toArray[256 + j]? = [Value.map (some b1), .map (some b2), v][j]? := by
  rw [List.getElem?_toArray, seenC, List.getElem?_append_right (by simp [hl])]
  simp [hl]
theorem SeenQ.rank_ (h : SeenQ w sb base b1 b2 v sz bs n1 n2 f1 f2) : w.cell? ⟨sb, 256, none⟩ = some (.map (some b1)) := by
  rw [cell_of_row _ sb 256 _ _ _ h.head, seen_tail bs h.len b1 b2 v 0]; rfl
theorem SeenQ.pair_ (h : SeenQ w sb base b1 b2 v sz bs n1 n2 f1 f2) : w.cell? ⟨sb, 257, none⟩ = some (.map (some b2)) := by
  rw [cell_of_row _ sb 257 _ _ _ h.head, seen_tail bs h.len b1 b2 v 1]; rfl
theorem SeenQ.slice_ (h : SeenQ w sb base b1 b2 v sz bs n1 n2 f1 f2) : w.cell? ⟨sb, 258, none⟩ = some v := by
  rw [cell_of_row _ sb 258 _ _ _ h.head, seen_tail bs h.len b1 b2 v 2]; rfl
theorem SeenQ.cool_ (h : SeenQ w sb base b1 b2 v sz bs n1 n2 f1 f2) (j : Nat) : w.frozen? ⟨sb, j, none⟩ = false := frozen_of_row w sb j _ _ h.head
theorem SeenQ.lt_ (h : SeenQ w sb base b1 b2 v sz bs n1 n2 f1 f2) : sb < w.heap.size := (Array.getElem?_eq_some_iff.1 h.head).1
/-- The same in a world in which its blocks are as they were. -/
theorem SeenQ.to_ (h : SeenQ w sb base b1 b2 v sz bs n1 n2 f1 f2) (he : ∀ k, k < w.heap.size → w'.heap[k]? = w.heap[k]?) : SeenQ w' sb base b1 b2 v sz bs n1 n2 f1 f2 :=
  ⟨(he sb h.lt_).trans h.head, h.len, h.own.of_block (fun k hk => he k (h.own.lt_ k hk).2), h.ranks.of_block (he b1 h.ranks.lt_), h.pairs.of_block (he b2 h.pairs.lt_), h.apart, h.d12, h.low0, h.low1, h.low2⟩
theorem SeenQ.below_ (h : SeenQ w sb base b1 b2 v sz bs n1 n2 f1 f2) (hb : Below w.heap.size w w') : SeenQ w' sb base b1 b2 v sz bs n1 n2 f1 f2 := h.to_ (fun k hk => hb.block k hk)
theorem SeenQ.alloc_ (h : SeenQ w sb base b1 b2 v sz bs n1 n2 f1 f2) (o : Obj) : SeenQ (w.alloc o) sb base b1 b2 v sz bs n1 n2 f1 f2 := h.to_ (fun k hk => heap_alloc_old w o hk)
theorem SeenQ.drewN_ (h : SeenQ w sb base b1 b2 v sz bs n1 n2 f1 f2) (n : Nat) : SeenQ (w.drewN n) sb base b1 b2 v sz bs n1 n2 f1 f2 := h.to_ (fun _ _ => rfl)
theorem SeenQ.drew_ (h : SeenQ w sb base b1 b2 v sz bs n1 n2 f1 f2) : SeenQ w.drew sb base b1 b2 v sz bs n1 n2 f1 f2 := h.to_ (fun _ _ => rfl)
theorem seenC_bool (bs : List Bool) (b1 b2 : Nat) (v : Value) {b : Nat} (hb : b < bs.length) (t : Bool) : (seenC bs b1 b2 v).set b (.bool t) = seenC (bs.set b t) b1 b2 v := by
  unfold seenC
  rw [List.set_append_left _ _ (by simpa using hb), ← List.map_set]
theorem seenC_slice (bs : List Bool) (hl : bs.length = 256) (b1 b2 : Nat) (v v' : Value) : (seenC bs b1 b2 v).set 258 v' = seenC bs b1 b2 v' := by
  unfold seenC
  rw [List.set_append_right _ _ (by simp [hl])]
  simp [hl]
/-- A cell of its own block is set: its list and its maps are as they were. -/
theorem SeenQ.setBool_ (h : SeenQ w sb base b1 b2 v sz bs n1 n2 f1 f2) {b : Nat} (hb : b < 256) (t : Bool) : SeenQ (w.setCell ⟨sb, b, none⟩ (.bool t)) sb base b1 b2 v sz (bs.set b t) n1 n2 f1 f2 := by
  have ho : ∀ k, k ≠ sb → (w.setCell ⟨sb, b, none⟩ (.bool t)).heap[k]? = w.heap[k]? := fun k hk => heap_setCell_other w ⟨sb, b, none⟩ k _ hk
  refine ⟨?_, by rw [List.length_set]; exact h.len, h.own.of_block (fun k hk => ho k (fun e => h.apart (by rw [hk, e]))), h.ranks.of_block (ho b1 (mp_row h.ranks h.head)), h.pairs.of_block (ho b2 (mp_row h.pairs h.head)), h.apart, h.d12, h.low0, h.low1, h.low2⟩
  rw [heap_setCell_same w sb _ _ _ _ h.head, ← seenC_bool bs b1 b2 v (by rw [h.len]; exact hb) t]
  simp
/-- What append turned leaves the seen's own block. -/
theorem SeenQ.grown_ (h : SeenQ w sb base b1 b2 v sz bs n1 n2 f1 f2) (hg : w.grownBy w' v.ownBlock) : w'.cell? ⟨sb, 258, none⟩ = some v ∧ w'.frozen? ⟨sb, 258, none⟩ = false := by
  have hh := (hg.block sb h.lt_ (fun e => h.apart e.symm)).trans h.head
  exact ⟨by rw [cell_of_row _ sb 258 _ _ _ hh, seen_tail bs h.len b1 b2 v 2]; rfl, frozen_of_row w' sb 258 _ _ hh⟩
/-- The list of sizes is had anew. -/
theorem SeenQ.setSlice_ (h : SeenQ w sb base b1 b2 v sz bs n1 n2 f1 f2) (hg : w.grownBy w' v.ownBlock) (ho : OwnL iK w' base v' sz') (hm : Moved w v v') : SeenQ (w'.setCell ⟨sb, 258, none⟩ v') sb base b1 b2 v' sz' bs n1 n2 f1 f2 := by
  have hap : v'.ownBlock ≠ some sb := fun e => by
    rcases hm sb e with h1 | h1
    · exact h.apart h1
    · have := h.lt_; omega
  have hh := (hg.block sb h.lt_ (fun e => h.apart e.symm)).trans h.head
  have hs : ∀ k, k ≠ sb → (w'.setCell ⟨sb, 258, none⟩ v').heap[k]? = w'.heap[k]? := fun k hk => heap_setCell_other w' ⟨sb, 258, none⟩ k _ hk
  refine ⟨?_, h.len, ho.of_block (fun k hk => hs k (fun e => hap (by rw [hk, e]))), ?_, ?_, hap, h.d12, h.low0, h.low1, h.low2⟩
  · rw [heap_setCell_same w' sb 258 _ _ _ hh, ← seenC_slice bs h.len b1 b2 v v']
    simp
  · exact h.ranks.of_block ((hs b1 (mp_row h.ranks h.head)).trans (hg.block b1 h.ranks.lt_ (fun e => mp_list h.ranks h.own e.symm)))
  · exact h.pairs.of_block ((hs b2 (mp_row h.pairs h.head)).trans (hg.block b2 h.pairs.lt_ (fun e => mp_list h.pairs h.own e.symm)))
end
/-- A seen behind the pieces D. -/
def SeenD (w : World) (sb base : Nat) (D : List Vo.Pc) : Prop := ∃ b1 b2 v, SeenQ w sb base b1 b2 v (Vo.sizes D) (Vo.bits D) D.length D.length (Vo.inR D) (Vo.inP D)
theorem SeenD.to_ {w w' : World} {sb base : Nat} {D : List Vo.Pc} (h : SeenD w sb base D) (hb : Below w.heap.size w w') : SeenD w' sb base D := by
  obtain ⟨b1, b2, v, h⟩ := h
  exact ⟨b1, b2, v, h.below_ hb⟩
theorem SeenD.lt_ {w : World} {sb base : Nat} {D : List Vo.Pc} (h : SeenD w sb base D) : sb < w.heap.size := by
  obtain ⟨b1, b2, v, h⟩ := h
  exact h.lt_
/-- What add, addByte and addJoin answer. -/
def IsAdd (sb base : Nat) (D : List Vo.Pc) (p : Vo.Pc) (w : World) (e : Ending) (w' : World) : Prop :=
  e = .returned (.int .i64 (Vo.errAt D p : Nat)) ∧ (Vo.errAt D p = 0 → SeenD w' sb base (D ++ [p])) ∧ Below base w w'
theorem IsAdd.bad {sb base : Nat} {D : List Vo.Pc} {p : Vo.Pc} {w w' : World} {x : Int} {n : Nat} (h : Vo.errAt D p = n) (hn : n ≠ 0) (hx : x = (n : Int)) (hb : Below base w w') : IsAdd sb base D p w (.returned (.int .i64 x)) w' := by
  subst hx
  exact ⟨by rw [h], fun e => absurd (h.symm.trans e) hn, hb⟩
end Go.Proofs.Ytaedhccmdbodlaa
namespace Go.Proofs.Ytaedhccmdbodlaa
open Go.RowKit Go.Maps
set_option linter.unusedVariables false

set_option maxHeartbeats 2000000 in
theorem paddByte_any {w : World} {sb base : Nat} {D : List Vo.Pc} (h : SeenD w sb base D) (p : Vo.Pc) (hp : PcOk p) (hj : p.join = false) (hD : D.length ≤ 4096) (hb : base ≤ w.heap.size) :
    Calls Try.prog 64 #[.pointer (some ⟨sb, 0, none⟩), pcV p] w (IsAdd sb base D p w) := by
  obtain ⟨b1, b2, v, hv⟩ := h
  obtain ⟨j, b, l, r, k⟩ := p
  obtain ⟨hpb, hpl, hpr, hpk⟩ := hp
  simp only at hj hpb hpl hpr hpk
  subst hj
  obtain ⟨A, c, rfl, _⟩ := hv.own.form_
  rw [Vo.sizes_len] at hv
  obtain ⟨o, ho⟩ : ∃ o : Obj, o = .cells #[.bool false, .int .u8 (b : Nat), .int .i64 l, .int .i64 r, .int .u32 (k : Nat)] 42 := ⟨_, rfl⟩
  obtain ⟨W, hW⟩ : ∃ W, w.alloc o = W := ⟨_, rfl⟩
  have hcell : ∀ (i : Nat) (u : Value), #[.bool false, .int .u8 (b : Nat), .int .i64 l, .int .i64 r, .int .u32 (k : Nat)][i]? = some u → W.cell? ⟨w.heap.size, i, none⟩ = some u := fun i u hi => by
    subst hW ho
    rw [cell_of_row _ w.heap.size i _ _ _ (heap_alloc_new w _)]
    exact hi
  have c0 := hcell 0 _ rfl
  have c1 := hcell 1 _ rfl
  have c2 := hcell 2 _ rfl
  have c3 := hcell 3 _ rfl
  have c4 := hcell 4 _ rfl
  have hvW : SeenQ W sb base b1 b2 (.slice A D.length c) (Vo.sizes D) (Vo.bits D) D.length D.length (Vo.inR D) (Vo.inP D) := by rw [← hW]; exact hv.alloc_ _
  have hbW : Below base w W := by rw [← hW]; exact (Below.refl _ _).alloc hb _
  have hsW : base ≤ W.heap.size := Nat.le_trans hb hbW.size
  subst ho
  have hneq := fun w => pc_neq ⟨false, b, l, r, k⟩ ⟨false, b, 0, 0, 0⟩ w
  have hgd := pc_guard
  unfold pcV at hneq ⊢
  simp only [Int.natCast_zero] at hneq
  clear hcell
  by_cases hbad : l ≠ 0 ∨ r ≠ 0 ∨ k ≠ 0
  · have HX : Hid (Vo.errAt D ⟨false, b, l, r, k⟩ = 5) := by unfold Hid Vo.errAt; rw [if_neg (by simp), if_pos hbad]
    have hq : Vo.eqB ⟨false, b, l, r, k⟩ ⟨false, b, 0, 0, 0⟩ = false := by
      rw [Bool.eq_false_iff]
      intro e
      have := Vo.eqB_iff.1 e
      simp at this
      omega
    rw [hq] at hneq
    have FIN := Lib.hid (show IsAdd sb base D ⟨false, b, l, r, k⟩ w (.returned (.int .i64 5)) W from IsAdd.bad HX.out (by decide) rfl hbW)
    simp only [Bool.not_false] at hneq
    clear hq hbad hv hvW hbW HX
    go_enter Try.func64, Try.ntmps64
    go_wp2
    go_ret
    exact FIN.out
  · obtain ⟨rfl, rfl, rfl⟩ : l = 0 ∧ r = 0 ∧ k = 0 := by omega
    have hq : Vo.eqB ⟨false, b, 0, 0, 0⟩ ⟨false, b, 0, 0, 0⟩ = true := Vo.eqB_iff.2 rfl
    rw [hq] at hneq
    simp only [Bool.not_true, Int.natCast_zero] at hneq
    have hW0 : w.alloc (.cells #[.bool false, .int .u8 (b : Nat), .int .i64 0, .int .i64 0, .int .u32 0] 42) = W := hW
    have c40 : W.cell? ⟨w.heap.size, 4, none⟩ = some (.int .u32 0) := c4
    simp only [Int.natCast_zero]
    have hbit := hvW.bool_ (Vo.bits_at (D := D) hpb)
    have hbi : (b : Int) < 256 := by omega
    clear hW c4 hbad hq
    cases ht : Vo.hasByte D ⟨false, b, 0, 0, 0⟩ with
    | true =>
      have HX : Hid (Vo.errAt D ⟨false, b, 0, 0, 0⟩ = 8) := by unfold Hid Vo.errAt; rw [if_neg (by simp), if_neg (by simp), if_pos ht]
      rw [Vo.hasByte_bits] at ht
      simp only at ht
      rw [ht] at hbit
      have HB := Lib.hid hbW
      clear ht hvW hbW hv
      go_enter Try.func64, Try.ntmps64
      go_wp2
      go_quiet (fail)
      go_wp2
      go_ret
      exact IsAdd.bad HX.out (by decide) rfl (below_drewN HB.out _)
    | false =>
      have HX : Hid (Vo.errAt D ⟨false, b, 0, 0, 0⟩ = 0) := by unfold Hid Vo.errAt; rw [if_neg (by simp), if_neg (by simp), if_neg (by rw [ht]; simp)]
      rw [Vo.hasByte_bits] at ht
      simp only at ht
      rw [ht] at hbit
      have HS := Lib.hid hvW
      have HB := Lib.hid hbW
      clear ht hvW hbW hv
      go_enter Try.func64, Try.ntmps64
      go_wp2
      go_quiet (fail)
      generalize hW9 : W.drewN _ = w9
      have HS9 : Hid (SeenQ w9 sb base b1 b2 (.slice A D.length c) (Vo.sizes D) (Vo.bits D) D.length D.length (Vo.inR D) (Vo.inP D)) := by unfold Hid; rw [← hW9]; exact HS.out.drewN_ _
      have HB9 : Hid (Below base w w9) := by unfold Hid; rw [← hW9]; exact below_drewN HB.out _
      have hc1 : w9.cell? ⟨w.heap.size, 1, none⟩ = some (.int .u8 (b : Nat)) := by rw [← hW9]; exact c1
      have hbit9 := HS9.out.bool_ (Vo.bits_at (D := D) hpb)
      have hcl := HS9.out.cool_ b
      clear hW9 hW0 c0 c1 c2 c3 c40 hbit hneq
      go_wp2
      go_region
      obtain ⟨W2, hW2⟩ : ∃ W2, (w9.setCell ⟨sb, b, none⟩ (.bool true)).drew = W2 := ⟨_, rfl⟩
      have HS2 : Hid (SeenQ W2 sb base b1 b2 (.slice A D.length c) (Vo.sizes D) ((Vo.bits D).set b true) D.length D.length (Vo.inR D) (Vo.inP D)) := by unfold Hid; rw [← hW2]; exact (HS9.out.setBool_ hpb true).drew_
      have HB2 : Hid (Below base w W2) := by unfold Hid; rw [← hW2]; exact (HB9.out.setCell (p := ⟨sb, b, none⟩) HS9.out.low0 _).drew
      have hc0 := HS2.out.slice_
      have hI : I64 (1 : Int) := by unfold I64; omega
      have HL : Hid ((Vo.sizes D).length = D.length) := Vo.sizes_len D
      have hb3 : base ≤ W2.heap.size := Nat.le_trans hb HB2.out.size
      rw [hW2]
      clear hW2 hcl hbit9 hc1 HS9 HB9
      go_wp2_with (at_builtin; go_must (refine wpList_push_m _ iK rfl _ _ rfl base _ rfl (Vo.sizes D) HS2.out.own rfl (1 : Int) hI _ rfl _ rfl (by rw [HL.out]; show _ * 8 ≤ _; omega) (by rw [HL.out]; simp only [maxLen]; omega) hb3 ?_; intro A3 c3 w4 hA hG hM; have hc4 := (HS2.out.grown_ hG).1; have hf4 := (HS2.out.grown_ hG).2))
      have HS5 := HS2.out.setSlice_ hG hA hM
      have HB5 := (HB2.out.grown hG hb3 (fun k hk => (HS2.out.own.lt_ k hk).1)).setCell (p := ⟨sb, 258, none⟩) HS2.out.low0 (.slice A3 (D.length + 1) c3)
      rw [HL.out] at HS5 ⊢
      have HS6 := Lib.hid HS5
      have HB6 := Lib.hid HB5
      clear HS5 HB5 hA hG hM hc4 hf4
      go_wp2
      go_ret
      refine ⟨by rw [HX.out]; rfl, fun _ => ?_, HB6.out⟩
      have h6 := HS6.out
      refine ⟨b1, b2, .slice A3 (D.length + 1) c3, ?_⟩
      rw [Vo.sizes_byte rfl, Vo.bits_byte rfl hpb, Vo.inR_byte rfl, Vo.inP_byte rfl, List.length_append]
      exact ⟨h6.head, h6.len, h6.own, h6.ranks.mono_ (by simp), h6.pairs.mono_ (by simp), h6.apart, h6.d12, h6.low0, h6.low1, h6.low2⟩
end Go.Proofs.Ytaedhccmdbodlaa
namespace Go.Proofs.Ytaedhccmdbodlaa
open Go.RowKit Go.Maps
set_option linter.unusedVariables false

namespace Vo
/-- Does the token stand ahead? -/
def stands (n : Nat) (t : Int) : Bool := decide (0 ≤ t ∧ t < n)
end Vo
set_option maxHeartbeats 1000000 in
theorem phas_any {w : World} {sb base : Nat} {D : List Vo.Pc} (h : SeenD w sb base D) (t : Int) :
    Calls Try.prog 70 #[.pointer (some ⟨sb, 0, none⟩), .int .i64 t] w (fun e w' => e = .returned (.bool (Vo.stands D.length t)) ∧ w' = w) := by
  obtain ⟨b1, b2, v, h⟩ := h
  have c3 := h.slice_
  have hl := Vo.sizes_len D
  obtain ⟨A, c, rfl, _⟩ := h.own.form_
  rw [hl] at c3
  obtain ⟨n, hn⟩ : ∃ n, D.length = n := ⟨_, rfl⟩
  rw [hn] at c3 ⊢
  clear h hn hl
  by_cases h0 : 0 ≤ t
  · by_cases h1 : t < (n : Int)
    · have HX : Hid (Vo.stands n t = true) := by unfold Hid Vo.stands; simp [h0, h1]
      go_enter Try.func70, Try.ntmps70
      go_wp2
      go_ret
      exact ⟨by rw [HX.out]; rfl, rfl⟩
    · have HX : Hid (Vo.stands n t = false) := by unfold Hid Vo.stands; simp; omega
      go_enter Try.func70, Try.ntmps70
      go_wp2
      go_ret
      exact ⟨by rw [HX.out]; rfl, rfl⟩
  · have HX : Hid (Vo.stands n t = false) := by unfold Hid Vo.stands; simp; omega
    go_enter Try.func70, Try.ntmps70
    go_wp2
    go_ret
    exact ⟨by rw [HX.out]; rfl, rfl⟩
end Go.Proofs.Ytaedhccmdbodlaa
