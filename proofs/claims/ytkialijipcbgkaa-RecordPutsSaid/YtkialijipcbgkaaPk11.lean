/-
  VpMem: vocab.seen: what there is of a vocabulary so far: its memory.
  VpByte: vocab.seen's addByte.
  VpHas: vocab.seen's has, addByte.
  VpJoin: vocab.seen's addJoin.
-/
import Derived.Test.YtkialijipcbgkaaPk10
import Derived.Test.YtkialijipcbgkaaPk04
import Derived.Deep.QuietTactic
import Derived.BigQuiet
import Derived.BigRegion
import Derived.StillTailTactics
namespace Go.Proofs.Ytkialijipcbgkaa
open Go.RowKit Go.Maps
set_option linter.unusedVariables false

theorem pair_arr : WideMaps.ArrKey Try.prog 113 3 2 := ⟨Try.underlying113, by kernel_rfl, by kernel_rfl, by kernel_rfl⟩
theorem pair_law : WideMaps.KeyLaw Try.prog 113 := deep_law_laid laidOut (m := 3) (by omega) (of_decide_eq_true (by kernel_rfl)) (by kernel_rfl) (by rw [Try.underlying113])
theorem pair_size : ∃ m, Try.prog.types.size = m + 1 := ⟨Try.prog.types.size - 1, (Nat.sub_add_cancel (of_decide_eq_true (by kernel_rfl))).symm⟩
def mpR : MpK Try.prog Int Unit := mpSet 160 83 169 .u32 Try.underlying160 Try.underlying83 (fun w => by kernel_rfl)
def mpP : MpK Try.prog (Int × Int) Unit := mpPairs 161 113 3 169 .i64 Try.underlying161 pair_arr Try.underlying3 pair_size pair_law (fun w => by kernel_rfl)
theorem i64_lit {a : Int} (h : I64 a) : (Lit.int .i64 a).wf = true := by unfold I64 at h; exact WalkArith.wf_i64 (by omega)
theorem u32_lit {a : Nat} (h : a < 4294967296) : (Lit.int .u32 (a : Int)).wf = true := WalkArith.wf_u32 (by omega)

namespace Vo
def isP (k : Int × Int) (q : Pc) : Bool := q.join && (q.left == k.1 && q.right == k.2)
def isR (r : Int) (q : Pc) : Bool := q.join && ((q.rank : Int) == r)
/-- Is there a join of that rank, of that pair? -/
def inR (D : List Pc) (r : Int) : Option Unit := if D.any (isR r) = true then some () else none
def inP (D : List Pc) (k : Int × Int) : Option Unit := if D.any (isP k) = true then some () else none
theorem inR_some (D : List Pc) (r : Int) : (inR D r).isSome = D.any (isR r) := by unfold inR; cases D.any (isR r) <;> rfl
theorem inP_some (D : List Pc) (k : Int × Int) : (inP D k).isSome = D.any (isP k) := by unfold inP; cases D.any (isP k) <;> rfl
theorem hasJoin_eq (D : List Pc) (p : Pc) : hasJoin D p = (D.any (isP (p.left, p.right)) || D.any (isR p.rank)) := by
  induction D with
  | nil => rfl
  | cons q r ih =>
    have ih' : hasJoin (q :: r) p = ((q.join && ((q.left == p.left && q.right == p.right) || q.rank == p.rank)) || hasJoin r p) := rfl
    rw [ih', ih, List.any_cons, List.any_cons]
    simp only [isP, isR]
    have e : (q.rank == p.rank) = ((q.rank : Int) == (p.rank : Int)) := by
      rw [Bool.eq_iff_iff, beq_iff_eq, beq_iff_eq]
      omega
    rw [e]
    cases hj : q.join <;> cases (q.left == p.left && q.right == p.right) <;> cases ((q.rank : Int) == (p.rank : Int)) <;> simp
theorem inR_byte {D : List Pc} {p : Pc} (hj : p.join = false) : inR (D ++ [p]) = inR D := by funext r; simp [inR, isR, hj]
theorem inP_byte {D : List Pc} {p : Pc} (hj : p.join = false) : inP (D ++ [p]) = inP D := by funext r; simp [inP, isP, hj]
theorem inR_join {D : List Pc} {p : Pc} (hj : p.join = true) : inR (D ++ [p]) = fun k => if k = (p.rank : Int) then some () else inR D k := by
  funext r
  simp only [inR, isR, List.any_append, List.any_cons, List.any_nil, hj, Bool.true_and, Bool.or_false]
  by_cases h : (p.rank : Int) = r
  · simp [h]
  · simp [h, Ne.symm h]
theorem inP_join {D : List Pc} {p : Pc} (hj : p.join = true) : inP (D ++ [p]) = fun k => if k = (p.left, p.right) then some () else inP D k := by
  funext r
  obtain ⟨a, b⟩ := r
  simp only [inP, isP, List.any_append, List.any_cons, List.any_nil, hj, Bool.true_and, Bool.or_false]
  by_cases h : (a, b) = (p.left, p.right)
  · have h2 := Prod.mk.inj h
    simp [h2.1, h2.2]
  · have : (p.left == a && p.right == b) = false := by
      rw [Bool.eq_false_iff]
      intro e
      simp at e
      exact h (by rw [e.1, e.2])
    rw [this, if_neg h]
    simp
end Vo

/-- The cells of a seen. -/
def seenC (bs : List Bool) (b1 b2 : Nat) (v : Value) : List Value := bs.map Value.bool ++ [.map (some b1), .map (some b2), v]
/-- A seen at block sb: which bytes there are, the maps of the ranks and of the pairs, the own list of sizes. -/
structure SeenQ (w : World) (sb base b1 b2 : Nat) (v : Value) (sz : List Int) (bs : List Bool) (n1 n2 : Nat) (f1 : Int → Option Unit) (f2 : Int × Int → Option Unit) : Prop where
  head : w.heap[sb]? = some (.cells (seenC bs b1 b2 v).toArray 163 (0, 0))
  len : bs.length = 256
  own : OwnL iK w base v sz
  ranks : IsMp mpR w b1 n1 f1
  pairs : IsMp mpP w b2 n2 f2
  apart : v.ownBlock ≠ some sb
  d12 : b1 ≠ b2
  low0 : base ≤ sb
  low1 : base ≤ b1
  low2 : base ≤ b2

section
variable {w w' : World} {sb base b1 b2 n1 n2 : Nat} {v v' : Value} {sz sz' : List Int} {bs : List Bool} {f1 : Int → Option Unit} {f2 : Int × Int → Option Unit}
theorem mp_list {κ β α : Type} {P : Program} {K : MpK P κ β} {E : El P α} {w : World} {b n base : Nat} {f : κ → Option β} {v : Value} {l : List α} (h : IsMp K w b n f) (ho : OwnL E w base v l) : v.ownBlock ≠ some b := fun e => by
  obtain ⟨D, ⟨es, clock, h1, _⟩, _⟩ := h
  rcases ho.2 with ⟨rfl, _⟩ | ⟨g', c, rfl, _, _, _, hh⟩
  · cases e
  · have e : g' = b := Option.some.inj e
    subst e
    rw [hh] at h1
    cases h1
theorem mp_row {κ β : Type} {P : Program} {K : MpK P κ β} {w : World} {b n s : Nat} {f : κ → Option β} {cs : Array Value} {t : TypeId} {fr : Nat × Nat} (h : IsMp K w b n f) (hs : w.heap[s]? = some (.cells cs t fr)) : b ≠ s := fun e => by
  obtain ⟨D, ⟨es, clock, h1, _⟩, _⟩ := h
  subst e
  rw [hs] at h1
  cases h1
theorem SeenQ.bool_ (h : SeenQ w sb base b1 b2 v sz bs n1 n2 f1 f2) {b : Nat} {t : Bool} (hb : bs[b]? = some t) : w.cell? ⟨sb, b, none⟩ = some (.bool t) := by
  have hlt := (List.getElem?_eq_some_iff.1 hb).1
  rw [cell_of_row _ sb b _ _ _ h.head, List.getElem?_toArray, seenC, List.getElem?_append_left (by simpa using hlt), List.getElem?_map, hb]; rfl
theorem seen_tail (bs : List Bool) (hl : bs.length = 256) (b1 b2 : Nat) (v : Value) (j : Nat) : (seenC bs b1 b2 v).toArray[256 + j]? = [Value.map (some b1), .map (some b2), v][j]? := by
  rw [List.getElem?_toArray, seenC, List.getElem?_append_right (by simp [hl])]
  simp [hl]
theorem SeenQ.rank_ (h : SeenQ w sb base b1 b2 v sz bs n1 n2 f1 f2) : w.cell? ⟨sb, 256, none⟩ = some (.map (some b1)) := by
  rw [cell_of_row _ sb 256 _ _ _ h.head, seen_tail bs h.len b1 b2 v 0]; rfl
theorem SeenQ.pair_ (h : SeenQ w sb base b1 b2 v sz bs n1 n2 f1 f2) : w.cell? ⟨sb, 257, none⟩ = some (.map (some b2)) := by
  rw [cell_of_row _ sb 257 _ _ _ h.head, seen_tail bs h.len b1 b2 v 1]; rfl
theorem SeenQ.slice_ (h : SeenQ w sb base b1 b2 v sz bs n1 n2 f1 f2) : w.cell? ⟨sb, 258, none⟩ = some v := by
  rw [cell_of_row _ sb 258 _ _ _ h.head, seen_tail bs h.len b1 b2 v 2]; rfl
theorem SeenQ.cool_ (h : SeenQ w sb base b1 b2 v sz bs n1 n2 f1 f2) (j : Nat) : w.frozen? ⟨sb, j, none⟩ = false := frozen_of_row w sb j _ _ h.head
theorem SeenQ.lt_ (h : SeenQ w sb base b1 b2 v sz bs n1 n2 f1 f2) : sb < w.heap.size := (Array.getElem?_eq_some_iff.1 h.head).1
/-- The same in a world in which its blocks are as they were. -/
theorem SeenQ.to_ (h : SeenQ w sb base b1 b2 v sz bs n1 n2 f1 f2) (he : ∀ k, k < w.heap.size → w'.heap[k]? = w.heap[k]?) : SeenQ w' sb base b1 b2 v sz bs n1 n2 f1 f2 :=
  ⟨(he sb h.lt_).trans h.head, h.len, h.own.of_block (fun k hk => he k (h.own.lt_ k hk).2), h.ranks.of_block (he b1 h.ranks.lt_), h.pairs.of_block (he b2 h.pairs.lt_), h.apart, h.d12, h.low0, h.low1, h.low2⟩
theorem SeenQ.below_ (h : SeenQ w sb base b1 b2 v sz bs n1 n2 f1 f2) (hb : Below w.heap.size w w') : SeenQ w' sb base b1 b2 v sz bs n1 n2 f1 f2 := h.to_ (fun k hk => hb.block k hk)
theorem SeenQ.alloc_ (h : SeenQ w sb base b1 b2 v sz bs n1 n2 f1 f2) (o : Obj) : SeenQ (w.alloc o) sb base b1 b2 v sz bs n1 n2 f1 f2 := h.to_ (fun k hk => heap_alloc_old w o hk)
theorem SeenQ.drewN_ (h : SeenQ w sb base b1 b2 v sz bs n1 n2 f1 f2) (n : Nat) : SeenQ (w.drewN n) sb base b1 b2 v sz bs n1 n2 f1 f2 := h.to_ (fun _ _ => rfl)
theorem SeenQ.drew_ (h : SeenQ w sb base b1 b2 v sz bs n1 n2 f1 f2) : SeenQ w.drew sb base b1 b2 v sz bs n1 n2 f1 f2 := h.to_ (fun _ _ => rfl)
theorem seenC_bool (bs : List Bool) (b1 b2 : Nat) (v : Value) {b : Nat} (hb : b < bs.length) (t : Bool) : (seenC bs b1 b2 v).set b (.bool t) = seenC (bs.set b t) b1 b2 v := by
  unfold seenC
  rw [List.set_append_left _ _ (by simpa using hb), ← List.map_set]
theorem seenC_slice (bs : List Bool) (hl : bs.length = 256) (b1 b2 : Nat) (v v' : Value) : (seenC bs b1 b2 v).set 258 v' = seenC bs b1 b2 v' := by
  unfold seenC
  rw [List.set_append_right _ _ (by simp [hl])]
  simp [hl]
/-- A cell of its own block is set: its list and its maps are as they were. -/
theorem SeenQ.setBool_ (h : SeenQ w sb base b1 b2 v sz bs n1 n2 f1 f2) {b : Nat} (hb : b < 256) (t : Bool) : SeenQ (w.setCell ⟨sb, b, none⟩ (.bool t)) sb base b1 b2 v sz (bs.set b t) n1 n2 f1 f2 := by
  have ho : ∀ k, k ≠ sb → (w.setCell ⟨sb, b, none⟩ (.bool t)).heap[k]? = w.heap[k]? := fun k hk => heap_setCell_other w ⟨sb, b, none⟩ k _ hk
  refine ⟨?_, by rw [List.length_set]; exact h.len, h.own.of_block (fun k hk => ho k (fun e => h.apart (by rw [hk, e]))), h.ranks.of_block (ho b1 (mp_row h.ranks h.head)), h.pairs.of_block (ho b2 (mp_row h.pairs h.head)), h.apart, h.d12, h.low0, h.low1, h.low2⟩
  rw [heap_setCell_same w sb _ _ _ _ h.head, ← seenC_bool bs b1 b2 v (by rw [h.len]; exact hb) t]
  simp
/-- What append turned leaves the seen's own block. -/
theorem SeenQ.grown_ (h : SeenQ w sb base b1 b2 v sz bs n1 n2 f1 f2) (hg : w.grownBy w' v.ownBlock) : w'.cell? ⟨sb, 258, none⟩ = some v ∧ w'.frozen? ⟨sb, 258, none⟩ = false := by
  have hh := (hg.block sb h.lt_ (fun e => h.apart e.symm)).trans h.head
  exact ⟨by rw [cell_of_row _ sb 258 _ _ _ hh, seen_tail bs h.len b1 b2 v 2]; rfl, frozen_of_row w' sb 258 _ _ hh⟩
/-- The list of sizes is had anew. -/
theorem SeenQ.setSlice_ (h : SeenQ w sb base b1 b2 v sz bs n1 n2 f1 f2) (hg : w.grownBy w' v.ownBlock) (ho : OwnL iK w' base v' sz') (hm : Moved w v v') : SeenQ (w'.setCell ⟨sb, 258, none⟩ v') sb base b1 b2 v' sz' bs n1 n2 f1 f2 := by
  have hap : v'.ownBlock ≠ some sb := fun e => by
    rcases hm sb e with h1 | h1
    · exact h.apart h1
    · have := h.lt_; omega
  have hh := (hg.block sb h.lt_ (fun e => h.apart e.symm)).trans h.head
  have hs : ∀ k, k ≠ sb → (w'.setCell ⟨sb, 258, none⟩ v').heap[k]? = w'.heap[k]? := fun k hk => heap_setCell_other w' ⟨sb, 258, none⟩ k _ hk
  refine ⟨?_, h.len, ho.of_block (fun k hk => hs k (fun e => hap (by rw [hk, e]))), ?_, ?_, hap, h.d12, h.low0, h.low1, h.low2⟩
  · rw [heap_setCell_same w' sb 258 _ _ _ hh, ← seenC_slice bs h.len b1 b2 v v']
    simp
  · exact h.ranks.of_block ((hs b1 (mp_row h.ranks h.head)).trans (hg.block b1 h.ranks.lt_ (fun e => mp_list h.ranks h.own e.symm)))
  · exact h.pairs.of_block ((hs b2 (mp_row h.pairs h.head)).trans (hg.block b2 h.pairs.lt_ (fun e => mp_list h.pairs h.own e.symm)))
end
/-- A seen behind the pieces D. -/
def SeenD (w : World) (sb base : Nat) (D : List Vo.Pc) : Prop := ∃ b1 b2 v, SeenQ w sb base b1 b2 v (Vo.sizes D) (Vo.bits D) D.length D.length (Vo.inR D) (Vo.inP D)
theorem SeenD.to_ {w w' : World} {sb base : Nat} {D : List Vo.Pc} (h : SeenD w sb base D) (hb : Below w.heap.size w w') : SeenD w' sb base D := by
  obtain ⟨b1, b2, v, h⟩ := h
  exact ⟨b1, b2, v, h.below_ hb⟩
theorem SeenD.lt_ {w : World} {sb base : Nat} {D : List Vo.Pc} (h : SeenD w sb base D) : sb < w.heap.size := by
  obtain ⟨b1, b2, v, h⟩ := h
  exact h.lt_
/-- What add, addByte and addJoin answer. -/
def IsAdd (sb base : Nat) (D : List Vo.Pc) (p : Vo.Pc) (w : World) (e : Ending) (w' : World) : Prop :=
  e = .returned (.int .i64 (Vo.errAt D p : Nat)) ∧ (Vo.errAt D p = 0 → SeenD w' sb base (D ++ [p])) ∧ Below base w w'
theorem IsAdd.bad {sb base : Nat} {D : List Vo.Pc} {p : Vo.Pc} {w w' : World} {x : Int} {n : Nat} (h : Vo.errAt D p = n) (hn : n ≠ 0) (hx : x = (n : Int)) (hb : Below base w w') : IsAdd sb base D p w (.returned (.int .i64 x)) w' := by
  subst hx
  exact ⟨by rw [h], fun e => absurd (h.symm.trans e) hn, hb⟩
end Go.Proofs.Ytkialijipcbgkaa
namespace Go.Proofs.Ytkialijipcbgkaa
open Go.RowKit Go.Maps
set_option linter.unusedVariables false

set_option maxHeartbeats 2000000 in
theorem paddByte_any {w : World} {sb base : Nat} {D : List Vo.Pc} (h : SeenD w sb base D) (p : Vo.Pc) (hp : PcOk p) (hj : p.join = false) (hD : D.length ≤ 4096) (hb : base ≤ w.heap.size) :
    Calls Try.prog 117 #[.pointer (some ⟨sb, 0, none⟩), pcV p] w (IsAdd sb base D p w) := by
  obtain ⟨b1, b2, v, hv⟩ := h
  obtain ⟨j, b, l, r, k⟩ := p
  obtain ⟨hpb, hpl, hpr, hpk⟩ := hp
  simp only at hj hpb hpl hpr hpk
  subst hj
  obtain ⟨A, c, rfl, _⟩ := hv.own.form_
  rw [Vo.sizes_len] at hv
  obtain ⟨o, ho⟩ : ∃ o : Obj, o = .cells #[.bool false, .int .u8 (b : Nat), .int .i64 l, .int .i64 r, .int .u32 (k : Nat)] 85 := ⟨_, rfl⟩
  obtain ⟨W, hW⟩ : ∃ W, w.alloc o = W := ⟨_, rfl⟩
  have hcell : ∀ (i : Nat) (u : Value), #[.bool false, .int .u8 (b : Nat), .int .i64 l, .int .i64 r, .int .u32 (k : Nat)][i]? = some u → W.cell? ⟨w.heap.size, i, none⟩ = some u := fun i u hi => by
    subst hW ho
    rw [cell_of_row _ w.heap.size i _ _ _ (heap_alloc_new w _)]
    exact hi
  have c0 := hcell 0 _ rfl
  have c1 := hcell 1 _ rfl
  have c2 := hcell 2 _ rfl
  have c3 := hcell 3 _ rfl
  have c4 := hcell 4 _ rfl
  have hvW : SeenQ W sb base b1 b2 (.slice A D.length c) (Vo.sizes D) (Vo.bits D) D.length D.length (Vo.inR D) (Vo.inP D) := by rw [← hW]; exact hv.alloc_ _
  have hbW : Below base w W := by rw [← hW]; exact (Below.refl _ _).alloc hb _
  have hsW : base ≤ W.heap.size := Nat.le_trans hb hbW.size
  subst ho
  have hneq := fun w => pc_neq ⟨false, b, l, r, k⟩ ⟨false, b, 0, 0, 0⟩ w
  have hgd := pc_guard
  unfold pcV at hneq ⊢
  simp only [Int.natCast_zero] at hneq
  clear hcell
  by_cases hbad : l ≠ 0 ∨ r ≠ 0 ∨ k ≠ 0
  · have HX : Hid (Vo.errAt D ⟨false, b, l, r, k⟩ = 5) := by unfold Hid Vo.errAt; rw [if_neg (by simp), if_pos hbad]
    have hq : Vo.eqB ⟨false, b, l, r, k⟩ ⟨false, b, 0, 0, 0⟩ = false := by
      rw [Bool.eq_false_iff]
      intro e
      have := Vo.eqB_iff.1 e
      simp at this
      omega
    rw [hq] at hneq
    have FIN := Lib.hid (show IsAdd sb base D ⟨false, b, l, r, k⟩ w (.returned (.int .i64 5)) W from IsAdd.bad HX.out (by decide) rfl hbW)
    simp only [Bool.not_false] at hneq
    clear hq hbad hv hvW hbW HX
    go_enter Try.func117, Try.ntmps117
    go_wp2
    go_ret
    exact FIN.out
  · obtain ⟨rfl, rfl, rfl⟩ : l = 0 ∧ r = 0 ∧ k = 0 := by omega
    have hq : Vo.eqB ⟨false, b, 0, 0, 0⟩ ⟨false, b, 0, 0, 0⟩ = true := Vo.eqB_iff.2 rfl
    rw [hq] at hneq
    simp only [Bool.not_true, Int.natCast_zero] at hneq
    have hW0 : w.alloc (.cells #[.bool false, .int .u8 (b : Nat), .int .i64 0, .int .i64 0, .int .u32 0] 85) = W := hW
    have c40 : W.cell? ⟨w.heap.size, 4, none⟩ = some (.int .u32 0) := c4
    simp only [Int.natCast_zero]
    have hbit := hvW.bool_ (Vo.bits_at (D := D) hpb)
    have hbi : (b : Int) < 256 := by omega
    clear hW c4 hbad hq
    cases ht : Vo.hasByte D ⟨false, b, 0, 0, 0⟩ with
    | true =>
      have HX : Hid (Vo.errAt D ⟨false, b, 0, 0, 0⟩ = 8) := by unfold Hid Vo.errAt; rw [if_neg (by simp), if_neg (by simp), if_pos ht]
      rw [Vo.hasByte_bits] at ht
      simp only at ht
      rw [ht] at hbit
      have HB := Lib.hid hbW
      clear ht hvW hbW hv
      go_enter Try.func117, Try.ntmps117
      go_wp2
      go_quiet (fail)
      go_wp2
      go_ret
      exact IsAdd.bad HX.out (by decide) rfl (below_drewN HB.out _)
    | false =>
      have HX : Hid (Vo.errAt D ⟨false, b, 0, 0, 0⟩ = 0) := by unfold Hid Vo.errAt; rw [if_neg (by simp), if_neg (by simp), if_neg (by rw [ht]; simp)]
      rw [Vo.hasByte_bits] at ht
      simp only at ht
      rw [ht] at hbit
      have HS := Lib.hid hvW
      have HB := Lib.hid hbW
      clear ht hvW hbW hv
      go_enter Try.func117, Try.ntmps117
      go_wp2
      go_quiet (fail)
      generalize hW9 : W.drewN _ = w9
      have HS9 : Hid (SeenQ w9 sb base b1 b2 (.slice A D.length c) (Vo.sizes D) (Vo.bits D) D.length D.length (Vo.inR D) (Vo.inP D)) := by unfold Hid; rw [← hW9]; exact HS.out.drewN_ _
      have HB9 : Hid (Below base w w9) := by unfold Hid; rw [← hW9]; exact below_drewN HB.out _
      have hc1 : w9.cell? ⟨w.heap.size, 1, none⟩ = some (.int .u8 (b : Nat)) := by rw [← hW9]; exact c1
      have hbit9 := HS9.out.bool_ (Vo.bits_at (D := D) hpb)
      have hcl := HS9.out.cool_ b
      clear hW9 hW0 c0 c1 c2 c3 c40 hbit hneq
      go_wp2
      go_region
      obtain ⟨W2, hW2⟩ : ∃ W2, (w9.setCell ⟨sb, b, none⟩ (.bool true)).drew = W2 := ⟨_, rfl⟩
      have HS2 : Hid (SeenQ W2 sb base b1 b2 (.slice A D.length c) (Vo.sizes D) ((Vo.bits D).set b true) D.length D.length (Vo.inR D) (Vo.inP D)) := by unfold Hid; rw [← hW2]; exact (HS9.out.setBool_ hpb true).drew_
      have HB2 : Hid (Below base w W2) := by unfold Hid; rw [← hW2]; exact (HB9.out.setCell (p := ⟨sb, b, none⟩) HS9.out.low0 _).drew
      have hc0 := HS2.out.slice_
      have hI : I64 (1 : Int) := by unfold I64; omega
      have HL : Hid ((Vo.sizes D).length = D.length) := Vo.sizes_len D
      have hb3 : base ≤ W2.heap.size := Nat.le_trans hb HB2.out.size
      rw [hW2]
      clear hW2 hcl hbit9 hc1 HS9 HB9
      go_wp2_with (at_builtin; go_must (refine wpList_push_m _ iK rfl _ _ rfl base _ rfl (Vo.sizes D) HS2.out.own rfl (1 : Int) hI _ rfl _ rfl (by rw [HL.out]; show _ * 8 ≤ _; omega) (by rw [HL.out]; simp only [maxLen]; omega) hb3 ?_; intro A3 c3 w4 hA hG hM; have hc4 := (HS2.out.grown_ hG).1; have hf4 := (HS2.out.grown_ hG).2))
      have HS5 := HS2.out.setSlice_ hG hA hM
      have HB5 := (HB2.out.grown hG hb3 (fun k hk => (HS2.out.own.lt_ k hk).1)).setCell (p := ⟨sb, 258, none⟩) HS2.out.low0 (.slice A3 (D.length + 1) c3)
      rw [HL.out] at HS5 ⊢
      have HS6 := Lib.hid HS5
      have HB6 := Lib.hid HB5
      clear HS5 HB5 hA hG hM hc4 hf4
      go_wp2
      go_ret
      refine ⟨by rw [HX.out]; rfl, fun _ => ?_, HB6.out⟩
      have h6 := HS6.out
      refine ⟨b1, b2, .slice A3 (D.length + 1) c3, ?_⟩
      rw [Vo.sizes_byte rfl, Vo.bits_byte rfl hpb, Vo.inR_byte rfl, Vo.inP_byte rfl, List.length_append]
      exact ⟨h6.head, h6.len, h6.own, h6.ranks.mono_ (by simp), h6.pairs.mono_ (by simp), h6.apart, h6.d12, h6.low0, h6.low1, h6.low2⟩
end Go.Proofs.Ytkialijipcbgkaa
namespace Go.Proofs.Ytkialijipcbgkaa
open Go.RowKit Go.Maps
set_option linter.unusedVariables false

namespace Vo
/-- Does the token stand ahead? -/
def stands (n : Nat) (t : Int) : Bool := decide (0 ≤ t ∧ t < n)
end Vo
set_option maxHeartbeats 1000000 in
theorem phas_any {w : World} {sb base : Nat} {D : List Vo.Pc} (h : SeenD w sb base D) (t : Int) :
    Calls Try.prog 122 #[.pointer (some ⟨sb, 0, none⟩), .int .i64 t] w (fun e w' => e = .returned (.bool (Vo.stands D.length t)) ∧ w' = w) := by
  obtain ⟨b1, b2, v, h⟩ := h
  have c3 := h.slice_
  have hl := Vo.sizes_len D
  obtain ⟨A, c, rfl, _⟩ := h.own.form_
  rw [hl] at c3
  obtain ⟨n, hn⟩ : ∃ n, D.length = n := ⟨_, rfl⟩
  rw [hn] at c3 ⊢
  clear h hn hl
  by_cases h0 : 0 ≤ t
  · by_cases h1 : t < (n : Int)
    · have HX : Hid (Vo.stands n t = true) := by unfold Hid Vo.stands; simp [h0, h1]
      go_enter Try.func122, Try.ntmps122
      go_wp2
      go_ret
      exact ⟨by rw [HX.out]; rfl, rfl⟩
    · have HX : Hid (Vo.stands n t = false) := by unfold Hid Vo.stands; simp; omega
      go_enter Try.func122, Try.ntmps122
      go_wp2
      go_ret
      exact ⟨by rw [HX.out]; rfl, rfl⟩
  · have HX : Hid (Vo.stands n t = false) := by unfold Hid Vo.stands; simp; omega
    go_enter Try.func122, Try.ntmps122
    go_wp2
    go_ret
    exact ⟨by rw [HX.out]; rfl, rfl⟩
end Go.Proofs.Ytkialijipcbgkaa
namespace Go.Proofs.Ytkialijipcbgkaa
open Go.RowKit Go.Maps
set_option linter.unusedVariables false

namespace Vo
theorem stands_iff {n : Nat} {t : Int} : stands n t = true ↔ 0 ≤ t ∧ t < n := by unfold stands; simp
/-- How many bytes the token has. -/
def sizeAt (D : List Pc) (t : Int) : Nat := ((texts D).getD t.toNat []).length
theorem sizes_of {D : List Pc} {t : Int} (h : stands D.length t = true) : (sizes D)[t.toNat]? = some (sizeAt D t : Int) := by
  obtain ⟨h0, h1⟩ := stands_iff.1 h
  have hk : t.toNat < (texts D).length := by rw [texts_len]; omega
  unfold sizes sizeAt
  rw [List.getElem?_map, List.getElem?_eq_getElem hk, List.getD_eq_getElem?_getD, List.getElem?_eq_getElem hk]
  rfl
theorem tx_lens {D : List Pc} {p : Pc} (hj : p.join = true) : (tx (texts D) p).length = sizeAt D p.left + sizeAt D p.right := by
  unfold tx sizeAt
  rw [if_pos hj, List.length_append]
theorem stands_both {D : List Pc} {l r : Int} : (stands D.length l = true ∧ stands D.length r = true) ↔ ¬ (l < 0 ∨ (D.length : Int) ≤ l ∨ r < 0 ∨ (D.length : Int) ≤ r) := by
  rw [stands_iff, stands_iff]; omega
theorem sizes_join {D : List Pc} {p : Pc} (hj : p.join = true) : sizes (D ++ [p]) = sizes D ++ [((sizeAt D p.left + sizeAt D p.right : Nat) : Int)] := by
  rw [sizes_snoc, tx_lens hj]
end Vo
/-- An own list of integers is read. -/
theorem own_cell {P : Program} {K : El P Int} {w : World} {base n c : Nat} {A : Option Addr} {l : List Int} (h : OwnL K w base (.slice A n c) l) (h1 : K.size = 1) {k : Nat} {x : Int} (hk : l[k]? = some x) {u : Value} (hu : K.enc x = [u]) :
    ∃ g, A = some ⟨g, 0, none⟩ ∧ w.cell? ⟨g, k, none⟩ = some u := by
  obtain ⟨g, y, e, _, _, _, hy, hc, _⟩ := h.at_ (k := k) (List.getElem?_eq_some_iff.1 hk).1
  rw [hk] at hy
  cases hy
  refine ⟨g, e, ?_⟩
  have := hc 0 u (by rw [hu]; rfl)
  rwa [h1, Nat.mul_one, Nat.add_zero] at this

/-- A block in which cells stand is no map. -/
theorem mp_cell {κ β : Type} {P : Program} {K : MpK P κ β} {w : World} {b n q j : Nat} {f : κ → Option β} {u : Value} (h : IsMp K w b n f) (hq : w.cell? ⟨q, j, none⟩ = some u) : q ≠ b := fun e => by
  obtain ⟨D, ⟨es, clock, h1, _⟩, _⟩ := h
  subst e
  simp [World.cell?, h1] at hq
theorem grown_cell {w w' : World} {q j b : Nat} {u : Value} (h : w.grownBy w' (some b)) (hq : w.cell? ⟨q, j, none⟩ = some u) (hb : q ≠ b) : w'.cell? ⟨q, j, none⟩ = some u := by
  have hlt : q < w.heap.size := by
    apply Decidable.byContradiction
    intro hn
    have hx : w.heap[q]? = none := Array.getElem?_eq_none (by omega)
    simp [World.cell?, hx] at hq
  have hx := h.block q hlt (fun e => hb (Option.some.inj e))
  have e : w'.cell? ⟨q, j, none⟩ = w.cell? ⟨q, j, none⟩ := by simp only [World.cell?, hx]
  rw [e]; exact hq

set_option maxHeartbeats 4000000 in
set_option maxRecDepth 100000 in
theorem paddJoin_any {w : World} {sb base : Nat} {D : List Vo.Pc} (h : SeenD w sb base D) (p : Vo.Pc) (hp : PcOk p) (hj : p.join = true) (hD : D.length ≤ 4096) (hg : Vo.Good D) (hb : base ≤ w.heap.size) :
    Calls Try.prog 116 #[.pointer (some ⟨sb, 0, none⟩), pcV p] w (IsAdd sb base D p w) := by
  obtain ⟨j, b, l, r, k⟩ := p
  obtain ⟨hpb, hpl, hpr, hpk⟩ := hp
  simp only at hj hpb hpl hpr hpk
  subst hj
  obtain ⟨W, hW⟩ : ∃ W, w.alloc (.cells #[.bool true, .int .u8 (b : Nat), .int .i64 l, .int .i64 r, .int .u32 (k : Nat)] 85) = W := ⟨_, rfl⟩
  have hx : W.heap[w.heap.size]? = some (.cells #[.bool true, .int .u8 (b : Nat), .int .i64 l, .int .i64 r, .int .u32 (k : Nat)] 85 (0, 0)) := by rw [← hW]; exact heap_alloc_new w _
  have c1 : W.cell? ⟨w.heap.size, 1, none⟩ = some (.int .u8 (b : Nat)) := by rw [cell_of_row _ w.heap.size 1 _ _ _ hx]; rfl
  have c2 : W.cell? ⟨w.heap.size, 2, none⟩ = some (.int .i64 l) := by rw [cell_of_row _ w.heap.size 2 _ _ _ hx]; rfl
  have c3 : W.cell? ⟨w.heap.size, 3, none⟩ = some (.int .i64 r) := by rw [cell_of_row _ w.heap.size 3 _ _ _ hx]; rfl
  have c4 : W.cell? ⟨w.heap.size, 4, none⟩ = some (.int .u32 (k : Nat)) := by rw [cell_of_row _ w.heap.size 4 _ _ _ hx]; rfl
  have hbW : Below base w W := by rw [← hW]; exact (Below.refl _ _).alloc hb _
  have hSW : SeenD W sb base D := h.to_ (by rw [← hW]; exact (Below.refl _ _).alloc (Nat.le_refl _) _)
  have HS := Lib.hid hSW
  have HB := Lib.hid hbW
  have HH : Hid (∀ t, Calls Try.prog 122 #[.pointer (some ⟨sb, 0, none⟩), .int .i64 t] W (fun e w' => e = .returned (.bool (Vo.stands D.length t)) ∧ w' = W)) := fun t => phas_any hSW t
  unfold pcV
  clear h hbW hSW hx
  by_cases hb0 : b ≠ 0
  · have HX : Hid (Vo.errAt D ⟨true, b, l, r, k⟩ = 5) := by unfold Hid Vo.errAt; rw [if_pos (by rfl), if_pos hb0]
    have h3 : ((b : Int) != 0) = true := by rw [bne_iff_ne]; omega
    go_enter Try.func116, Try.ntmps116
    go_wp2
    go_ret
    exact IsAdd.bad HX.out (by decide) rfl HB.out
  · obtain rfl : b = 0 := by omega
    simp only [Int.natCast_zero] at c1 hW ⊢
    clear hb0
    by_cases hst : Vo.stands D.length l = true ∧ Vo.stands D.length r = true
    · obtain ⟨hl, hr⟩ := hst
      have hnb := Vo.stands_both.1 ⟨hl, hr⟩
      obtain ⟨b1, b2, v, hq⟩ := HS.out
      obtain ⟨A, c, rfl, _⟩ := hq.own.form_
      obtain ⟨sz1, hsz1⟩ : ∃ n, Vo.sizeAt D l = n := ⟨_, rfl⟩
      obtain ⟨sz2, hsz2⟩ : ∃ n, Vo.sizeAt D r = n := ⟨_, rfl⟩
      have hz1 := Vo.sizes_of hl
      have hz2 := Vo.sizes_of hr
      rw [hsz1] at hz1
      rw [hsz2] at hz2
      obtain ⟨g, rfl, k1⟩ := own_cell hq.own rfl hz1 rfl
      obtain ⟨g2, e2, k2⟩ := own_cell hq.own rfl hz2 rfl
      obtain rfl : g2 = g := by injection e2 with e2; injection e2 with e2; exact e2.symm
      have hl2 := (Vo.stands_iff.1 hl)
      have hr2 := (Vo.stands_iff.1 hr)
      obtain ⟨L, rfl⟩ := Int.eq_ofNat_of_zero_le hl2.1
      obtain ⟨R, rfl⟩ := Int.eq_ofNat_of_zero_le hr2.1
      simp only [Int.toNat_natCast] at k1 k2
      have c258 := hq.slice_
      rw [Vo.sizes_len] at c258
      have hLi := hl2.2
      have hRi := hr2.2
      have hS1 : sz1 ≤ 256 := by rw [← hsz1]; exact (Vo.text_size hg (t := L) (by omega)).2
      have hS2 : sz2 ≤ 256 := by rw [← hsz2]; exact (Vo.text_size hg (t := R) (by omega)).2
      have HN := Lib.hid hnb
      have HZ : Hid (Vo.sizeAt D (L : Int) = sz1 ∧ Vo.sizeAt D (R : Int) = sz2) := ⟨hsz1, hsz2⟩
      clear hnb e2 hz1 hz2 hl2 hr2 hsz1 hsz2
      by_cases h256 : 256 < sz1 + sz2
      · have HX : Hid (Vo.errAt D ⟨true, 0, L, R, k⟩ = 3) := by
          unfold Hid Vo.errAt
          rw [if_pos (by rfl), if_neg (by simp), if_neg HN.out, Vo.tx_lens rfl, if_pos (by rw [HZ.out.1, HZ.out.2]; exact h256)]
        have hgt : decide ((sz1 : Int) + (sz2 : Int) > 256) = true := by simp; omega
        clear hq
        go_enter Try.func116, Try.ntmps116
        go_wp2_with (go_at_call 122; refine (HH.out _).mono ?_; rintro e w' ⟨rfl, rfl⟩)
        go_quiet (fail)
        go_wp2
        go_ret
        exact IsAdd.bad HX.out (by decide) rfl (below_drewN HB.out _)
      · have hgt : decide ((sz1 : Int) + (sz2 : Int) > 256) = false := by simp; omega
        have HQ := Lib.hid hq
        clear hq
        go_enter Try.func116, Try.ntmps116
        go_wp2_with (go_at_call 122; refine (HH.out _).mono ?_; rintro e w' ⟨rfl, rfl⟩)
        go_quiet (fail)
        generalize hW5 : World.drewN _ _ = w5
        have HQ5 : Hid (SeenQ w5 sb base b1 b2 (.slice (some ⟨g2, 0, none⟩) D.length c) (Vo.sizes D) (Vo.bits D) D.length D.length (Vo.inR D) (Vo.inP D)) := by
          unfold Hid; rw [← hW5]
          have h5 := HQ.out.drewN_ nq
          rwa [Vo.sizes_len] at h5
        have HB5 : Hid (Below base w w5) := by unfold Hid; rw [← hW5]; exact below_drewN HB.out _
        have e2 : w5.cell? ⟨w.heap.size, 2, none⟩ = some (.int .i64 (L : Nat)) := by rw [← hW5]; exact c2
        have e3 : w5.cell? ⟨w.heap.size, 3, none⟩ = some (.int .i64 (R : Nat)) := by rw [← hW5]; exact c3
        have e4 : w5.cell? ⟨w.heap.size, 4, none⟩ = some (.int .u32 (k : Nat)) := by rw [← hW5]; exact c4
        have hlt0 : w.heap.size < w5.heap.size := by
          rw [← hW5, ← hW]
          show w.heap.size < (w.alloc _).heap.size
          simp
        clear hW5 c1 c2 c3 c4 c258 k1 k2 hW
        obtain ⟨w6, hw6⟩ : ∃ w6, w5.alloc (.cells #[.int .i64 (L : Nat), .int .i64 (R : Nat)] 113) = w6 := ⟨_, rfl⟩
        have HQ6 : Hid (SeenQ w6 sb base b1 b2 (.slice (some ⟨g2, 0, none⟩) D.length c) (Vo.sizes D) (Vo.bits D) D.length D.length (Vo.inR D) (Vo.inP D)) := by unfold Hid; rw [← hw6]; exact HQ5.out.alloc_ _
        have hb5 : base ≤ w5.heap.size := Nat.le_trans hb HB5.out.size
        have HB6 : Hid (Below base w w6) := by unfold Hid; rw [← hw6]; exact HB5.out.alloc hb5 _
        have h56 : Below w5.heap.size w5 w6 := by rw [← hw6]; exact (Below.refl _ _).alloc (Nat.le_refl _) _
        have hr6 : w6.heap[w5.heap.size]? = some (.cells #[.int .i64 (L : Nat), .int .i64 (R : Nat)] 113 (0, 0)) := by rw [← hw6]; exact heap_alloc_new w5 _
        have e4' := (h56.cell (p := ⟨w.heap.size, 4, none⟩) hlt0).trans e4
        obtain ⟨o1, ho1⟩ : ∃ o, D.any (Vo.isP (L, R)) = o := ⟨_, rfl⟩
        obtain ⟨o2, ho2⟩ : ∃ o, D.any (Vo.isR (k : Nat)) = o := ⟨_, rfl⟩
        have HJ : Hid (Vo.hasJoin D ⟨true, 0, L, R, k⟩ = (o1 || o2)) := by unfold Hid; rw [Vo.hasJoin_eq, ho1, ho2]
        -- the pair is sought
        obtain ⟨w7, hw7⟩ : ∃ w7, w6.alloc (.cells #[] 169) = w7 := ⟨_, rfl⟩
        have HQ7 : Hid (SeenQ w7 sb base b1 b2 (.slice (some ⟨g2, 0, none⟩) D.length c) (Vo.sizes D) (Vo.bits D) D.length D.length (Vo.inR D) (Vo.inP D)) := by unfold Hid; rw [← hw7]; exact HQ6.out.alloc_ _
        have l6 := (show IsMp mpP w6.drew b2 _ _ from HQ6.out.pairs.of_block rfl).look_ok (x := ((L : Int), (R : Int))) ⟨i64_lit hpl, i64_lit hpr⟩
        have l7 := (show IsMp mpP w7.drew b2 _ _ from HQ7.out.pairs.of_block rfl).look_ok (x := ((L : Int), (R : Int))) ⟨i64_lit hpl, i64_lit hpr⟩
        rw [Vo.inP_some, ho1] at l6 l7
        change (Instr.lookup 161 (.map (some b2)) (.agg #[.int .i64 (L : Nat), .int .i64 (R : Nat)]) true).run Try.prog w6.drew = .ok (.tuple #[.agg #[], .bool o1]) w6.drew at l6
        change (Instr.lookup 161 (.map (some b2)) (.agg #[.int .i64 (L : Nat), .int .i64 (R : Nat)]) true).run Try.prog w7.drew = .ok (.tuple #[.agg #[], .bool o1]) w7.drew at l7
        have p6 := HQ6.out.pair_
        have p7 := HQ7.out.pair_
        have h67 : Below w6.heap.size w6 w7 := by rw [← hw7]; exact (Below.refl _ _).alloc (Nat.le_refl _) _
        have a60 : w6.cell? ⟨w5.heap.size, 0, none⟩ = some (.int .i64 (L : Nat)) := by rw [cell_of_row _ w5.heap.size 0 _ _ _ hr6]; rfl
        have a61 : w6.cell? ⟨w5.heap.size, 1, none⟩ = some (.int .i64 (R : Nat)) := by rw [cell_of_row _ w5.heap.size 1 _ _ _ hr6]; rfl
        have hlt : w5.heap.size < w6.heap.size := (Array.getElem?_eq_some_iff.1 hr6).1
        have a70 := (h67.cell (p := ⟨w5.heap.size, 0, none⟩) hlt).trans a60
        have a71 := (h67.cell (p := ⟨w5.heap.size, 1, none⟩) hlt).trans a61
        have e47 := (h67.cell (p := ⟨w.heap.size, 4, none⟩) (Nat.lt_trans hlt0 hlt)).trans e4'
        clear h56 h67 hlt HS HQ HH
        go_wp2
        go_region
        generalize hW8 : World.drew _ = w8
        have HQ8 : Hid (SeenQ w8 sb base b1 b2 (.slice (some ⟨g2, 0, none⟩) D.length c) (Vo.sizes D) (Vo.bits D) D.length D.length (Vo.inR D) (Vo.inP D)) := by unfold Hid; rw [← hW8]; exact HQ7.out.drew_
        have hb6 : base ≤ w6.heap.size := Nat.le_trans hb HB6.out.size
        have HB8 : Hid (Below base w w8) := by unfold Hid; rw [← hW8, ← hw7]; exact (HB6.out.alloc hb6 _).drew
        have e48 : w8.cell? ⟨w.heap.size, 4, none⟩ = some (.int .u32 (k : Nat)) := by rw [← hW8]; exact e47
        have a80 : w8.cell? ⟨w5.heap.size, 0, none⟩ = some (.int .i64 (L : Nat)) := by rw [← hW8]; exact a70
        have a81 : w8.cell? ⟨w5.heap.size, 1, none⟩ = some (.int .i64 (R : Nat)) := by rw [← hW8]; exact a71
        obtain ⟨s5, hs5⟩ : ∃ s, w5.heap.size = s := ⟨_, rfl⟩
        have h58 : w.heap.size < s5 ∧ s5 < w8.heap.size := by
          rw [← hW8, ← hw7, ← hw6, ← hs5]
          refine ⟨hlt0, ?_⟩
          show w5.heap.size < ((w5.alloc _).alloc _).heap.size
          simp
          omega
        rw [hs5] at a80 a81 ⊢
        clear hW8 hw7 hw6 l6 l7 p6 p7 a60 a61 a70 a71 e2 e3 e4 e4' e47 HQ5 HQ6 HQ7 HB5 HB6 hr6 hb5 hb6 hs5 hlt0
        -- the rank is sought
        obtain ⟨w9, hw9⟩ : ∃ w9, w8.alloc (.cells #[] 169) = w9 := ⟨_, rfl⟩
        have h89 : Below w8.heap.size w8 w9 := by rw [← hw9]; exact (Below.refl _ _).alloc (Nat.le_refl _) _
        have HQ9 : Hid (SeenQ w9 sb base b1 b2 (.slice (some ⟨g2, 0, none⟩) D.length c) (Vo.sizes D) (Vo.bits D) D.length D.length (Vo.inR D) (Vo.inP D)) := by unfold Hid; rw [← hw9]; exact HQ8.out.alloc_ _
        have l8 := (show IsMp mpR w8.drew b1 _ _ from HQ8.out.ranks.of_block rfl).look_ok (x := (k : Int)) (u32_lit hpk)
        have l9 := (show IsMp mpR w9.drew b1 _ _ from HQ9.out.ranks.of_block rfl).look_ok (x := (k : Int)) (u32_lit hpk)
        rw [Vo.inR_some, ho2] at l8 l9
        change (Instr.lookup 160 (.map (some b1)) (.int .u32 (k : Nat)) true).run Try.prog w8.drew = .ok (.tuple #[.agg #[], .bool o2]) w8.drew at l8
        change (Instr.lookup 160 (.map (some b1)) (.int .u32 (k : Nat)) true).run Try.prog w9.drew = .ok (.tuple #[.agg #[], .bool o2]) w9.drew at l9
        have p8 := HQ8.out.rank_
        have p9 := HQ9.out.rank_
        have hs58 := Nat.lt_trans h58.1 h58.2
        have e49 := (h89.cell (p := ⟨w.heap.size, 4, none⟩) hs58).trans e48
        have a90 := (h89.cell (p := ⟨s5, 0, none⟩) h58.2).trans a80
        have a91 := (h89.cell (p := ⟨s5, 1, none⟩) h58.2).trans a81
        have H58 := Lib.hid h58
        clear h58 hs58 h89
        go_wp2
        go_region
        generalize hW10 : World.drew _ = w10
        have HQ10 : Hid (SeenQ w10 sb base b1 b2 (.slice (some ⟨g2, 0, none⟩) D.length c) (Vo.sizes D) (Vo.bits D) D.length D.length (Vo.inR D) (Vo.inP D)) := by unfold Hid; rw [← hW10]; exact HQ9.out.drew_
        have HB10 : Hid (Below base w w10) := by unfold Hid; rw [← hW10, ← hw9]; exact (HB8.out.alloc (Nat.le_trans hb HB8.out.size) _).drew
        have e410 : w10.cell? ⟨w.heap.size, 4, none⟩ = some (.int .u32 (k : Nat)) := by rw [← hW10]; exact e49
        have a100 : w10.cell? ⟨s5, 0, none⟩ = some (.int .i64 (L : Nat)) := by rw [← hW10]; exact a90
        have a101 : w10.cell? ⟨s5, 1, none⟩ = some (.int .i64 (R : Nat)) := by rw [← hW10]; exact a91
        clear hW10 hw9 l8 l9 p8 p9 e48 e49 a80 a81 a90 a91 HQ8 HQ9 HB8 H58
        cases o1 with
        | true =>
          have HX : Hid (Vo.errAt D ⟨true, 0, L, R, k⟩ = 8) := by
            unfold Hid Vo.errAt
            rw [if_pos (by rfl), if_neg (by simp), if_neg HN.out, Vo.tx_lens rfl, if_neg (by rw [HZ.out.1, HZ.out.2]; exact h256), if_pos (by rw [HJ.out]; rfl)]
          go_wp2
          go_ret
          exact IsAdd.bad HX.out (by decide) rfl HB10.out
        | false =>
          cases o2 with
          | true =>
            have HX : Hid (Vo.errAt D ⟨true, 0, L, R, k⟩ = 8) := by
              unfold Hid Vo.errAt
              rw [if_pos (by rfl), if_neg (by simp), if_neg HN.out, Vo.tx_lens rfl, if_neg (by rw [HZ.out.1, HZ.out.2]; exact h256), if_pos (by rw [HJ.out]; rfl)]
            go_wp2
            go_ret
            exact IsAdd.bad HX.out (by decide) rfl HB10.out
          | false =>
            have HX : Hid (Vo.errAt D ⟨true, 0, L, R, k⟩ = 0) := by
              unfold Hid Vo.errAt
              rw [if_pos (by rfl), if_neg (by simp), if_neg HN.out, Vo.tx_lens rfl, if_neg (by rw [HZ.out.1, HZ.out.2]; exact h256), if_neg (by rw [HJ.out]; simp)]
            have p10 := HQ10.out.rank_
            have q10 := HQ10.out.pair_
            have hDm : D.length < maxLen := by simp only [maxLen]; omega
            obtain ⟨v1, st1, ob1, hm1, he1⟩ := (show IsMp mpP w10.drew b2 _ _ from HQ10.out.pairs.of_block rfl).entry hDm (x := ((L : Int), (R : Int))) ⟨i64_lit hpl, i64_lit hpr⟩ () (fun _ => rfl)
            obtain ⟨w11, hw11⟩ : ∃ w11, ({ w10.drew with heap := w10.drew.heap.setIfInBounds b2 ob1 } : World) = w11 := ⟨_, rfl⟩
            rw [hw11] at hm1
            change (Instr.mapEntry 161 (.map (some b2)) (.agg #[.int .i64 (L : Nat), .int .i64 (R : Nat)])).run Try.prog w10.drew = .ok (.tuple #[v1, .int .i64 (st1 : Nat)]) w11 at hm1
            have hn11 : w11.heap[b2]? = some ob1 := by rw [← hw11]; exact heap_set_same ob1 HQ10.out.pairs.lt_
            have hg11 : w10.drew.grownBy w11 (some b2) := by rw [← hw11]; exact grown_set w10.drew b2 ob1
            obtain ⟨ob2, hm2, he2⟩ := he1 w11 () hn11
            obtain ⟨w12, hw12⟩ : ∃ w12, ({ w11 with heap := w11.heap.setIfInBounds b2 ob2 } : World) = w12 := ⟨_, rfl⟩
            rw [hw12] at hm2
            change (Instr.entryStore 161 (.map (some b2)) (.int .i64 (st1 : Nat)) (.agg #[])).run Try.prog w11 = .ok () w12 at hm2
            have hg12 : w10.drew.grownBy w12 (some b2) := grownBy_trans hg11 (by rw [← hw12]; exact grown_set w11 b2 ob2)
            have hp12 : IsMp mpP w12 b2 (D.length + 1) (Vo.inP (D ++ [⟨true, 0, L, R, k⟩])) := by
              rw [Vo.inP_join rfl]
              exact he2 w12 (by rw [← hw12]; exact heap_set_same ob2 (Array.getElem?_eq_some_iff.1 hn11).1)
            have hd := HQ10.out.d12
            have hr12 : IsMp mpR w12 b1 D.length (Vo.inR D) := HQ10.out.ranks.of_block (hg12.block b1 HQ10.out.ranks.lt_ (fun e => hd (Option.some.inj e)))
            obtain ⟨v3, st3, ob3, hm3, he3⟩ := hr12.entry hDm (x := (k : Int)) (u32_lit hpk) () (fun _ => rfl)
            obtain ⟨w13, hw13⟩ : ∃ w13, ({ w12 with heap := w12.heap.setIfInBounds b1 ob3 } : World) = w13 := ⟨_, rfl⟩
            rw [hw13] at hm3
            change (Instr.mapEntry 160 (.map (some b1)) (.int .u32 (k : Nat))).run Try.prog w12 = .ok (.tuple #[v3, .int .i64 (st3 : Nat)]) w13 at hm3
            have hn13 : w13.heap[b1]? = some ob3 := by rw [← hw13]; exact heap_set_same ob3 hr12.lt_
            obtain ⟨ob4, hm4, he4⟩ := he3 w13 () hn13
            obtain ⟨w14, hw14⟩ : ∃ w14, ({ w13 with heap := w13.heap.setIfInBounds b1 ob4 } : World) = w14 := ⟨_, rfl⟩
            rw [hw14] at hm4
            change (Instr.entryStore 160 (.map (some b1)) (.int .i64 (st3 : Nat)) (.agg #[])).run Try.prog w13 = .ok () w14 at hm4
            have hg13 : w12.grownBy w13 (some b1) := by rw [← hw13]; exact grown_set w12 b1 ob3
            have hg14 : w12.grownBy w14 (some b1) := grownBy_trans hg13 (by rw [← hw14]; exact grown_set w13 b1 ob4)
            have hr14 : IsMp mpR w14 b1 (D.length + 1) (Vo.inR (D ++ [⟨true, 0, L, R, k⟩])) := by
              rw [Vo.inR_join rfl]
              exact he4 w14 (by rw [← hw14]; exact heap_set_same ob4 (Array.getElem?_eq_some_iff.1 hn13).1)
            have hs1 := mp_row HQ10.out.ranks HQ10.out.head
            have hs2 := mp_row HQ10.out.pairs HQ10.out.head
            have hv1 := mp_list HQ10.out.ranks HQ10.out.own
            have hv2 := mp_list HQ10.out.pairs HQ10.out.own
            have HQ14 : Hid (SeenQ w14 sb base b1 b2 (.slice (some ⟨g2, 0, none⟩) D.length c) (Vo.sizes D) (Vo.bits D) (D.length + 1) (D.length + 1) (Vo.inR (D ++ [⟨true, 0, L, R, k⟩])) (Vo.inP (D ++ [⟨true, 0, L, R, k⟩]))) := by
              have h := HQ10.out
              have hsb : w14.heap[sb]? = w10.heap[sb]? := (hg14.block sb (Nat.lt_of_lt_of_le h.lt_ hg12.size) (fun e => hs1 (Option.some.inj e).symm)).trans (hg12.block sb h.lt_ (fun e => hs2 (Option.some.inj e).symm))
              have hvb : ∀ q, (Value.slice (some ⟨g2, 0, none⟩) D.length c).ownBlock = some q → w14.heap[q]? = w10.heap[q]? := fun q hq =>
                (hg14.block q (Nat.lt_of_lt_of_le (h.own.lt_ q hq).2 hg12.size) (fun e => hv1 (hq.trans e))).trans (hg12.block q (h.own.lt_ q hq).2 (fun e => hv2 (hq.trans e)))
              exact ⟨hsb.trans h.head, h.len, h.own.of_block hvb, hr14, hp12.of_block (hg14.block b2 hp12.lt_ (fun e => hd (Option.some.inj e).symm)), h.apart, h.d12, h.low0, h.low1, h.low2⟩
            have hb10 : base ≤ w10.heap.size := Nat.le_trans hb HB10.out.size
            have HB12 : Below base w w12 := HB10.out.drew.grown hg12 hb10 (fun q hq => by cases hq; exact HQ10.out.low2)
            have HB14 : Hid (Below base w w14) := HB12.grown hg14 (Nat.le_trans hb HB12.size) (fun q hq => by cases hq; exact HQ10.out.low1)
            have keep : ∀ (q j : Nat) (u : Value), w10.cell? ⟨q, j, none⟩ = some u → w11.cell? ⟨q, j, none⟩ = some u ∧ w12.cell? ⟨q, j, none⟩ = some u ∧ w13.cell? ⟨q, j, none⟩ = some u := fun q j u hq => by
              have n1 := mp_cell (show IsMp mpP w10.drew b2 _ _ from HQ10.out.pairs.of_block rfl) hq
              have n2 := mp_cell (show IsMp mpR w10.drew b1 _ _ from HQ10.out.ranks.of_block rfl) hq
              have k11 := grown_cell hg11 hq n1
              have k12 := grown_cell hg12 hq n1
              exact ⟨k11, k12, grown_cell hg13 k12 n2⟩
            obtain ⟨p11, p12, p13⟩ := keep sb 256 _ p10
            obtain ⟨q11, q12, q13⟩ := keep sb 257 _ q10
            obtain ⟨e411, e412, e413⟩ := keep w.heap.size 4 _ e410
            obtain ⟨a110, a120, a130⟩ := keep s5 0 _ a100
            obtain ⟨a111, a121, a131⟩ := keep s5 1 _ a101
            clear keep hg13
            clear hw11 hw12 hw13 hw14 hn11 hn13 hg11 hg12 hp12 hr12 hd hs1 hs2 hv1 hv2 hg14 hr14 HB12 he1 he2 he3 he4 hb10
            go_wp2
            go_region
            have hc258 := HQ14.out.slice_
            have HL : Hid ((Vo.sizes D).length = D.length) := Vo.sizes_len D
            have hb3 : base ≤ w14.heap.size := Nat.le_trans hb HB14.out.size
            obtain ⟨sz, hsz⟩ : ∃ z : Int, (sz1 : Int) + (sz2 : Int) = z := ⟨_, rfl⟩
            have HSZ := Lib.hid hsz
            have hI : I64 sz := by unfold I64; omega
            rw [hsz]
            clear hm1 hm2 hm3 hm4 hsz hgt p10 p11 p12 p13 q10 q11 q12 q13 e410 e411 e412 e413 a100 a110 a120 a130 a101 a111 a121 a131
            go_wp2_with (at_builtin; go_must (refine wpList_push_m _ iK rfl _ _ rfl base _ rfl (Vo.sizes D) HQ14.out.own rfl sz hI _ rfl _ rfl (by rw [HL.out]; show _ * 8 ≤ _; omega) (by rw [HL.out]; simp only [maxLen]; omega) hb3 ?_; intro A3 c3 w4 hA hG hM; have hc4 := (HQ14.out.grown_ hG).1; have hf4 := (HQ14.out.grown_ hG).2))
            have HS5 := HQ14.out.setSlice_ hG hA hM
            have HB5 := (HB14.out.grown hG hb3 (fun k hk => (HQ14.out.own.lt_ k hk).1)).setCell (p := ⟨sb, 258, none⟩) HQ14.out.low0 (.slice A3 (D.length + 1) c3)
            rw [HL.out] at HS5 ⊢
            have HS6 := Lib.hid HS5
            have HB6 := Lib.hid HB5
            clear HS5 HB5 hA hG hM hc4 hf4
            go_wp2
            go_ret
            refine ⟨by rw [HX.out]; rfl, fun _ => ?_, HB6.out⟩
            have h6 := HS6.out
            refine ⟨b1, b2, .slice A3 (D.length + 1) c3, ?_⟩
            rw [Vo.sizes_join rfl, Vo.bits_join rfl, List.length_append, HZ.out.1, HZ.out.2, Int.natCast_add, HSZ.out]
            exact h6
    · have HX : Hid (Vo.errAt D ⟨true, 0, l, r, k⟩ = 2) := by
        unfold Hid Vo.errAt
        rw [if_pos (by rfl), if_neg (by simp), if_pos (by rw [Vo.stands_both] at hst; exact Decidable.not_not.1 hst)]
      cases hl : Vo.stands D.length l with
      | false =>
        clear hst
        go_enter Try.func116, Try.ntmps116
        go_wp2_with (go_at_call 122; refine (HH.out _).mono ?_; rintro e w' ⟨rfl, rfl⟩)
        go_ret
        exact IsAdd.bad HX.out (by decide) rfl HB.out
      | true =>
        have hr : Vo.stands D.length r = false := by
          cases hr : Vo.stands D.length r with
          | false => rfl
          | true => exact absurd ⟨hl, hr⟩ hst
        clear hst
        go_enter Try.func116, Try.ntmps116
        go_wp2_with (go_at_call 122; refine (HH.out _).mono ?_; rintro e w' ⟨rfl, rfl⟩)
        go_ret
        exact IsAdd.bad HX.out (by decide) rfl HB.out
end Go.Proofs.Ytkialijipcbgkaa
