/-
  SetL: Own lists of elements of several cells: an element set whole, the list made shorter.
  QuHasP: The program's queue of stook/bpe.pair: what its memory holds; made, Len; which of two entries is ahead.
  QuAhP: The program's queue of stook/bpe.pair: which of two entries is ahead.
-/
import Derived.Test.YtaedhccmdbodlaaPk01
import Derived.Test.YtaedhccmdbodlaaPk17
import Derived.Test.YtaedhccmdbodlaaPk16
import Derived.BigRegion
import Derived.StillTailTactics
namespace Go.Proofs.Ytaedhccmdbodlaa
open Go.RowKit
set_option linter.unusedVariables false

/-- Cells set one behind the other, from k on. -/
def setAll (w : World) (g k : Nat) : List Value → World
  | [] => w
  | u :: r => setAll (w.setCell ⟨g, k, none⟩ u) g (k + 1) r
def putAll (C : List Value) (k : Nat) : List Value → List Value
  | [] => C
  | u :: r => putAll (C.set k u) (k + 1) r
theorem setAll_heap {g : Nat} {e : TypeId} (us : List Value) : ∀ {w : World} {k : Nat} {C : List Value}, w.heap[g]? = some (.cells C.toArray e (0, 0)) →
    (setAll w g k us).heap[g]? = some (.cells (putAll C k us).toArray e (0, 0)) := by
  induction us with
  | nil => exact fun h => h
  | cons u r ih =>
    intro w k C h
    refine ih ?_
    rw [heap_setCell_same w g k _ _ u h]
    simp
theorem setAll_grown {g : Nat} (us : List Value) : ∀ (w : World) (k : Nat), w.grownBy (setAll w g k us) (some g) := by
  induction us with
  | nil => exact fun w k => ⟨rfl, rfl, rfl, Nat.le_refl _, fun _ _ _ => rfl⟩
  | cons u r ih =>
    intro w k
    obtain ⟨h1, h2, h3, h4, h5⟩ := ih (w.setCell ⟨g, k, none⟩ u) (k + 1)
    refine ⟨h1, h2, h3, Nat.le_trans (show w.heap.size ≤ (w.setCell ⟨g, k, none⟩ u).heap.size by simp) h4, fun i hi hne => ?_⟩
    exact (h5 i (by simpa using hi) hne).trans (heap_setCell_other w ⟨g, k, none⟩ i u (fun e => hne (by simp [e])))
theorem putAll_mid (c : List Value) (us : List Value) : ∀ (a b : List Value), us.length = b.length → putAll (a ++ b ++ c) a.length us = a ++ us ++ c := by
  induction us with
  | nil =>
    intro a b h
    have hb : b = [] := List.eq_nil_of_length_eq_zero h.symm
    subst hb
    rfl
  | cons u r ih =>
    intro a b h
    cases b with
    | nil => simp at h
    | cons y b =>
      have h' : r.length = b.length := by simpa using h
      have e : (a ++ y :: b ++ c).set a.length u = (a ++ [u]) ++ b ++ c := by simp
      have := ih (a ++ [u]) b h'
      rw [← e] at this
      rw [List.length_append, List.length_singleton] at this
      show putAll ((a ++ y :: b ++ c).set a.length u) (a.length + 1) r = _
      rw [this]
      simp

section
variable {P : Program} {α : Type} {K : El P α} {w w' : World} {base B : Nat} {v : Value} {l : List α}
theorem flat_put {l : List α} {k : Nat} (hk : k < l.length) (x : α) : putAll (K.flat l) (k * K.size) (K.enc x) = K.flat (l.set k x) := by
  have e : l = l.take k ++ l[k] :: l.drop (k + 1) := by simp
  have hl : (K.flat (l.take k)).length = k * K.size := by rw [flat_len, List.length_take, Nat.min_eq_left (by omega)]
  have e1 : K.flat l = K.flat (l.take k) ++ K.enc l[k] ++ K.flat (l.drop (k + 1)) := by
    conv => lhs; rw [e]
    rw [flat_app, flat_cons, List.append_assoc]
  have e2 : K.flat (l.set k x) = K.flat (l.take k) ++ K.enc x ++ K.flat (l.drop (k + 1)) := by
    rw [List.set_eq_take_append_cons_drop, if_pos hk, flat_app, flat_cons, List.append_assoc]
  rw [e1, e2, ← hl]
  exact putAll_mid _ _ _ _ (by rw [K.len, K.len])
/-- One element is set, all its cells. -/
theorem OwnL.setAll_ {g c n : Nat} (h : OwnL K w base (.slice (some ⟨g, 0, none⟩) n c) l) {j : Nat} (hj : j < l.length) {x : α} (hx : K.ok x) :
    OwnL K (setAll w g (j * K.size) (K.enc x)) base (.slice (some ⟨g, 0, none⟩) n c) (l.set j x) ∧ w.grownBy (setAll w g (j * K.size) (K.enc x)) (some g) := by
  rcases h.2 with ⟨e, rfl⟩ | ⟨g', s, e, hb, hs, hm, hh⟩
  · cases e
  · injection e with e1 e2 e3
    injection e1 with e1
    injection e1 with e1
    subst e1 e2 e3
    refine ⟨⟨fun y hy => ?_, .inr ⟨g, s, by rw [List.length_set], hb, hs, by rw [List.length_set]; exact hm, ?_⟩⟩, setAll_grown _ _ _⟩
    · rcases List.mem_or_eq_of_mem_set hy with h3 | rfl
      · exact h.1 y h3
      · exact hx
    · rw [setAll_heap (K.enc x) hh, ← List.set_append_left _ _ hj, flat_put (by simp; omega) x]
/-- The same slice, shorter: what stood behind is spare room. -/
theorem OwnL.take_ {g c n : Nat} (h : OwnL K w base (.slice (some ⟨g, 0, none⟩) n c) l) {k : Nat} (hk : k ≤ l.length) : OwnL K w base (.slice (some ⟨g, 0, none⟩) k c) (l.take k) := by
  rcases h.2 with ⟨e, rfl⟩ | ⟨g', s, e, hb, hs, hm, hh⟩
  · cases e
  · injection e with e1 e2 e3
    injection e1 with e1
    injection e1 with e1
    subst e1 e2 e3
    have hl : (l.take k).length = k := by rw [List.length_take, Nat.min_eq_left hk]
    have hl2 : (l.take k).length + (l.drop k ++ s).length = l.length + s.length := by rw [hl, List.length_append, List.length_drop]; omega
    refine ⟨fun y hy => h.1 y (List.mem_of_mem_take hy), .inr ⟨g, l.drop k ++ s, by rw [hl2, hl], hb, fun y hy => ?_, by rw [hl2]; exact hm, ?_⟩⟩
    · rcases List.mem_append.1 hy with hy | hy
      · exact h.1 y (List.mem_of_mem_drop hy)
      · exact hs y hy
    · rw [hh, ← List.append_assoc, List.take_append_drop]
end
end Go.Proofs.Ytaedhccmdbodlaa
namespace Go.Proofs.Ytaedhccmdbodlaa
open Go.RowKit
set_option linter.unusedVariables false

def qPK : El Try.prog (Pr × Nat) where
  e := 110
  s := 97
  size := 7
  bytes := 56
  zero := .agg #[.int .i64 0, .int .i64 0, .int .i64 0, .int .i64 0, .int .i64 0, .int .u32 0, .int .u64 0]
  z := ((⟨0, 0, 0, 0, 0, 0⟩ : Pr), 0)
  enc := fun x => [.int .i64 x.1.1, .int .i64 x.1.2, .int .i64 x.1.3, .int .i64 x.1.4, .int .i64 x.1.5, .int .u32 (x.1.6 : Nat), .int .u64 (x.2 : Nat)]
  ok := fun x => PrOk x.1 ∧ x.2 < 9223372036854775807
  len := fun _ => rfl
  one := fun x u hu => by simp at hu; rcases hu with rfl | rfl | rfl | rfl | rfl | rfl | rfl <;> rfl
  okz := by simp [I64, PrOk]
  encz := rfl
  pos := by decide
  under := Try.underlying97
  info := by kernel_rfl

/-- The queue's own block. -/
def HeadP (w : World) (qb fn : Nat) (caps : Array Value) (v : Value) (m : Nat) : Prop := w.heap[qb]? = some (.cells #[fnV fn caps, v, .int .u64 (m : Nat)] 100 (0, 0))
/-- The queue's memory: its own block, and the heap's. -/
structure HasP (w : World) (qb g n c : Nat) (A : List (Pr × Nat)) (m : Nat) (fn : Nat) (caps : Array Value) : Prop where
  head : HeadP w qb fn caps (.slice (some ⟨g, 0, none⟩) n c) m
  own : OwnL qPK w 0 (.slice (some ⟨g, 0, none⟩) n c) A
  apart : qb ≠ g
  len : A.length = n
section
variable {w w' : World} {qb g n c m fn : Nat} {caps : Array Value} {v : Value} {A : List (Pr × Nat)}
theorem HeadP.lt_ (h : HeadP w qb fn caps v m) : qb < w.heap.size := (Array.getElem?_eq_some_iff.1 h).1
theorem HeadP.less (h : HeadP w qb fn caps v m) : w.cell? ⟨qb, 0, none⟩ = some (.func (.func fn) #[] caps) := by rw [cell_of_row _ qb 0 _ _ _ h]; rfl
theorem HeadP.list (h : HeadP w qb fn caps v m) : w.cell? ⟨qb, 1, none⟩ = some v := by rw [cell_of_row _ qb 1 _ _ _ h]; rfl
theorem HeadP.turns (h : HeadP w qb fn caps v m) : w.cell? ⟨qb, 2, none⟩ = some (.int .u64 (m : Nat)) := by rw [cell_of_row _ qb 2 _ _ _ h]; rfl
theorem HeadP.cool (h : HeadP w qb fn caps v m) (j : Nat) : w.frozen? ⟨qb, j, none⟩ = false := frozen_of_row w qb j _ _ h
theorem HeadP.block_ (h : HeadP w qb fn caps v m) (hb : w'.heap[qb]? = w.heap[qb]?) : HeadP w' qb fn caps v m := hb.trans h
theorem HeadP.setList (h : HeadP w qb fn caps v m) (u : Value) : HeadP (w.setCell ⟨qb, 1, none⟩ u) qb fn caps u m := by unfold HeadP; rw [heap_setCell_same w qb 1 _ _ _ h]; rfl
theorem HeadP.setTurns (h : HeadP w qb fn caps v m) (k : Nat) : HeadP (w.setCell ⟨qb, 2, none⟩ (.int .u64 (k : Nat))) qb fn caps v k := by unfold HeadP; rw [heap_setCell_same w qb 2 _ _ _ h]; rfl
theorem HasP.below_ (h : HasP w qb g n c A m fn caps) (hb : Below w.heap.size w w') : HasP w' qb g n c A m fn caps where
  head := h.head.block_ (hb.block qb h.head.lt_)
  own := h.own.below_ hb (Nat.le_refl _)
  apart := h.apart
  len := h.len
theorem HasP.drew_ (h : HasP w qb g n c A m fn caps) : HasP w.drew qb g n c A m fn caps := ⟨h.head, h.own.drew_, h.apart, h.len⟩
theorem HasP.has (h : HasP w qb g n c A m fn caps) {k : Nat} {x : Pr × Nat} (hx : A[k]? = some x) :
    (
    w.cell? ⟨g, k * 7, none⟩ = some (.int .i64 x.1.1) ∧
    w.cell? ⟨g, k * 7 + 1, none⟩ = some (.int .i64 x.1.2) ∧
    w.cell? ⟨g, k * 7 + 2, none⟩ = some (.int .i64 x.1.3) ∧
    w.cell? ⟨g, k * 7 + 3, none⟩ = some (.int .i64 x.1.4) ∧
    w.cell? ⟨g, k * 7 + 4, none⟩ = some (.int .i64 x.1.5) ∧
    w.cell? ⟨g, k * 7 + 5, none⟩ = some (.int .u32 (x.1.6 : Nat)) ∧
    w.cell? ⟨g, k * 7 + 6, none⟩ = some (.int .u64 (x.2 : Nat)) ∧
    qPK.ok x) := by
  have hk := (List.getElem?_eq_some_iff.1 hx).1
  obtain ⟨g', y, e, _, _, hok, hy, hc, _⟩ := h.own.at_ hk
  injection e with e
  injection e with e
  subst e
  rw [hx] at hy
  obtain rfl := Option.some.inj hy
  exact ⟨hc 0 _ rfl, hc 1 _ rfl, hc 2 _ rfl, hc 3 _ rfl, hc 4 _ rfl, hc 5 _ rfl, hc 6 _ rfl, hok⟩
/-- One element of the heap is set. -/
theorem HasP.set (h : HasP w qb g n c A m fn caps) {j : Nat} (hj : j < n) {x : Pr × Nat} (hx : qPK.ok x) :
    HasP (
    ((((((w.setCell ⟨g, j * 7, none⟩ (.int .i64 x.1.1)).setCell ⟨g, j * 7 + 1, none⟩ (.int .i64 x.1.2)).setCell ⟨g, j * 7 + 2, none⟩ (.int .i64 x.1.3)).setCell ⟨g, j * 7 + 3, none⟩ (.int .i64 x.1.4)).setCell ⟨g, j * 7 + 4, none⟩ (.int .i64 x.1.5)).setCell ⟨g, j * 7 + 5, none⟩ (.int .u32 (x.1.6 : Nat))).setCell ⟨g, j * 7 + 6, none⟩ (.int .u64 (x.2 : Nat))
    ) qb g n c (A.set j x) m fn caps ∧
    Turned (fun k => k = qb ∨ k = g) w (
    ((((((w.setCell ⟨g, j * 7, none⟩ (.int .i64 x.1.1)).setCell ⟨g, j * 7 + 1, none⟩ (.int .i64 x.1.2)).setCell ⟨g, j * 7 + 2, none⟩ (.int .i64 x.1.3)).setCell ⟨g, j * 7 + 3, none⟩ (.int .i64 x.1.4)).setCell ⟨g, j * 7 + 4, none⟩ (.int .i64 x.1.5)).setCell ⟨g, j * 7 + 5, none⟩ (.int .u32 (x.1.6 : Nat))).setCell ⟨g, j * 7 + 6, none⟩ (.int .u64 (x.2 : Nat))
    ) := by
  obtain ⟨ho, hg⟩ := h.own.setAll_ (j := j) (by rw [h.len]; exact hj) hx
  have ht := (Turned.of_grown hg).mono (G := fun k => k = qb ∨ k = g) (fun k _ e => .inr (Option.some.inj e).symm)
  exact ⟨⟨h.head.block_ ((Turned.of_grown hg).block qb h.head.lt_ (fun e => h.apart (Option.some.inj e).symm)), ho, h.apart, by rw [List.length_set]; exact h.len⟩, ht⟩
end
theorem not_nilP (fn : Nat) (caps : Array Value) (w : World) : (binOp .eql 80 (.func (.func fn) #[] caps) .nilFunc).run Try.prog w = .ok (.bool false) w := by
  kernel_rfl
theorem nil_notP (fn : Nat) (caps : Array Value) (w : World) : (binOp .neq 80 (.func (.func fn) #[] caps) .nilFunc).run Try.prog w = .ok (.bool true) w := by
  kernel_rfl

set_option maxRecDepth 100000 in
set_option maxHeartbeats 1000000 in
theorem pmadeP {w : World} {qb fn m : Nat} {caps : Array Value} {v : Value} (h : HeadP w qb fn caps v m) :
    Calls Try.prog 66 #[.pointer (some ⟨qb, 0, none⟩)] w (fun e w' => e = .returned (.bool true) ∧ w = w') := by
  have d0 := h.less
  have hnn := fun w => nil_notP fn caps w
  clear h
  go_enter Try.func66, Try.ntmps66
  go_wp2
  go_ret
  exact ⟨rfl, rfl⟩
set_option maxRecDepth 100000 in
set_option maxHeartbeats 1000000 in
theorem pmade_noneP (w : World) :
    Calls Try.prog 66 #[.pointer none] w (fun e w' => e = .returned (.bool false) ∧ w = w') := by
  go_enter Try.func66, Try.ntmps66
  go_wp2
  go_ret
  exact ⟨rfl, rfl⟩
set_option maxRecDepth 100000 in
set_option maxHeartbeats 1000000 in
theorem plenP' {w : World} {qb fn m : Nat} {caps : Array Value} {A0 : Option Addr} {n c : Nat} (h : HeadP w qb fn caps (.slice A0 n c) m) :
    Calls Try.prog 68 #[.pointer (some ⟨qb, 0, none⟩)] w (fun e w' => e = .returned (.int .i64 (n : Nat)) ∧ w = w') := by
  have d1 := h.list
  have HM := Lib.hid (pmadeP h)
  clear h
  go_enter Try.func68, Try.ntmps68
  go_wp2_with (fail)
  refine (HM.out).mono ?_
  rintro e w1 ⟨rfl, rfl⟩
  go_wp2
  go_ret
  exact ⟨rfl, rfl⟩
set_option maxRecDepth 100000 in
set_option maxHeartbeats 1000000 in
theorem pnewP' (fn : Nat) (caps : Array Value) (w : World) :
    Calls Try.prog 49 #[fnV fn caps] w (fun e w' => e = .returned (.pointer (some ⟨w.heap.size, 0, none⟩)) ∧ HeadP w' w.heap.size fn caps (.slice none 0 0) 0 ∧ Below w.heap.size w w') := by
  have hnn := fun w => not_nilP fn caps w
  unfold fnV
  go_enter Try.func49, Try.ntmps49
  go_wp2
  go_ret
  exact ⟨rfl, heap_alloc_new w _, (Below.refl _ w).alloc (Nat.le_refl _) _⟩
end Go.Proofs.Ytaedhccmdbodlaa
namespace Go.Proofs.Ytaedhccmdbodlaa
open Go.RowKit
set_option linter.unusedVariables false

set_option maxRecDepth 100000 in
set_option maxHeartbeats 2000000 in
theorem paheadP {w : World} {qb fn m : Nat} {caps : Array Value} {v : Value} {lt : Pr → Pr → Bool} {F : Nat → Prop} (h : HeadP w qb fn caps v m) (ho : Qu.Order lt) (hl : Less prV PrOk fn caps lt w F) {x y : Pr × Nat} (hx : PrOk x.1) (hy : PrOk y.1) :
    Calls Try.prog 72 #[.pointer (some ⟨qb, 0, none⟩), .agg #[.int .i64 x.1.1, .int .i64 x.1.2, .int .i64 x.1.3, .int .i64 x.1.4, .int .i64 x.1.5, .int .u32 (x.1.6 : Nat), .int .u64 (x.2 : Nat)], .agg #[.int .i64 y.1.1, .int .i64 y.1.2, .int .i64 y.1.3, .int .i64 y.1.4, .int .i64 y.1.5, .int .u32 (y.1.6 : Nat), .int .u64 (y.2 : Nat)]] w (fun e w' => e = .returned (.bool (Qu.ah lt x y)) ∧ Below w.heap.size w w') := by
  obtain ⟨⟨xa, xb, xc, xd, xe, xf⟩, xn⟩ := x
  obtain ⟨⟨ya, yb, yc, yd, ye, yf⟩, yn⟩ := y
  simp only at hx hy ⊢
  have hans := hl.ans
  have hent1 := fun w => hl.ent (#[.agg #[.int .i64 xa, .int .i64 xb, .int .i64 xc, .int .i64 xd, .int .i64 xe, .int .u32 (xf : Nat)], .agg #[.int .i64 ya, .int .i64 yb, .int .i64 yc, .int .i64 yd, .int .i64 ye, .int .u32 (yf : Nat)]] ++ caps) w
  have hent2 := fun w => hl.ent (#[.agg #[.int .i64 ya, .int .i64 yb, .int .i64 yc, .int .i64 yd, .int .i64 ye, .int .u32 (yf : Nat)], .agg #[.int .i64 xa, .int .i64 xb, .int .i64 xc, .int .i64 xd, .int .i64 xe, .int .u32 (xf : Nat)]] ++ caps) w
  obtain ⟨s, hs⟩ : ∃ s, w.heap.size = s := ⟨_, rfl⟩
  obtain ⟨W1, hW1⟩ : ∃ W, w.alloc (.cells #[.int .i64 xa, .int .i64 xb, .int .i64 xc, .int .i64 xd, .int .i64 xe, .int .u32 (xf : Nat), .int .u64 (xn : Nat)] 110) = W := ⟨_, rfl⟩
  have hs1 : W1.heap.size = s + 1 := by rw [← hW1, ← hs]; simp
  obtain ⟨W2, hW2⟩ : ∃ W, W1.alloc (.cells #[.int .i64 ya, .int .i64 yb, .int .i64 yc, .int .i64 yd, .int .i64 ye, .int .u32 (yf : Nat), .int .u64 (yn : Nat)] 110) = W := ⟨_, rfl⟩
  have hx1 : W1.heap[s]? = some (.cells #[.int .i64 xa, .int .i64 xb, .int .i64 xc, .int .i64 xd, .int .i64 xe, .int .u32 (xf : Nat), .int .u64 (xn : Nat)] 110 (0, 0)) := by rw [← hW1, ← hs]; exact heap_alloc_new w _
  have hy2 : W2.heap[s + 1]? = some (.cells #[.int .i64 ya, .int .i64 yb, .int .i64 yc, .int .i64 yd, .int .i64 ye, .int .u32 (yf : Nat), .int .u64 (yn : Nat)] 110 (0, 0)) := by rw [← hW2, ← hs1]; exact heap_alloc_new W1 _
  have b1 : Below s w W1 := by rw [← hW1]; exact (Below.refl s w).alloc (by omega) _
  have b2 : Below s w W2 := by rw [← hW2]; exact b1.alloc (by omega) _
  have b12 : Below (s + 1) W1 W2 := by rw [← hW2]; exact (Below.refl (s + 1) W1).alloc (by omega) _
  have hx2 := (b12.block s (by omega)).trans hx1
  have hd2 : HeadP W2 qb fn caps v m := h.block_ (b2.block qb (by have := h.lt_; omega))
  have T2 : Turned F w W2 := by rw [← hW2, ← hW1]; exact ((Turned.refl _ w).alloc _).alloc _
  have HT2 := Lib.hid T2.drew
  have HB2 := Lib.hid b2
  have HD := Lib.hid hd2
  have HXY := Lib.hid (And.intro hx hy)
  have HLA := Lib.hid hans
  have hqs : qb < s := by have := h.lt_; omega
  have HX := Lib.hid hx2
  have HY := Lib.hid hy2
  have HO := Lib.hid ho
  have xturn : W2.cell? ⟨s, 6, none⟩ = some (.int .u64 (xn : Nat)) := by rw [cell_of_row _ _ 6 _ _ _ hx2]; rfl
  have yturn : W2.cell? ⟨s + 1, 6, none⟩ = some (.int .u64 (yn : Nat)) := by rw [cell_of_row _ _ 6 _ _ _ hy2]; rfl
  have HS2 : Hid (s + 1 < W2.heap.size) := (Array.getElem?_eq_some_iff.1 hy2).1
  clear h hl hx hy hans b1 b2 b12 hx2 hd2 T2 hx1 hy2 ho
  by_cases hlt : xn < yn
  · have g1 : ((xn : Nat) : Int) < ((yn : Nat) : Int) := by omega
    have HG := Lib.hid hlt
    clear hlt
    go_enter Try.func72, Try.ntmps72
    go_wp2
    have qd0 := HD.out.less
    have xc0 : W2.cell? ⟨s, 0, none⟩ = some (.int .i64 xa) := by rw [cell_of_row _ _ 0 _ _ _ HX.out]; rfl
    have xc1 : W2.cell? ⟨s, 1, none⟩ = some (.int .i64 xb) := by rw [cell_of_row _ _ 1 _ _ _ HX.out]; rfl
    have xc2 : W2.cell? ⟨s, 2, none⟩ = some (.int .i64 xc) := by rw [cell_of_row _ _ 2 _ _ _ HX.out]; rfl
    have xc3 : W2.cell? ⟨s, 3, none⟩ = some (.int .i64 xd) := by rw [cell_of_row _ _ 3 _ _ _ HX.out]; rfl
    have xc4 : W2.cell? ⟨s, 4, none⟩ = some (.int .i64 xe) := by rw [cell_of_row _ _ 4 _ _ _ HX.out]; rfl
    have xc5 : W2.cell? ⟨s, 5, none⟩ = some (.int .u32 (xf : Nat)) := by rw [cell_of_row _ _ 5 _ _ _ HX.out]; rfl
    have yc0 : W2.cell? ⟨s + 1, 0, none⟩ = some (.int .i64 ya) := by rw [cell_of_row _ _ 0 _ _ _ HY.out]; rfl
    have yc1 : W2.cell? ⟨s + 1, 1, none⟩ = some (.int .i64 yb) := by rw [cell_of_row _ _ 1 _ _ _ HY.out]; rfl
    have yc2 : W2.cell? ⟨s + 1, 2, none⟩ = some (.int .i64 yc) := by rw [cell_of_row _ _ 2 _ _ _ HY.out]; rfl
    have yc3 : W2.cell? ⟨s + 1, 3, none⟩ = some (.int .i64 yd) := by rw [cell_of_row _ _ 3 _ _ _ HY.out]; rfl
    have yc4 : W2.cell? ⟨s + 1, 4, none⟩ = some (.int .i64 ye) := by rw [cell_of_row _ _ 4 _ _ _ HY.out]; rfl
    have yc5 : W2.cell? ⟨s + 1, 5, none⟩ = some (.int .u32 (yf : Nat)) := by rw [cell_of_row _ _ 5 _ _ _ HY.out]; rfl
    go_still_tail 8, (by kernel_rfl)
    change wpList _ _ _ _ _ W2.drew
    have HA := Lib.hid (HLA.out (⟨ya, yb, yc, yd, ye, yf⟩ : Pr) (⟨xa, xb, xc, xd, xe, xf⟩ : Pr) HXY.out.2 HXY.out.1 W2.drew HT2.out)
    obtain ⟨b, hb⟩ : ∃ b, lt (⟨ya, yb, yc, yd, ye, yf⟩ : Pr) (⟨xa, xb, xc, xd, xe, xf⟩ : Pr) = b := ⟨_, rfl⟩
    rw [hb] at HA
    have HB := Lib.hid hb
    clear hb qd0
    clear xc0 yc0
    clear xc1 yc1
    clear xc2 yc2
    clear xc3 yc3
    clear xc4 yc4
    clear xc5 yc5
    go_wp2_with (fail)
    refine (HA.out).mono ?_
    rintro e w3 ⟨rfl, hb3⟩
    have HB3 : Hid (Below s w w3) := HB2.out.trans (Below.mono ⟨hb3.os, hb3.tape, hb3.output, hb3.size, hb3.block⟩ (by have := HS2.out; show s ≤ W2.drew.heap.size; show s ≤ W2.heap.size; omega))
    have HE : Hid (Qu.ah lt ((⟨xa, xb, xc, xd, xe, xf⟩ : Pr), xn) ((⟨ya, yb, yc, yd, ye, yf⟩ : Pr), yn) = !b) := by rw [← HB.out]; exact Qu.ah_turn HO.out HG.out
    clear hb3 HA
    go_wp2
    go_ret
    exact ⟨by rw [HE.out]; rfl, HB3.out.mono (by omega)⟩
  · have g1 : ¬ ((xn : Nat) : Int) < ((yn : Nat) : Int) := by omega
    have HG := Lib.hid hlt
    clear hlt
    go_enter Try.func72, Try.ntmps72
    go_wp2
    have qd0 := HD.out.less
    have xc0 : W2.cell? ⟨s, 0, none⟩ = some (.int .i64 xa) := by rw [cell_of_row _ _ 0 _ _ _ HX.out]; rfl
    have xc1 : W2.cell? ⟨s, 1, none⟩ = some (.int .i64 xb) := by rw [cell_of_row _ _ 1 _ _ _ HX.out]; rfl
    have xc2 : W2.cell? ⟨s, 2, none⟩ = some (.int .i64 xc) := by rw [cell_of_row _ _ 2 _ _ _ HX.out]; rfl
    have xc3 : W2.cell? ⟨s, 3, none⟩ = some (.int .i64 xd) := by rw [cell_of_row _ _ 3 _ _ _ HX.out]; rfl
    have xc4 : W2.cell? ⟨s, 4, none⟩ = some (.int .i64 xe) := by rw [cell_of_row _ _ 4 _ _ _ HX.out]; rfl
    have xc5 : W2.cell? ⟨s, 5, none⟩ = some (.int .u32 (xf : Nat)) := by rw [cell_of_row _ _ 5 _ _ _ HX.out]; rfl
    have yc0 : W2.cell? ⟨s + 1, 0, none⟩ = some (.int .i64 ya) := by rw [cell_of_row _ _ 0 _ _ _ HY.out]; rfl
    have yc1 : W2.cell? ⟨s + 1, 1, none⟩ = some (.int .i64 yb) := by rw [cell_of_row _ _ 1 _ _ _ HY.out]; rfl
    have yc2 : W2.cell? ⟨s + 1, 2, none⟩ = some (.int .i64 yc) := by rw [cell_of_row _ _ 2 _ _ _ HY.out]; rfl
    have yc3 : W2.cell? ⟨s + 1, 3, none⟩ = some (.int .i64 yd) := by rw [cell_of_row _ _ 3 _ _ _ HY.out]; rfl
    have yc4 : W2.cell? ⟨s + 1, 4, none⟩ = some (.int .i64 ye) := by rw [cell_of_row _ _ 4 _ _ _ HY.out]; rfl
    have yc5 : W2.cell? ⟨s + 1, 5, none⟩ = some (.int .u32 (yf : Nat)) := by rw [cell_of_row _ _ 5 _ _ _ HY.out]; rfl
    go_still_tail 8, (by kernel_rfl)
    change wpList _ _ _ _ _ W2.drew
    have HA := Lib.hid (HLA.out (⟨xa, xb, xc, xd, xe, xf⟩ : Pr) (⟨ya, yb, yc, yd, ye, yf⟩ : Pr) HXY.out.1 HXY.out.2 W2.drew HT2.out)
    obtain ⟨b, hb⟩ : ∃ b, lt (⟨xa, xb, xc, xd, xe, xf⟩ : Pr) (⟨ya, yb, yc, yd, ye, yf⟩ : Pr) = b := ⟨_, rfl⟩
    rw [hb] at HA
    have HB := Lib.hid hb
    clear hb qd0
    clear xc0 yc0
    clear xc1 yc1
    clear xc2 yc2
    clear xc3 yc3
    clear xc4 yc4
    clear xc5 yc5
    go_wp2_with (fail)
    refine (HA.out).mono ?_
    rintro e w3 ⟨rfl, hb3⟩
    have HB3 : Hid (Below s w w3) := HB2.out.trans (Below.mono ⟨hb3.os, hb3.tape, hb3.output, hb3.size, hb3.block⟩ (by have := HS2.out; show s ≤ W2.drew.heap.size; show s ≤ W2.heap.size; omega))
    have HE : Hid (Qu.ah lt ((⟨xa, xb, xc, xd, xe, xf⟩ : Pr), xn) ((⟨ya, yb, yc, yd, ye, yf⟩ : Pr), yn) = b) := by rw [← HB.out]; exact Qu.ah_else HG.out
    clear hb3 HA
    go_wp2
    go_ret
    exact ⟨by rw [HE.out]; rfl, HB3.out.mono (by omega)⟩
end Go.Proofs.Ytaedhccmdbodlaa
