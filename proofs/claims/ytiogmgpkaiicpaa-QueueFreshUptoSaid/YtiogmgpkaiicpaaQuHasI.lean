/-
  The program's queue of int: what its memory holds; made, Len; which of two entries is ahead.
-/
import Derived.Test.YtiogmgpkaiicpaaQuSpec
import Derived.Test.YtiogmgpkaiicpaaQuHeap
import Derived.Test.YtiogmgpkaiicpaaSetL
import Derived.Test.YtiogmgpkaiicpaaKStr
import Derived.BigRegion
import Derived.StillTailTactics
namespace Go.Proofs.Ytiogmgpkaiicpaa
open Go.RowKit
set_option linter.unusedVariables false

def qIK : El Try.prog (Int × Nat) where
  e := 65
  s := 56
  size := 2
  bytes := 16
  zero := .agg #[.int .i64 0, .int .u64 0]
  z := (0, 0)
  enc := fun x => [.int .i64 x.1, .int .u64 (x.2 : Nat)]
  ok := fun x => I64 x.1 ∧ x.2 < 9223372036854775807
  len := fun _ => rfl
  one := fun x u hu => by simp at hu; rcases hu with rfl | rfl <;> rfl
  okz := by simp [I64]
  encz := rfl
  pos := by decide
  under := Try.underlying56
  info := by kernel_rfl

/-- The queue's own block. -/
def HeadI (w : World) (qb fn : Nat) (caps : Array Value) (v : Value) (m : Nat) : Prop := w.heap[qb]? = some (.cells #[fnV fn caps, v, .int .u64 (m : Nat)] 59 (0, 0))
/-- The queue's memory: its own block, and the heap's. -/
structure HasI (w : World) (qb g n c : Nat) (A : List (Int × Nat)) (m : Nat) (fn : Nat) (caps : Array Value) : Prop where
  head : HeadI w qb fn caps (.slice (some ⟨g, 0, none⟩) n c) m
  own : OwnL qIK w 0 (.slice (some ⟨g, 0, none⟩) n c) A
  apart : qb ≠ g
  len : A.length = n
section
variable {w w' : World} {qb g n c m fn : Nat} {caps : Array Value} {v : Value} {A : List (Int × Nat)}
theorem HeadI.lt_ (h : HeadI w qb fn caps v m) : qb < w.heap.size := (Array.getElem?_eq_some_iff.1 h).1
theorem HeadI.less (h : HeadI w qb fn caps v m) : w.cell? ⟨qb, 0, none⟩ = some (.func (.func fn) #[] caps) := by rw [cell_of_row _ qb 0 _ _ _ h]; rfl
theorem HeadI.list (h : HeadI w qb fn caps v m) : w.cell? ⟨qb, 1, none⟩ = some v := by rw [cell_of_row _ qb 1 _ _ _ h]; rfl
theorem HeadI.turns (h : HeadI w qb fn caps v m) : w.cell? ⟨qb, 2, none⟩ = some (.int .u64 (m : Nat)) := by rw [cell_of_row _ qb 2 _ _ _ h]; rfl
theorem HeadI.cool (h : HeadI w qb fn caps v m) (j : Nat) : w.frozen? ⟨qb, j, none⟩ = false := frozen_of_row w qb j _ _ h
theorem HeadI.block_ (h : HeadI w qb fn caps v m) (hb : w'.heap[qb]? = w.heap[qb]?) : HeadI w' qb fn caps v m := hb.trans h
theorem HeadI.setList (h : HeadI w qb fn caps v m) (u : Value) : HeadI (w.setCell ⟨qb, 1, none⟩ u) qb fn caps u m := by unfold HeadI; rw [heap_setCell_same w qb 1 _ _ _ h]; rfl
theorem HeadI.setTurns (h : HeadI w qb fn caps v m) (k : Nat) : HeadI (w.setCell ⟨qb, 2, none⟩ (.int .u64 (k : Nat))) qb fn caps v k := by unfold HeadI; rw [heap_setCell_same w qb 2 _ _ _ h]; rfl
theorem HasI.below_ (h : HasI w qb g n c A m fn caps) (hb : Below w.heap.size w w') : HasI w' qb g n c A m fn caps where
  head := h.head.block_ (hb.block qb h.head.lt_)
  own := h.own.below_ hb (Nat.le_refl _)
  apart := h.apart
  len := h.len
theorem HasI.drew_ (h : HasI w qb g n c A m fn caps) : HasI w.drew qb g n c A m fn caps := ⟨h.head, h.own.drew_, h.apart, h.len⟩
theorem HasI.has (h : HasI w qb g n c A m fn caps) {k : Nat} {x : Int × Nat} (hx : A[k]? = some x) :
    (
    w.cell? ⟨g, k * 2, none⟩ = some (.int .i64 x.1) ∧
    w.cell? ⟨g, k * 2 + 1, none⟩ = some (.int .u64 (x.2 : Nat)) ∧
    qIK.ok x) := by
  have hk := (List.getElem?_eq_some_iff.1 hx).1
  obtain ⟨g', y, e, _, _, hok, hy, hc, _⟩ := h.own.at_ hk
  injection e with e
  injection e with e
  subst e
  rw [hx] at hy
  obtain rfl := Option.some.inj hy
  exact ⟨hc 0 _ rfl, hc 1 _ rfl, hok⟩
/-- One element of the heap is set. -/
theorem HasI.set (h : HasI w qb g n c A m fn caps) {j : Nat} (hj : j < n) {x : Int × Nat} (hx : qIK.ok x) :
    HasI (
    (w.setCell ⟨g, j * 2, none⟩ (.int .i64 x.1)).setCell ⟨g, j * 2 + 1, none⟩ (.int .u64 (x.2 : Nat))
    ) qb g n c (A.set j x) m fn caps ∧
    Turned (fun k => k = qb ∨ k = g) w (
    (w.setCell ⟨g, j * 2, none⟩ (.int .i64 x.1)).setCell ⟨g, j * 2 + 1, none⟩ (.int .u64 (x.2 : Nat))
    ) := by
  obtain ⟨ho, hg⟩ := h.own.setAll_ (j := j) (by rw [h.len]; exact hj) hx
  have ht := (Turned.of_grown hg).mono (G := fun k => k = qb ∨ k = g) (fun k _ e => .inr (Option.some.inj e).symm)
  exact ⟨⟨h.head.block_ ((Turned.of_grown hg).block qb h.head.lt_ (fun e => h.apart (Option.some.inj e).symm)), ho, h.apart, by rw [List.length_set]; exact h.len⟩, ht⟩
end
theorem not_nilI (fn : Nat) (caps : Array Value) (w : World) : (binOp .eql 26 (.func (.func fn) #[] caps) .nilFunc).run Try.prog w = .ok (.bool false) w := by
  kernel_rfl
theorem nil_notI (fn : Nat) (caps : Array Value) (w : World) : (binOp .neq 26 (.func (.func fn) #[] caps) .nilFunc).run Try.prog w = .ok (.bool true) w := by
  kernel_rfl

set_option maxHeartbeats 1000000 in
theorem pmadeI {w : World} {qb fn m : Nat} {caps : Array Value} {v : Value} (h : HeadI w qb fn caps v m) :
    Calls Try.prog 34 #[.pointer (some ⟨qb, 0, none⟩)] w (fun e w' => e = .returned (.bool true) ∧ w = w') := by
  have d0 := h.less
  have hnn := fun w => nil_notI fn caps w
  clear h
  go_enter Try.func34, Try.ntmps34
  go_wp2
  go_ret
  exact ⟨rfl, rfl⟩
set_option maxHeartbeats 1000000 in
theorem pmade_noneI (w : World) :
    Calls Try.prog 34 #[.pointer none] w (fun e w' => e = .returned (.bool false) ∧ w = w') := by
  go_enter Try.func34, Try.ntmps34
  go_wp2
  go_ret
  exact ⟨rfl, rfl⟩
set_option maxHeartbeats 1000000 in
theorem plenI' {w : World} {qb fn m : Nat} {caps : Array Value} {A0 : Option Addr} {n c : Nat} (h : HeadI w qb fn caps (.slice A0 n c) m) :
    Calls Try.prog 17 #[.pointer (some ⟨qb, 0, none⟩)] w (fun e w' => e = .returned (.int .i64 (n : Nat)) ∧ w = w') := by
  have d1 := h.list
  have HM := Lib.hid (pmadeI h)
  clear h
  go_enter Try.func17, Try.ntmps17
  go_wp2_with (fail)
  refine (HM.out).mono ?_
  rintro e w1 ⟨rfl, rfl⟩
  go_wp2
  go_ret
  exact ⟨rfl, rfl⟩
set_option maxHeartbeats 1000000 in
theorem pnewI' (fn : Nat) (caps : Array Value) (w : World) :
    Calls Try.prog 10 #[fnV fn caps] w (fun e w' => e = .returned (.pointer (some ⟨w.heap.size, 0, none⟩)) ∧ HeadI w' w.heap.size fn caps (.slice none 0 0) 0 ∧ Below w.heap.size w w') := by
  have hnn := fun w => not_nilI fn caps w
  unfold fnV
  go_enter Try.func10, Try.ntmps10
  go_wp2
  go_ret
  exact ⟨rfl, heap_alloc_new w _, (Below.refl _ w).alloc (Nat.le_refl _) _⟩
end Go.Proofs.Ytiogmgpkaiicpaa
