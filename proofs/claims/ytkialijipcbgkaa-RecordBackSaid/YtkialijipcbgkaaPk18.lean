/-
  QuPopP: The program's queue of stook/bpe.pair: Peek, Pop (their results lie in boxes).
  QuIsP: The program's queue of stook/bpe.pair: what it holds, in the order in which it goes out; its functions by that.
  BqMem: bpe.row: a row while its pairs are joined: its memory; goesFirst.
  BqZero: A great row of zeros: its cells, told in halves of halves.
-/
import Derived.Test.YtkialijipcbgkaaPk17
import Derived.Test.YtkialijipcbgkaaPk16
import Derived.Test.YtkialijipcbgkaaPk14
import Derived.Test.YtkialijipcbgkaaPk11
import Derived.Test.YtkialijipcbgkaaPk05
import Derived.Test.YtkialijipcbgkaaPk15
import Derived.Test.YtkialijipcbgkaaPk07
import Derived.Test.YtkialijipcbgkaaProg
import Derived.WalkKit
namespace Go.Proofs.Ytkialijipcbgkaa
open Go.RowKit
set_option linter.unusedVariables false

theorem at_manyP : (Try.prog.info? 117).map (·.size) = some 6 := by kernel_rfl
theorem results_atP {fn : Func} {p u : Tmp} (h : fn.results = #[.cell p 117, .tmp u]) (tmps : Array Value) (w : World) (g : Nat) (aa : Int) (ab : Int) (ac : Int) (ad : Int) (ae : Int) (af : Nat) (t : TypeId) (x : Value)
    (hp : tmps.getD p undef = .pointer (some ⟨g, 0, none⟩)) (hx : tmps.getD u undef = x) (hg : w.heap[g]? = some (.cells #[.int .i64 aa, .int .i64 ab, .int .i64 ac, .int .i64 ad, .int .i64 ae, .int .u32 (af : Nat)] t (0, 0))) :
    (results fn tmps).run Try.prog w = .ok (.tuple #[.agg #[.int .i64 aa, .int .i64 ab, .int .i64 ac, .int .i64 ad, .int .i64 ae, .int .u32 (af : Nat)], x]) w := by
  have hp' : tmps[p]?.getD undef = .pointer (some ⟨g, 0, none⟩) := by simpa using hp
  have hx' : tmps[u]?.getD undef = x := by simpa using hx
  simp [results, h, hp', hx', asAddr, run_loadVar_row w g t _ _ (0, 0) _ hg Try.underlying117 rfl at_manyP]
/-- A box of a thing, set. -/
theorem box_setP {w : World} {s : Nat} {aa : Int} {ab : Int} {ac : Int} {ad : Int} {ae : Int} {af : Nat} (h : w.heap[s]? = some (.cells #[.int .i64 aa, .int .i64 ab, .int .i64 ac, .int .i64 ad, .int .i64 ae, .int .u32 (af : Nat)] 117 (0, 0))) (ca : Int) (cb : Int) (cc : Int) (cd : Int) (ce : Int) (cf : Nat) :
    ((((((w.setCell ⟨s, 0, none⟩ (.int .i64 ca)).setCell ⟨s, 1, none⟩ (.int .i64 cb)).setCell ⟨s, 2, none⟩ (.int .i64 cc)).setCell ⟨s, 3, none⟩ (.int .i64 cd)).setCell ⟨s, 4, none⟩ (.int .i64 ce)).setCell ⟨s, 5, none⟩ (.int .u32 (cf : Nat))).heap[s]? = some (.cells #[.int .i64 ca, .int .i64 cb, .int .i64 cc, .int .i64 cd, .int .i64 ce, .int .u32 (cf : Nat)] 117 (0, 0)) := by
  rw [heap_setCell_same _ s 5 _ _ _ (heap_setCell_same _ s 4 _ _ _ (heap_setCell_same _ s 3 _ _ _ (heap_setCell_same _ s 2 _ _ _ (heap_setCell_same _ s 1 _ _ _ (heap_setCell_same _ s 0 _ _ _ h)))))]; rfl
theorem box_cellsP {w : World} {s : Nat} {aa : Int} {ab : Int} {ac : Int} {ad : Int} {ae : Int} {af : Nat} (h : w.heap[s]? = some (.cells #[.int .i64 aa, .int .i64 ab, .int .i64 ac, .int .i64 ad, .int .i64 ae, .int .u32 (af : Nat)] 117 (0, 0))) : w.cell? ⟨s, 0, none⟩ = some (.int .i64 aa) ∧ w.cell? ⟨s, 1, none⟩ = some (.int .i64 ab) ∧ w.cell? ⟨s, 2, none⟩ = some (.int .i64 ac) ∧ w.cell? ⟨s, 3, none⟩ = some (.int .i64 ad) ∧ w.cell? ⟨s, 4, none⟩ = some (.int .i64 ae) ∧ w.cell? ⟨s, 5, none⟩ = some (.int .u32 (af : Nat)) ∧ w.frozen? ⟨s, 0, none⟩ = false ∧ w.frozen? ⟨s, 1, none⟩ = false ∧ w.frozen? ⟨s, 2, none⟩ = false ∧ w.frozen? ⟨s, 3, none⟩ = false ∧ w.frozen? ⟨s, 4, none⟩ = false ∧ w.frozen? ⟨s, 5, none⟩ = false :=
  ⟨by rw [cell_of_row _ _ 0 _ _ _ h]; rfl, by rw [cell_of_row _ _ 1 _ _ _ h]; rfl, by rw [cell_of_row _ _ 2 _ _ _ h]; rfl, by rw [cell_of_row _ _ 3 _ _ _ h]; rfl, by rw [cell_of_row _ _ 4 _ _ _ h]; rfl, by rw [cell_of_row _ _ 5 _ _ _ h]; rfl, frozen_of_row w s 0 _ _ h, frozen_of_row w s 1 _ _ h, frozen_of_row w s 2 _ _ h, frozen_of_row w s 3 _ _ h, frozen_of_row w s 4 _ _ h, frozen_of_row w s 5 _ _ h⟩
theorem box_turnedP {w : World} {s : Nat} {F : Nat → Prop} {w0 : World} (h : Turned F w0 w) (hs : w0.heap.size ≤ s) (u0 u1 u2 u3 u4 u5 : Value) : Turned F w0 ((((((w.setCell ⟨s, 0, none⟩ (u0)).setCell ⟨s, 1, none⟩ (u1)).setCell ⟨s, 2, none⟩ (u2)).setCell ⟨s, 3, none⟩ (u3)).setCell ⟨s, 4, none⟩ (u4)).setCell ⟨s, 5, none⟩ (u5)) :=
  ((((((h.setCell (p := ⟨s, 0, none⟩) (fun h => absurd h (by show ¬ s < _; omega)) u0).setCell (p := ⟨s, 1, none⟩) (fun h => absurd h (by show ¬ s < _; omega)) u1).setCell (p := ⟨s, 2, none⟩) (fun h => absurd h (by show ¬ s < _; omega)) u2).setCell (p := ⟨s, 3, none⟩) (fun h => absurd h (by show ¬ s < _; omega)) u3).setCell (p := ⟨s, 4, none⟩) (fun h => absurd h (by show ¬ s < _; omega)) u4).setCell (p := ⟨s, 5, none⟩) (fun h => absurd h (by show ¬ s < _; omega)) u5)

set_option maxRecDepth 100000 in
set_option maxHeartbeats 2000000 in
theorem ppeek_noneP {w : World} {qb m fn : Nat} {caps : Array Value} {A0 : Option Addr} {c : Nat} (h : HeadP w qb fn caps (.slice A0 0 c) m) :
    Calls Try.prog 101 #[.pointer (some ⟨qb, 0, none⟩)] w (fun e w' => e = .returned (.tuple #[.agg #[.int .i64 0, .int .i64 0, .int .i64 0, .int .i64 0, .int .i64 0, .int .u32 0], .bool false]) ∧ Below w.heap.size w w') := by
  obtain ⟨s, hs⟩ : ∃ s, w.heap.size = s := ⟨_, rfl⟩
  obtain ⟨W1, hW1⟩ : ∃ W, w.alloc (.cells #[.int .i64 0, .int .i64 0, .int .i64 0, .int .i64 0, .int .i64 0, .int .u32 0] 117) = W := ⟨_, rfl⟩
  have t1 : Turned (fun _ => False) w W1 := by rw [← hW1]; exact (Turned.refl _ w).alloc _
  have b1 : W1.heap[s]? = some (.cells #[.int .i64 0, .int .i64 0, .int .i64 0, .int .i64 0, .int .i64 0, .int .u32 0] 117 (0, 0)) := by rw [← hW1, ← hs]; exact heap_alloc_new w _
  have s1 : W1.heap.size = s + 1 := by rw [← hW1, ← hs]; simp
  obtain ⟨W2, hW2⟩ : ∃ W, W1.alloc (.cells #[.int .i64 0, .int .i64 0, .int .i64 0, .int .i64 0, .int .i64 0, .int .u32 0] 117) = W := ⟨_, rfl⟩
  have t2 : Turned (fun _ => False) w W2 := by rw [← hW2]; exact t1.alloc _
  have t12 : Turned (fun _ => False) W1 W2 := by rw [← hW2]; exact (Turned.refl _ W1).alloc _
  have b2 := (t12.block s (by omega) (fun h => h)).trans b1
  have c2 : W2.heap[s + 1]? = some (.cells #[.int .i64 0, .int .i64 0, .int .i64 0, .int .i64 0, .int .i64 0, .int .u32 0] 117 (0, 0)) := by rw [← hW2, ← s1]; exact heap_alloc_new W1 _
  obtain ⟨x0, x1, x2, x3, x4, x5, f0, f1, f2, f3, f4, f5⟩ := box_cellsP b2
  obtain ⟨y0, y1, y2, y3, y4, y5, _, _, _, _, _, _⟩ := box_cellsP c2
  obtain ⟨W3, hW3⟩ : ∃ W, (((((W2.setCell ⟨s, 0, none⟩ (.int .i64 0)).setCell ⟨s, 1, none⟩ (.int .i64 0)).setCell ⟨s, 2, none⟩ (.int .i64 0)).setCell ⟨s, 3, none⟩ (.int .i64 0)).setCell ⟨s, 4, none⟩ (.int .i64 0)).setCell ⟨s, 5, none⟩ (.int .u32 0) = W := ⟨_, rfl⟩
  have HB3 : Hid (W3.heap[s]? = some (.cells #[.int .i64 0, .int .i64 0, .int .i64 0, .int .i64 0, .int .i64 0, .int .u32 0] 117 (0, 0))) := by unfold Hid; rw [← hW3]; exact box_setP b2 0 0 0 0 0 0
  have HT3 : Hid (Turned (fun _ => False) w W3) := by unfold Hid; rw [← hW3]; exact box_turnedP t2 (by omega) _ _ _ _ _ _
  have HM := Lib.hid (plenP' (h.block_ (t1.block qb h.lt_ (fun h => h))))
  clear h t1 b1 t2 t12 b2 c2
  go_enter Try.func101, Try.ntmps101
  go_wp2_with (fail)
  refine (HM.out).mono ?_
  rintro e w1 ⟨rfl, rfl⟩
  go_wp2
  refine bodyPost_ret (results_atP (fn := Try.f101) rfl _ _ s 0 0 0 0 0 0 _ (.bool false) rfl rfl HB3.out) rfl ⟨rfl, HT3.out.below (Nat.le_refl _) (fun _ h => h.elim)⟩

set_option maxRecDepth 100000 in
set_option maxHeartbeats 2000000 in
theorem ppeek_someP {w : World} {qb g n c m fn : Nat} {caps : Array Value} {A : List (Pr × Nat)} (h : HasP w qb g n c A m fn caps) (h0 : 0 < n) {ra : Int} {rb : Int} {rc : Int} {rd : Int} {re : Int} {rf : Nat} {rn : Nat} (hr : A[0]? = some ((⟨ra, rb, rc, rd, re, rf⟩ : Pr), rn)) :
    Calls Try.prog 101 #[.pointer (some ⟨qb, 0, none⟩)] w (fun e w' => e = .returned (.tuple #[.agg #[.int .i64 ra, .int .i64 rb, .int .i64 rc, .int .i64 rd, .int .i64 re, .int .u32 (rf : Nat)], .bool true]) ∧ Below w.heap.size w w') := by
  obtain ⟨s, hs⟩ : ∃ s, w.heap.size = s := ⟨_, rfl⟩
  obtain ⟨W1, hW1⟩ : ∃ W, w.alloc (.cells #[.int .i64 0, .int .i64 0, .int .i64 0, .int .i64 0, .int .i64 0, .int .u32 0] 117) = W := ⟨_, rfl⟩
  have t1 : Turned (fun _ => False) w W1 := by rw [← hW1]; exact (Turned.refl _ w).alloc _
  have b1 : W1.heap[s]? = some (.cells #[.int .i64 0, .int .i64 0, .int .i64 0, .int .i64 0, .int .i64 0, .int .u32 0] 117 (0, 0)) := by rw [← hW1, ← hs]; exact heap_alloc_new w _
  obtain ⟨x0, x1, x2, x3, x4, x5, f0, f1, f2, f3, f4, f5⟩ := box_cellsP b1
  have hh := h.below_ (t1.below (Nat.le_refl _) (fun _ h => h.elim))
  have HM := Lib.hid (plenP' hh.head)
  have hd1 := hh.head.list
  obtain ⟨r0, r1, r2, r3, r4, r5, r6, hro⟩ := hh.has hr
  simp only [Nat.zero_mul, Nat.zero_add] at r0 r1 r2 r3 r4 r5 r6
  obtain ⟨W3, hW3⟩ : ∃ W, (((((W1.setCell ⟨s, 0, none⟩ (.int .i64 ra)).setCell ⟨s, 1, none⟩ (.int .i64 rb)).setCell ⟨s, 2, none⟩ (.int .i64 rc)).setCell ⟨s, 3, none⟩ (.int .i64 rd)).setCell ⟨s, 4, none⟩ (.int .i64 re)).setCell ⟨s, 5, none⟩ (.int .u32 (rf : Nat)) = W := ⟨_, rfl⟩
  have HB3 : Hid (W3.heap[s]? = some (.cells #[.int .i64 ra, .int .i64 rb, .int .i64 rc, .int .i64 rd, .int .i64 re, .int .u32 (rf : Nat)] 117 (0, 0))) := by unfold Hid; rw [← hW3]; exact box_setP b1 ra rb rc rd re rf
  have HT3 : Hid (Turned (fun _ => False) w W3) := by unfold Hid; rw [← hW3]; exact box_turnedP t1 (by omega) _ _ _ _ _ _
  have h0' : (0 : Int) < (n : Int) := by omega
  have hne : ((n : Int) == 0) = false := by rw [beq_eq_false_iff_ne]; omega
  have hne2 : ¬ (n : Int) = 0 := by omega
  clear h hr hro hh t1 b1
  go_enter Try.func101, Try.ntmps101
  go_wp2_with (fail)
  refine (HM.out).mono ?_
  rintro e w1 ⟨rfl, rfl⟩
  go_wp2
  refine bodyPost_ret (results_atP (fn := Try.f101) rfl _ _ s ra rb rc rd re rf _ (.bool true) rfl rfl HB3.out) rfl ⟨rfl, HT3.out.below (Nat.le_refl _) (fun _ h => h.elim)⟩

set_option maxRecDepth 100000 in
set_option maxHeartbeats 2000000 in
theorem ppop_noneP {w : World} {qb m fn : Nat} {caps : Array Value} {A0 : Option Addr} {c : Nat} (h : HeadP w qb fn caps (.slice A0 0 c) m) :
    Calls Try.prog 86 #[.pointer (some ⟨qb, 0, none⟩)] w (fun e w' => e = .returned (.tuple #[.agg #[.int .i64 0, .int .i64 0, .int .i64 0, .int .i64 0, .int .i64 0, .int .u32 0], .bool false]) ∧ Below w.heap.size w w') := by
  obtain ⟨s, hs⟩ : ∃ s, w.heap.size = s := ⟨_, rfl⟩
  obtain ⟨W1, hW1⟩ : ∃ W, w.alloc (.cells #[.int .i64 0, .int .i64 0, .int .i64 0, .int .i64 0, .int .i64 0, .int .u32 0] 117) = W := ⟨_, rfl⟩
  have t1 : Turned (fun _ => False) w W1 := by rw [← hW1]; exact (Turned.refl _ w).alloc _
  have b1 : W1.heap[s]? = some (.cells #[.int .i64 0, .int .i64 0, .int .i64 0, .int .i64 0, .int .i64 0, .int .u32 0] 117 (0, 0)) := by rw [← hW1, ← hs]; exact heap_alloc_new w _
  have HM := Lib.hid (ppeek_noneP (h.block_ (t1.block qb h.lt_ (fun h => h))))
  have HT1 := Lib.hid t1
  have HB1 := Lib.hid b1
  have HS1 : Hid (s < W1.heap.size) := (Array.getElem?_eq_some_iff.1 b1).1
  clear h t1 b1
  go_enter Try.func86, Try.ntmps86
  go_wp2_with (fail)
  refine (HM.out).mono ?_
  rintro e w2 ⟨rfl, hb⟩
  obtain ⟨t, ht⟩ : ∃ t, w2.heap.size = t := ⟨_, rfl⟩
  have hst : s < t := by have := HS1.out; have := hb.size; omega
  obtain ⟨W3, hW3⟩ : ∃ W, w2.alloc (.cells #[.int .i64 0, .int .i64 0, .int .i64 0, .int .i64 0, .int .i64 0, .int .u32 0] 117) = W := ⟨_, rfl⟩
  have b3 : W3.heap[t]? = some (.cells #[.int .i64 0, .int .i64 0, .int .i64 0, .int .i64 0, .int .i64 0, .int .u32 0] 117 (0, 0)) := by rw [← hW3, ← ht]; exact heap_alloc_new w2 _
  have tt3 : Turned (fun _ => False) w2 W3 := by rw [← hW3]; exact (Turned.refl _ w2).alloc _
  have t3 : Turned (fun _ => False) w W3 := HT1.out.trans ((Turned.of_below hb).trans tt3 (fun _ _ h => h.elim)) (fun k h1 h2 => by have h2 : W1.heap.size ≤ k := h2; have := HT1.out.size; omega)
  have c3 : W3.heap[s]? = some (.cells #[.int .i64 0, .int .i64 0, .int .i64 0, .int .i64 0, .int .i64 0, .int .u32 0] 117 (0, 0)) := (tt3.block s (by omega) (fun h => h)).trans ((hb.block s HS1.out).trans HB1.out)
  obtain ⟨y0, y1, y2, y3, y4, y5, g0, g1, g2, g3, g4, g5⟩ := box_cellsP b3
  obtain ⟨W4, hW4⟩ : ∃ W, (((((W3.setCell ⟨t, 0, none⟩ (.int .i64 0)).setCell ⟨t, 1, none⟩ (.int .i64 0)).setCell ⟨t, 2, none⟩ (.int .i64 0)).setCell ⟨t, 3, none⟩ (.int .i64 0)).setCell ⟨t, 4, none⟩ (.int .i64 0)).setCell ⟨t, 5, none⟩ (.int .u32 0) = W := ⟨_, rfl⟩
  have b4 : W4.heap[t]? = some (.cells #[.int .i64 0, .int .i64 0, .int .i64 0, .int .i64 0, .int .i64 0, .int .u32 0] 117 (0, 0)) := by rw [← hW4]; exact box_setP b3 0 0 0 0 0 0
  have t4 : Turned (fun _ => False) w W4 := by rw [← hW4]; exact box_turnedP t3 (by omega) _ _ _ _ _ _
  have c4 : W4.heap[s]? = some (.cells #[.int .i64 0, .int .i64 0, .int .i64 0, .int .i64 0, .int .i64 0, .int .u32 0] 117 (0, 0)) := by
    rw [← hW4]
    exact ((heap_setCell_other _ _ _ _ (by show s ≠ t; omega)).trans ((heap_setCell_other _ _ _ _ (by show s ≠ t; omega)).trans ((heap_setCell_other _ _ _ _ (by show s ≠ t; omega)).trans ((heap_setCell_other _ _ _ _ (by show s ≠ t; omega)).trans ((heap_setCell_other _ _ _ _ (by show s ≠ t; omega)).trans ((heap_setCell_other _ _ _ _ (by show s ≠ t; omega)).trans c3))))))
  obtain ⟨z0, z1, z2, z3, z4, z5, _, _, _, _, _, _⟩ := box_cellsP b4
  obtain ⟨x0, x1, x2, x3, x4, x5, f0, f1, f2, f3, f4, f5⟩ := box_cellsP c4
  obtain ⟨W5, hW5⟩ : ∃ W, (((((W4.setCell ⟨s, 0, none⟩ (.int .i64 0)).setCell ⟨s, 1, none⟩ (.int .i64 0)).setCell ⟨s, 2, none⟩ (.int .i64 0)).setCell ⟨s, 3, none⟩ (.int .i64 0)).setCell ⟨s, 4, none⟩ (.int .i64 0)).setCell ⟨s, 5, none⟩ (.int .u32 0) = W := ⟨_, rfl⟩
  have HB5 : Hid (W5.heap[s]? = some (.cells #[.int .i64 0, .int .i64 0, .int .i64 0, .int .i64 0, .int .i64 0, .int .u32 0] 117 (0, 0))) := by unfold Hid; rw [← hW5]; exact box_setP c4 0 0 0 0 0 0
  have HT5 : Hid (Turned (fun _ => False) w W5) := by unfold Hid; rw [← hW5]; exact box_turnedP t4 (by omega) _ _ _ _ _ _
  clear hb b3 tt3 t3 c3 b4 t4 c4 HM
  go_wp2
  refine bodyPost_ret (results_atP (fn := Try.f86) rfl _ _ s 0 0 0 0 0 0 _ (.bool false) rfl rfl HB5.out) rfl ⟨rfl, HT5.out.below (Nat.le_refl _) (fun _ h => h.elim)⟩

set_option maxRecDepth 100000 in
set_option maxHeartbeats 2000000 in
theorem ppop_someP {w : World} {qb g n c m fn : Nat} {caps : Array Value} {A : List (Pr × Nat)} {lt : Pr → Pr → Bool} (h : HasP w qb g n c A m fn caps) (ho : Qu.Order lt) (hl : Less prV PrOk fn caps lt w (fun k => k = qb ∨ k = g)) (hh : Qu.IsHeap lt A) (h0 : 0 < n) (hn : n ≤ 8388608) {ra : Int} {rb : Int} {rc : Int} {rd : Int} {re : Int} {rf : Nat} {rn : Nat} (hr : A[0]? = some ((⟨ra, rb, rc, rd, re, rf⟩ : Pr), rn)) :
    Calls Try.prog 86 #[.pointer (some ⟨qb, 0, none⟩)] w (fun e w' => e = .returned (.tuple #[.agg #[.int .i64 ra, .int .i64 rb, .int .i64 rc, .int .i64 rd, .int .i64 re, .int .u32 (rf : Nat)], .bool true]) ∧ ∃ A', (((⟨ra, rb, rc, rd, re, rf⟩ : Pr), rn) :: A').Perm A ∧ Qu.IsHeap lt A' ∧ HasP w' qb g (n - 1) c A' m fn caps ∧ Turned (fun k => k = qb ∨ k = g) w w') := by
  obtain ⟨j, rfl⟩ : ∃ j, n = j + 1 := ⟨n - 1, by omega⟩
  have hbq : qb < w.heap.size := h.head.lt_
  have hbg : g < w.heap.size := (h.own.lt_ g rfl).2
  obtain ⟨s, hs⟩ : ∃ s, w.heap.size = s := ⟨_, rfl⟩
  obtain ⟨W1, hW1⟩ : ∃ W, w.alloc (.cells #[.int .i64 0, .int .i64 0, .int .i64 0, .int .i64 0, .int .i64 0, .int .u32 0] 117) = W := ⟨_, rfl⟩
  have t1 : Turned (fun _ => False) w W1 := by rw [← hW1]; exact (Turned.refl _ w).alloc _
  have b1 : W1.heap[s]? = some (.cells #[.int .i64 0, .int .i64 0, .int .i64 0, .int .i64 0, .int .i64 0, .int .u32 0] 117 (0, 0)) := by rw [← hW1, ← hs]; exact heap_alloc_new w _
  have h1 := h.below_ (t1.below (Nat.le_refl _) (fun _ h => h.elim))
  have HM := Lib.hid (ppeek_someP h1 h0 hr)
  have HT1 := Lib.hid t1
  have HB1 := Lib.hid b1
  have HS1 : Hid (s < W1.heap.size) := (Array.getElem?_eq_some_iff.1 b1).1
  have HH := Lib.hid h1
  have HL := Lib.hid hl
  have HR := Lib.hid hr
  have HO := Lib.hid ho
  have HHH := Lib.hid hh
  clear h hl hr ho hh t1 b1 h1
  go_enter Try.func86, Try.ntmps86
  go_wp2_with (fail)
  refine (HM.out).mono ?_
  rintro e w2 ⟨rfl, hb⟩
  obtain ⟨t, ht⟩ : ∃ t, w2.heap.size = t := ⟨_, rfl⟩
  have hst : s < t := by have := HS1.out; have := hb.size; omega
  obtain ⟨W3, hW3⟩ : ∃ W, w2.alloc (.cells #[.int .i64 0, .int .i64 0, .int .i64 0, .int .i64 0, .int .i64 0, .int .u32 0] 117) = W := ⟨_, rfl⟩
  have b3 : W3.heap[t]? = some (.cells #[.int .i64 0, .int .i64 0, .int .i64 0, .int .i64 0, .int .i64 0, .int .u32 0] 117 (0, 0)) := by rw [← hW3, ← ht]; exact heap_alloc_new w2 _
  have tt3 : Turned (fun _ => False) w2 W3 := by rw [← hW3]; exact (Turned.refl _ w2).alloc _
  have t13 : Turned (fun k => W1.heap.size ≤ k) W1 W3 := (Turned.of_below hb).trans tt3 (fun _ _ h => h.elim)
  have t3 : Turned (fun _ => False) w W3 := HT1.out.trans t13 (fun k h1 h2 => by have h2 : W1.heap.size ≤ k := h2; have := HT1.out.size; omega)
  have c3 : W3.heap[s]? = some (.cells #[.int .i64 0, .int .i64 0, .int .i64 0, .int .i64 0, .int .i64 0, .int .u32 0] 117 (0, 0)) := (tt3.block s (by omega) (fun h => h)).trans ((hb.block s HS1.out).trans HB1.out)
  obtain ⟨y0, y1, y2, y3, y4, y5, g0, g1, g2, g3, g4, g5⟩ := box_cellsP b3
  obtain ⟨W4, hW4⟩ : ∃ W, (((((W3.setCell ⟨t, 0, none⟩ (.int .i64 ra)).setCell ⟨t, 1, none⟩ (.int .i64 rb)).setCell ⟨t, 2, none⟩ (.int .i64 rc)).setCell ⟨t, 3, none⟩ (.int .i64 rd)).setCell ⟨t, 4, none⟩ (.int .i64 re)).setCell ⟨t, 5, none⟩ (.int .u32 (rf : Nat)) = W := ⟨_, rfl⟩
  have b4 : W4.heap[t]? = some (.cells #[.int .i64 ra, .int .i64 rb, .int .i64 rc, .int .i64 rd, .int .i64 re, .int .u32 (rf : Nat)] 117 (0, 0)) := by rw [← hW4]; exact box_setP b3 ra rb rc rd re rf
  have t4 : Turned (fun _ => False) w W4 := by rw [← hW4]; exact box_turnedP t3 (by omega) _ _ _ _ _ _
  have t14 : Turned (fun k => W1.heap.size ≤ k) W1 W4 := by rw [← hW4]; exact box_turnedP t13 (by have := hb.size; omega) _ _ _ _ _ _
  have c4 : W4.heap[s]? = some (.cells #[.int .i64 0, .int .i64 0, .int .i64 0, .int .i64 0, .int .i64 0, .int .u32 0] 117 (0, 0)) := by
    rw [← hW4]
    exact ((heap_setCell_other _ _ _ _ (by show s ≠ t; omega)).trans ((heap_setCell_other _ _ _ _ (by show s ≠ t; omega)).trans ((heap_setCell_other _ _ _ _ (by show s ≠ t; omega)).trans ((heap_setCell_other _ _ _ _ (by show s ≠ t; omega)).trans ((heap_setCell_other _ _ _ _ (by show s ≠ t; omega)).trans ((heap_setCell_other _ _ _ _ (by show s ≠ t; omega)).trans c3))))))
  have HB4 := Lib.hid b4
  have HC4 := Lib.hid c4
  have HT4 := Lib.hid t4
  have HD := Lib.hid (pdropP (HH.out.below_ (t14.below (Nat.le_refl _) (fun _ h => h))) HO.out (HL.out.step (t4.mono (fun _ _ h => h.elim)) (fun _ _ h => h)) HHH.out hn HR.out)
  clear hb b3 tt3 t3 t13 c3 b4 t4 t14 c4 HM
  go_wp2_with (fail)
  refine (HD.out).mono ?_
  rintro e w5 ⟨rfl, A', h1, h2, h3, h4⟩
  have b5 := (h4.block t (Array.getElem?_eq_some_iff.1 HB4.out).1 (by omega)).trans HB4.out
  have c5 := (h4.block s (Array.getElem?_eq_some_iff.1 HC4.out).1 (by omega)).trans HC4.out
  have t5 : Turned (fun k => k = qb ∨ k = g) w w5 := (HT4.out.mono (fun _ _ h => h.elim)).trans h4 (fun _ _ h => h)
  obtain ⟨z0, z1, z2, z3, z4, z5, _, _, _, _, _, _⟩ := box_cellsP b5
  obtain ⟨x0, x1, x2, x3, x4, x5, f0, f1, f2, f3, f4, f5⟩ := box_cellsP c5
  obtain ⟨W6, hW6⟩ : ∃ W, (((((w5.setCell ⟨s, 0, none⟩ (.int .i64 ra)).setCell ⟨s, 1, none⟩ (.int .i64 rb)).setCell ⟨s, 2, none⟩ (.int .i64 rc)).setCell ⟨s, 3, none⟩ (.int .i64 rd)).setCell ⟨s, 4, none⟩ (.int .i64 re)).setCell ⟨s, 5, none⟩ (.int .u32 (rf : Nat)) = W := ⟨_, rfl⟩
  have HB6 : Hid (W6.heap[s]? = some (.cells #[.int .i64 ra, .int .i64 rb, .int .i64 rc, .int .i64 rd, .int .i64 re, .int .u32 (rf : Nat)] 117 (0, 0))) := by unfold Hid; rw [← hW6]; exact box_setP c5 ra rb rc rd re rf
  have HT6 : Hid (Turned (fun k => k = qb ∨ k = g) w W6) := by unfold Hid; rw [← hW6]; exact box_turnedP t5 (by omega) _ _ _ _ _ _
  have h6 : HasP W6 qb g j c A' m fn caps := by
    have tt : Turned (fun k => k = s) w5 W6 := by rw [← hW6]; exact (((((((Turned.refl (fun k => k = s) w5).setCell (p := ⟨s, 0, none⟩) (fun _ => rfl) _).setCell (p := ⟨s, 1, none⟩) (fun _ => rfl) _).setCell (p := ⟨s, 2, none⟩) (fun _ => rfl) _).setCell (p := ⟨s, 3, none⟩) (fun _ => rfl) _).setCell (p := ⟨s, 4, none⟩) (fun _ => rfl) _).setCell (p := ⟨s, 5, none⟩) (fun _ => rfl) _)
    exact ⟨h3.head.block_ (tt.block qb h3.head.lt_ (by omega)), h3.own.turned_ tt (fun k hk => by have e : g = k := Option.some.inj hk; show ¬ k = s; omega), h3.apart, h3.len⟩
  have HE := Lib.hid (show ∃ A', (((⟨ra, rb, rc, rd, re, rf⟩ : Pr), rn) :: A').Perm A ∧ Qu.IsHeap lt A' ∧ HasP W6 qb g (j + 1 - 1) c A' m fn caps ∧ Turned (fun k => k = qb ∨ k = g) w W6 from ⟨A', h1, h2, h6, HT6.out⟩)
  clear h1 h2 h3 h4 HD t5 h6 b5 c5
  go_wp2
  refine bodyPost_ret (results_atP (fn := Try.f86) rfl _ _ s ra rb rc rd re rf _ (.bool true) rfl rfl HB6.out) rfl ⟨rfl, HE.out⟩
end Go.Proofs.Ytkialijipcbgkaa
namespace Go.Proofs.Ytkialijipcbgkaa
open Go.RowKit
set_option linter.unusedVariables false

/-- A queue: its own blocks F, its order, what it holds in the order in which it goes out, how many were pushed. -/
def IsQP (w : World) (F : Nat → Prop) (qb : Nat) (fn : Nat) (caps : Array Value) (lt : Pr → Pr → Bool) (S : List Pr) (m : Nat) : Prop :=
  ∃ (A0 : Option Addr) (n c : Nat) (A : List (Pr × Nat)), HeadP w qb fn caps (.slice A0 n c) m ∧ OwnL qPK w 0 (.slice A0 n c) A ∧ (Value.slice A0 n c).ownBlock ≠ some qb ∧
    Qu.IsHeap lt A ∧ Qu.Held lt A S m ∧ A.length ≤ m ∧ ∀ k, F k ↔ (k = qb ∨ (Value.slice A0 n c).ownBlock = some k)
section
variable {w w' : World} {F G : Nat → Prop} {qb fn : Nat} {caps : Array Value} {lt : Pr → Pr → Bool} {S : List Pr} {m : Nat}
theorem IsQP.lt_ (h : IsQP w F qb fn caps lt S m) : ∀ k, F k → k < w.heap.size := by
  obtain ⟨A0, n, c, A, h1, h2, h3, h4, h5, h6, h7⟩ := h
  intro k hk
  rcases (h7 k).1 hk with rfl | h
  · exact h1.lt_
  · exact (h2.lt_ k h).2
theorem IsQP.turned_ (h : IsQP w F qb fn caps lt S m) (ht : Turned G w w') (hd : ∀ k, k < w.heap.size → F k → ¬ G k) : IsQP w' F qb fn caps lt S m := by
  have hlt := h.lt_
  obtain ⟨A0, n, c, A, h1, h2, h3, h4, h5, h6, h7⟩ := h
  have hq := (h7 qb).2 (.inl rfl)
  exact ⟨A0, n, c, A, h1.block_ (ht.block qb (hlt _ hq) (hd _ (hlt _ hq) hq)), h2.turned_ ht (fun k hk => by have hF := (h7 k).2 (.inr hk); exact hd k (hlt k hF) hF), h3, h4, h5, h6, h7⟩
end
theorem pnewP (fn : Nat) (caps : Array Value) (lt : Pr → Pr → Bool) (w : World) :
    Calls Try.prog 83 #[fnV fn caps] w (fun e w' => ∃ (qb : Nat) (F : Nat → Prop), e = .returned (.pointer (some ⟨qb, 0, none⟩)) ∧ IsQP w' F qb fn caps lt [] 0 ∧ (∀ k, F k → w.heap.size ≤ k) ∧ Below w.heap.size w w') := by
  refine (pnewP' fn caps w).mono ?_
  rintro e w' ⟨rfl, hh, hb⟩
  exact ⟨w.heap.size, fun k => k = w.heap.size, rfl, ⟨none, 0, 0, [], hh, OwnL.nil_ _ _ _, by simp [Value.ownBlock], fun k a b _ h => by simp at h, Qu.Held.nil, Nat.le_refl _, fun k => by simp [Value.ownBlock]⟩, fun k h => by omega, hb⟩

section
variable {w : World} {F : Nat → Prop} {qb fn : Nat} {caps : Array Value} {lt : Pr → Pr → Bool} {S : List Pr} {m : Nat}
theorem ppushP (hq : IsQP w F qb fn caps lt S m) (ho : Qu.Order lt) (hl : Less prV PrOk fn caps lt w F) (x : Pr) (hx : PrOk x) (hm : m ≤ 4194304) :
    Calls Try.prog 100 #[.pointer (some ⟨qb, 0, none⟩), prV x] w (fun e w' => e = .returned (.int .i64 0) ∧ ∃ F' : Nat → Prop, IsQP w' F' qb fn caps lt (Qu.ins lt S x) (m + 1) ∧ Turned F w w' ∧ ∀ k, F' k → F k ∨ w.heap.size ≤ k) := by
  obtain ⟨A0, n, c, A, h1, h2, h3, h4, h5, h6, h7⟩ := hq
  obtain ⟨xa, xb, xc, xd, xe, xf⟩ := x
  refine (ppushP' h1 h2 h3 ho (hl.mono (fun k _ h => (h7 k).2 h)) h4 xa xb xc xd xe xf hx hm (by omega)).mono ?_
  rintro e w' ⟨rfl, g, n', c', A', hp, hh, hq, ht, hg⟩
  refine ⟨rfl, fun k => k = qb ∨ k = g, ⟨some ⟨g, 0, none⟩, n', c', A', hq.head, hq.own, fun e => hq.apart (Option.some.inj e).symm, hh, (h5.push ho _).perm hp, ?_, fun k => ⟨fun h => h.imp id (fun e => by subst e; rfl), fun h => h.imp id (fun e => (Option.some.inj e).symm)⟩⟩, ht.mono (fun k _ h => (h7 k).2 h), fun k h => ?_⟩
  · have := hp.length_eq
    simp at this
    omega
  · rcases h with rfl | rfl
    · exact .inl ((h7 _).2 (.inl rfl))
    · exact hg.imp (fun h => (h7 _).2 (.inr h)) id
theorem plenP (hq : IsQP w F qb fn caps lt S m) :
    Calls Try.prog 111 #[.pointer (some ⟨qb, 0, none⟩)] w (fun e w' => e = .returned (.int .i64 (S.length : Nat)) ∧ Below w.heap.size w w') := by
  obtain ⟨A0, n, c, A, h1, h2, h3, h4, h5, h6, h7⟩ := hq
  refine (plenP' h1).mono ?_
  rintro e w' ⟨rfl, rfl⟩
  rw [h5.length, ← h2.form_.len_.1]
  exact ⟨rfl, Below.refl _ _⟩
theorem ppeekP (hq : IsQP w F qb fn caps lt S m) (ho : Qu.Order lt) :
    Calls Try.prog 101 #[.pointer (some ⟨qb, 0, none⟩)] w (fun e w' => e = .returned (.tuple #[prV (S.headD (⟨0, 0, 0, 0, 0, 0⟩ : Pr)), .bool (!S.isEmpty)]) ∧ Below w.heap.size w w') := by
  obtain ⟨A0, n, c, A, h1, h2, h3, h4, h5, h6, h7⟩ := hq
  have hn := h2.form_.len_.1
  rcases Nat.eq_zero_or_pos n with rfl | hpos
  · have hS : S = [] := List.eq_nil_of_length_eq_zero (by rw [h5.length, ← hn])
    subst hS
    exact ppeek_noneP h1
  · obtain ⟨g, ⟨⟨ya, yb, yc, yd, ye, yf⟩, yn⟩, e, _, _, _, hr, _⟩ := h2.at_ (k := 0) (by omega)
    subst e
    obtain ⟨T, rfl, hT⟩ := h5.top ho h4 hr
    exact ppeek_someP ⟨h1, h2, fun e => h3 (by rw [e]; rfl), hn.symm⟩ hpos hr
theorem ppopP (hq : IsQP w F qb fn caps lt S m) (ho : Qu.Order lt) (hl : Less prV PrOk fn caps lt w F) (hm : m ≤ 4194304) :
    Calls Try.prog 86 #[.pointer (some ⟨qb, 0, none⟩)] w (fun e w' => e = .returned (.tuple #[prV (S.headD (⟨0, 0, 0, 0, 0, 0⟩ : Pr)), .bool (!S.isEmpty)]) ∧ ∃ F' : Nat → Prop, IsQP w' F' qb fn caps lt S.tail m ∧ Turned F w w' ∧ ∀ k, F' k → F k ∨ w.heap.size ≤ k) := by
  have hq0 := hq
  obtain ⟨A0, n, c, A, h1, h2, h3, h4, h5, h6, h7⟩ := hq
  have hn := h2.form_.len_.1
  rcases Nat.eq_zero_or_pos n with rfl | hpos
  · have hS : S = [] := List.eq_nil_of_length_eq_zero (by rw [h5.length, ← hn])
    subst hS
    refine (ppop_noneP h1).mono ?_
    rintro e w' ⟨rfl, hb⟩
    have ht : Turned (fun k => w.heap.size ≤ k) w w' := Turned.of_below hb
    exact ⟨rfl, F, hq0.turned_ ht (fun k h1 _ h2 => absurd h2 (by omega)), ht.mono (fun k h1 h2 => absurd h2 (by omega)), fun k h => .inl h⟩
  · obtain ⟨g, ⟨⟨ya, yb, yc, yd, ye, yf⟩, yn⟩, e, _, _, _, hr, _⟩ := h2.at_ (k := 0) (by omega)
    subst e
    have hI : HasP w qb g n c A m fn caps := ⟨h1, h2, fun e => h3 (by rw [e]; rfl), hn.symm⟩
    have hF : ∀ k, (k = qb ∨ k = g) → F k := fun k h => (h7 k).2 (h.imp id (fun e => by subst e; rfl))
    obtain ⟨T, rfl, hT⟩ := h5.top ho h4 hr
    refine (ppop_someP hI ho (hl.mono (fun k _ h => hF k h)) h4 hpos (by omega) hr).mono ?_
    rintro e w' ⟨rfl, A', hp, hh, hq, ht⟩
    refine ⟨rfl, fun k => k = qb ∨ k = g, ⟨some ⟨g, 0, none⟩, n - 1, c, A', hq.head, hq.own, fun e => hq.apart (Option.some.inj e).symm, hh, hT A' hp, ?_, fun k => ⟨fun h => h.imp id (fun e => by subst e; rfl), fun h => h.imp id (fun e => (Option.some.inj e).symm)⟩⟩, ht.mono (fun k _ h => hF k h), fun k h => .inl (hF k h)⟩
    have := hp.length_eq
    simp at this
    omega
end
end Go.Proofs.Ytkialijipcbgkaa
namespace Go.Proofs.Ytkialijipcbgkaa
open Go.RowKit Go.Maps
set_option linter.unusedVariables false

namespace Bp
open Vo (Pc)
/-- The joins of a vocabulary that may be. -/
theorem jn_grows {P : List Pc} (hg : Vo.Good P) : Grows (jn P) where
  up := by
    intro x y t r h
    obtain ⟨T, q, rfl, hq, hj, rfl, rfl, -, -⟩ := jn_some h
    have hl := (List.getElem?_eq_some_iff.1 hq).1
    have he := (Vo.errAt_join hj (hg T q hq))
    have hlen : (P.take T).length = T := by rw [List.length_take]; omega
    have := he.2
    rw [hlen] at this
    omega
  inj := fun h h' => (jn_rank hg h h').2
end Bp

def mpJ : MpK Try.prog (Int × Int) (Int × Nat) := mpTwo 109 113 3 115 .i64 .i64 .u32 Try.underlying109 pair_arr Try.underlying3 pair_size pair_law (fun w => by kernel_rfl)

/-- The order of the queue. -/
theorem less_pairs (w : World) (F : Nat → Prop) : Less prV PrOk 84 #[] Bp.ltP w F := by
  refine ⟨enters_of Try.func84 (by kernel_rfl) rfl, ?_⟩
  rintro ⟨a1, a2, a3, a4, a5, a6⟩ ⟨b1, b2, b3, b4, b5, b6⟩ ha hb w' _
  show Calls Try.prog _ #[.agg #[.int .i64 a1, .int .i64 a2, .int .i64 a3, .int .i64 a4, .int .i64 a5, .int .u32 (a6 : Nat)], .agg #[.int .i64 b1, .int .i64 b2, .int .i64 b3, .int .i64 b4, .int .i64 b5, .int .u32 (b6 : Nat)]] w' _
  clear ha hb
  by_cases h : a6 = b6
  · subst h
    have HX : Hid (Bp.ltP ⟨a1, a2, a3, a4, a5, a6⟩ ⟨b1, b2, b3, b4, b5, a6⟩ = decide (a3 < b3)) := by unfold Hid Bp.ltP Bp.ltW; simp
    have hne : ((a6 : Int) != (a6 : Int)) = false := by simp
    go_enter Try.func84, Try.ntmps84
    go_wp2
    go_ret
    exact ⟨by rw [HX.out]; rfl, ((Below.refl _ _).alloc (Nat.le_refl _) _).alloc (by simp) _⟩
  · have HX : Hid (Bp.ltP ⟨a1, a2, a3, a4, a5, a6⟩ ⟨b1, b2, b3, b4, b5, b6⟩ = decide (a6 < b6)) := by
      unfold Hid Bp.ltP Bp.ltW
      rw [decide_eq_decide]
      simp only
      omega
    have hne : ((a6 : Int) != (b6 : Int)) = true := by rw [bne_iff_ne]; omega
    go_enter Try.func84, Try.ntmps84
    go_wp2
    go_ret
    exact ⟨by rw [HX.out]; rfl, ((Below.refl _ _).alloc (Nat.le_refl _) _).alloc (by simp) _⟩

/-- The cells of a row: what stands at the places, the places ahead, the places behind, the joins, what waits. -/
def rowC (T A N : List Int) (mb qb : Nat) : List Value := (T ++ (A ++ N)).map (.int .i64) ++ [.map (some mb), .pointer (some ⟨qb, 0, none⟩)]
/-- A row at block rb. -/
structure RowQ (w : World) (rb : Nat) (T A N : List Int) (mb qb : Nat) : Prop where
  head : w.heap[rb]? = some (.cells (rowC T A N mb qb).toArray 121 (0, 0))
  lt : T.length = 4098
  la : A.length = 4098
  ln : N.length = 4098
  ok : ∀ x ∈ T, I64 x
section
variable {w w' : World} {rb mb qb i : Nat} {T A N : List Int} {x : Int}
theorem RowQ.lt_ (h : RowQ w rb T A N mb qb) : rb < w.heap.size := (Array.getElem?_eq_some_iff.1 h.head).1
theorem RowQ.block_ (h : RowQ w rb T A N mb qb) (hb : w'.heap[rb]? = w.heap[rb]?) : RowQ w' rb T A N mb qb := ⟨hb.trans h.head, h.lt, h.la, h.ln, h.ok⟩
theorem RowQ.cool_ (h : RowQ w rb T A N mb qb) (j : Nat) : w.frozen? ⟨rb, j, none⟩ = false := frozen_of_row w rb j _ _ h.head
theorem RowQ.int_ (h : RowQ w rb T A N mb qb) {j : Nat} (hx : (T ++ (A ++ N))[j]? = some x) : w.cell? ⟨rb, j, none⟩ = some (.int .i64 x) := by
  have hl := (List.getElem?_eq_some_iff.1 hx).1
  rw [cell_of_row _ rb j _ _ _ h.head, List.getElem?_toArray, rowC, List.getElem?_append_left (by simpa using hl), List.getElem?_map, hx]
  rfl
theorem RowQ.tok_ (h : RowQ w rb T A N mb qb) (hx : T[i]? = some x) : w.cell? ⟨rb, i, none⟩ = some (.int .i64 x) := by
  have hl := (List.getElem?_eq_some_iff.1 hx).1
  exact h.int_ (by rw [List.getElem?_append_left hl]; exact hx)
theorem RowQ.ahead_ (h : RowQ w rb T A N mb qb) (hx : A[i]? = some x) : w.cell? ⟨rb, 4098 + i, none⟩ = some (.int .i64 x) := by
  have hl := (List.getElem?_eq_some_iff.1 hx).1
  refine h.int_ ?_
  rw [List.getElem?_append_right (by rw [h.lt]; omega), h.lt, Nat.add_sub_cancel_left, List.getElem?_append_left hl]
  exact hx
theorem RowQ.behind_ (h : RowQ w rb T A N mb qb) (hx : N[i]? = some x) : w.cell? ⟨rb, 8196 + i, none⟩ = some (.int .i64 x) := by
  refine h.int_ ?_
  rw [List.getElem?_append_right (by rw [h.lt]; omega), h.lt, List.getElem?_append_right (by rw [h.la]; omega), h.la, show 8196 + i - 4098 - 4098 = i by omega]
  exact hx
theorem row_tail (hT : T.length = 4098) (hA : A.length = 4098) (hN : N.length = 4098) (j : Nat) : (rowC T A N mb qb).toArray[12294 + j]? = [Value.map (some mb), .pointer (some ⟨qb, 0, none⟩)][j]? := by
  have hl : ((T ++ (A ++ N)).map (Value.int .i64)).length = 12294 := by simp [hT, hA, hN]
  rw [List.getElem?_toArray, rowC, List.getElem?_append_right (by rw [hl]; omega), hl, Nat.add_sub_cancel_left]
theorem RowQ.map_ (h : RowQ w rb T A N mb qb) : w.cell? ⟨rb, 12294, none⟩ = some (.map (some mb)) := by
  rw [cell_of_row _ rb 12294 _ _ _ h.head, row_tail h.lt h.la h.ln 0]; rfl
theorem RowQ.queue_ (h : RowQ w rb T A N mb qb) : w.cell? ⟨rb, 12295, none⟩ = some (.pointer (some ⟨qb, 0, none⟩)) := by
  rw [cell_of_row _ rb 12295 _ _ _ h.head, row_tail h.lt h.la h.ln 1]; rfl
theorem row_set (hi : i < (T ++ (A ++ N)).length) (x : Int) : (rowC T A N mb qb).set i (.int .i64 x) = ((T ++ (A ++ N)).set i x).map (.int .i64) ++ [.map (some mb), .pointer (some ⟨qb, 0, none⟩)] := by
  unfold rowC
  rw [List.set_append_left _ _ (by simpa using hi), ← List.map_set]
theorem RowQ.setTok_ (h : RowQ w rb T A N mb qb) (hi : i < 4098) {x : Int} (hx : I64 x) : RowQ (w.setCell ⟨rb, i, none⟩ (.int .i64 x)) rb (T.set i x) A N mb qb := by
  refine ⟨?_, by rw [List.length_set]; exact h.lt, h.la, h.ln, fun y hy => ?_⟩
  · rw [heap_setCell_same w rb i _ _ _ h.head, List.setIfInBounds_toArray, row_set (by simp [h.lt, h.la, h.ln]; omega), List.set_append_left _ _ (by rw [h.lt]; exact hi)]
    rfl
  · rcases List.mem_or_eq_of_mem_set hy with h1 | h1
    · exact h.ok y h1
    · rw [h1]; exact hx
theorem RowQ.setAhead_ (h : RowQ w rb T A N mb qb) (hi : i < 4098) (x : Int) : RowQ (w.setCell ⟨rb, 4098 + i, none⟩ (.int .i64 x)) rb T (A.set i x) N mb qb := by
  refine ⟨?_, h.lt, by rw [List.length_set]; exact h.la, h.ln, h.ok⟩
  rw [heap_setCell_same w rb _ _ _ _ h.head, List.setIfInBounds_toArray, row_set (by simp [h.lt, h.la, h.ln]; omega), List.set_append_right _ _ (by rw [h.lt]; omega), h.lt, Nat.add_sub_cancel_left, List.set_append_left _ _ (by rw [h.la]; exact hi)]
  rfl
theorem RowQ.setBehind_ (h : RowQ w rb T A N mb qb) (hi : i < 4098) (x : Int) : RowQ (w.setCell ⟨rb, 8196 + i, none⟩ (.int .i64 x)) rb T A (N.set i x) mb qb := by
  refine ⟨?_, h.lt, h.la, by rw [List.length_set]; exact h.ln, h.ok⟩
  rw [heap_setCell_same w rb _ _ _ _ h.head, List.setIfInBounds_toArray, row_set (by simp [h.lt, h.la, h.ln]; omega), List.set_append_right _ _ (by rw [h.lt]; omega), h.lt, List.set_append_right _ _ (by rw [h.la]; omega), h.la, show 8196 + i - 4098 - 4098 = i by omega]
  rfl
theorem RowQ.drew_ (h : RowQ w rb T A N mb qb) : RowQ w.drew rb T A N mb qb := h.block_ rfl
end
/-- A row with its joins and its queue: what waits, how many came to wait; the blocks of both are told. -/
def RowT (w : World) (rb mb qb base : Nat) (F : Nat → Prop) (J : Int → Int → Option (Int × Nat)) (T A N : List Int) (S : List Pr) (m : Nat) : Prop :=
  ∃ (k : Nat), RowQ w rb T A N mb qb ∧ IsMp mpJ w mb k (fun x => J x.1 x.2) ∧ IsQP w F qb 84 #[] Bp.ltP S m ∧ ¬ F rb ∧ ¬ F mb ∧ base ≤ rb ∧ base ≤ mb ∧ ∀ j, F j → base ≤ j
/-- A row with its joins and its queue. -/
def RowS (w : World) (rb base : Nat) (J : Int → Int → Option (Int × Nat)) (T A N : List Int) (S : List Pr) (m : Nat) : Prop :=
  ∃ (mb qb : Nat) (F : Nat → Prop), RowT w rb mb qb base F J T A N S m
/-- How long a slice is. -/
def lenV : Value → Nat
  | .slice _ n _ => n
  | _ => 0
section
variable {w w' : World} {rb base m : Nat} {J : Int → Int → Option (Int × Nat)} {T A N : List Int} {S : List Pr}
section
variable {mb qb : Nat} {F G : Nat → Prop}
theorem RowT.row_ (h : RowT w rb mb qb base F J T A N S m) : RowQ w rb T A N mb qb := by
  obtain ⟨k, h1, -⟩ := h
  exact h1
theorem RowT.mlt_ (h : RowT w rb mb qb base F J T A N S m) : mb < w.heap.size := by
  obtain ⟨k, -, h1, -⟩ := h
  exact h1.lt_
theorem RowT.flt_ (h : RowT w rb mb qb base F J T A N S m) : ∀ j, F j → j < w.heap.size := by
  obtain ⟨k, -, -, h1, -⟩ := h
  exact h1.lt_
theorem RowT.turned_ (h : RowT w rb mb qb base F J T A N S m) (ht : Turned G w w') (h1 : ¬ G rb) (h2 : ¬ G mb) (h3 : ∀ j, j < w.heap.size → F j → ¬ G j) : RowT w' rb mb qb base F J T A N S m := by
  obtain ⟨k, g1, g2, g3, g4, g5, g6, g7, g8⟩ := h
  exact ⟨k, g1.block_ (ht.block rb g1.lt_ h1), g2.of_block (ht.block mb g2.lt_ h2), g3.turned_ ht h3, g4, g5, g6, g7, g8⟩
theorem RowT.to_ (h : RowT w rb mb qb base F J T A N S m) (hb : Below w.heap.size w w') : RowT w' rb mb qb base F J T A N S m :=
  h.turned_ (Turned.of_below hb) (by have := h.row_.lt_; omega) (by have := h.mlt_; omega) (fun j hj _ hk => by omega)
/-- What waits stands in its order. -/
theorem RowT.order_ (h : RowT w rb mb qb base F J T A N S m) : Qu.Row Bp.ltP S := by
  obtain ⟨k, -, -, ⟨A0, n, c, A, -, -, -, -, h5, -⟩, -⟩ := h
  exact h5.row
/-- The first of those that wait goes out. -/
theorem ppop_row (h : RowT w rb mb qb base F J T A N S m) (hm : m ≤ 4194304) :
    Calls Try.prog 86 #[.pointer (some ⟨qb, 0, none⟩)] w (fun e w' => e = .returned (.tuple #[prV (S.headD (⟨0, 0, 0, 0, 0, 0⟩ : Pr)), .bool (!S.isEmpty)]) ∧ ∃ F' : Nat → Prop, RowT w' rb mb qb base F' J T A N S.tail m ∧ Turned F w w' ∧ ∀ j, F' j → F j ∨ w.heap.size ≤ j) := by
  have hmlt := h.mlt_
  obtain ⟨k, h1, h2, h3, h4, h5, h6, h7, h8⟩ := h
  refine (ppopP h3 Bp.ltP_order (less_pairs _ _) hm).mono ?_
  rintro e w' ⟨he, F', hq, ht, hF⟩
  have hbs : base ≤ w.heap.size := by omega
  refine ⟨he, F', ⟨k, h1.block_ (ht.block rb h1.lt_ h4), h2.of_block (ht.block mb h2.lt_ h5), hq, fun h => ?_, fun h => ?_, h6, h7, fun j h => ?_⟩, ht, hF⟩
  · rcases hF rb h with h | h
    · exact h4 h
    · have := h1.lt_
      omega
  · rcases hF mb h with h | h
    · exact h5 h
    · omega
  · rcases hF j h with h | h
    · exact h8 j h
    · omega
end
theorem RowS.to_ (h : RowS w rb base J T A N S m) (hb : Below w.heap.size w w') : RowS w' rb base J T A N S m := by
  obtain ⟨mb, qb, F, h⟩ := h
  exact ⟨mb, qb, F, h.to_ hb⟩
theorem RowS.lt_ (h : RowS w rb base J T A N S m) : rb < w.heap.size := by
  obtain ⟨mb, qb, F, k, h1, -⟩ := h
  exact h1.lt_
theorem RowS.len_ (h : RowS w rb base J T A N S m) : T.length = 4098 ∧ A.length = 4098 ∧ N.length = 4098 := by
  obtain ⟨mb, qb, F, k, h1, -⟩ := h
  exact ⟨h1.lt, h1.la, h1.ln⟩
end
end Go.Proofs.Ytkialijipcbgkaa
namespace Go.Proofs.Ytkialijipcbgkaa
open Go.RowKit
set_option linter.unusedVariables false

namespace Zc
def isZ (v : Value) : Bool := match v with
  | .int k x => (match k with | .i64 => true | _ => false) && (match x with | .ofNat n => Nat.beq n 0 | .negSucc _ => false)
  | _ => false
theorem isZ_eq {v : Value} (h : isZ v = true) : v = .int .i64 0 := by
  unfold isZ at h
  split at h
  · rename_i k x
    rw [Bool.and_eq_true] at h
    obtain ⟨h1, h2⟩ := h
    split at h1
    · split at h2
      · rename_i n
        have := Nat.eq_of_beq_eq_true h2
        subst this
        rfl
      · cases h2
    · cases h1
  · cases h
/-- One zero, and what stands behind it. -/
def one (l : List Value) : Option (List Value) := match l with
  | [] => none
  | a :: r => bif isZ a then some r else none
def twice (f : List Value → Option (List Value)) (l : List Value) : Option (List Value) := match f l with
  | none => none
  | some r => f r
/-- Of so many zeros it tells what stands behind them. -/
def Tells (f : List Value → Option (List Value)) (n : Nat) : Prop := ∀ l r, f l = some r → l = List.replicate n (.int .i64 0) ++ r
theorem one_tells : Tells one 1 := by
  intro l r h
  unfold one at h
  split at h
  · cases h
  · rename_i a r'
    cases ha : isZ a with
    | false => rw [ha] at h; cases h
    | true =>
      rw [ha] at h
      cases h
      rw [isZ_eq ha]
      rfl
theorem Tells.twice {f : List Value → Option (List Value)} {n : Nat} (h : Tells f n) : Tells (twice f) (n + n) := by
  intro l r he
  unfold Zc.twice at he
  split at he
  · cases he
  · rename_i r' h1
    rw [h l r' h1, h r' r he, ← List.append_assoc, List.replicate_append_replicate]
def two := twice one
def b2 := twice two
def b3 := twice b2
def b4 := twice b3
def b5 := twice b4
def b6 := twice b5
def b7 := twice b6
def b8 := twice b7
def b9 := twice b8
def b10 := twice b9
def b11 := twice b10
def b12 := twice b11
def b13 := twice b12
theorem two_tells : Tells two 2 := one_tells.twice
theorem b2_tells : Tells b2 4 := two_tells.twice
theorem b12_tells : Tells b12 4096 := (((((((((b2_tells.twice).twice).twice).twice).twice).twice).twice).twice).twice).twice
theorem b13_tells : Tells b13 8192 := b12_tells.twice
/-- 8192 and 4096 and 4 and 2: 12294. -/
def all (l : List Value) : Option (List Value) := match b13 l with
  | none => none
  | some r => match b12 r with
    | none => none
    | some r => match b2 r with
      | none => none
      | some r => two r
theorem all_tells : Tells all 12294 := by
  intro l r he
  unfold all at he
  split at he
  · cases he
  · rename_i r1 h1
    split at he
    · cases he
    · rename_i r2 h2
      split at he
      · cases he
      · rename_i r3 h3
        rw [b13_tells _ _ h1, b12_tells _ _ h2, b2_tells _ _ h3, two_tells _ _ he]
        rw [← List.append_assoc, ← List.append_assoc, ← List.append_assoc, List.replicate_append_replicate, List.replicate_append_replicate, List.replicate_append_replicate]
end Zc

theorem zero_all : Zc.all Try.zeroCells121.toList = some [Value.map none, Value.pointer none] := by kernel_rfl
theorem zero_cells_row : Try.zeroCells121 = (List.replicate 12294 (Value.int .i64 0) ++ [Value.map none, Value.pointer none]).toArray := by
  rw [← Zc.all_tells _ _ zero_all]
end Go.Proofs.Ytkialijipcbgkaa
