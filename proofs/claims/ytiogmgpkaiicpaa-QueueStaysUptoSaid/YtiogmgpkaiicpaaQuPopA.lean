/-
  The program's queue of stook/stooklaw07.at: Peek, Pop (their results lie in boxes).
-/
import Derived.Test.YtiogmgpkaiicpaaQuDropA
namespace Go.Proofs.Ytiogmgpkaiicpaa
open Go.RowKit
set_option linter.unusedVariables false

theorem at_two : (Try.prog.info? 46).map (·.size) = some 2 := by kernel_rfl
theorem results_at {fn : Func} {p u : Tmp} (h : fn.results = #[.cell p 46, .tmp u]) (tmps : Array Value) (w : World) (g : Nat) (a b : Int) (t : TypeId) (x : Value)
    (hp : tmps.getD p undef = .pointer (some ⟨g, 0, none⟩)) (hx : tmps.getD u undef = x) (hg : w.heap[g]? = some (.cells #[.int .i64 a, .int .i64 b] t (0, 0))) :
    (results fn tmps).run Try.prog w = .ok (.tuple #[.agg #[.int .i64 a, .int .i64 b], x]) w := by
  have hp' : tmps[p]?.getD undef = .pointer (some ⟨g, 0, none⟩) := by simpa using hp
  have hx' : tmps[u]?.getD undef = x := by simpa using hx
  simp [results, h, hp', hx', asAddr, run_loadVar_row w g t _ _ (0, 0) _ hg Try.underlying46 rfl at_two]
/-- A box of a stooklaw07.at, set. -/
theorem box_set {w : World} {s : Nat} {a b : Int} (h : w.heap[s]? = some (.cells #[.int .i64 a, .int .i64 b] 46 (0, 0))) (c d : Int) :
    ((w.setCell ⟨s, 0, none⟩ (.int .i64 c)).setCell ⟨s, 1, none⟩ (.int .i64 d)).heap[s]? = some (.cells #[.int .i64 c, .int .i64 d] 46 (0, 0)) := by
  rw [heap_setCell_same _ s 1 _ _ _ (heap_setCell_same w s 0 _ _ _ h)]; rfl
theorem box_cells {w : World} {s : Nat} {a b : Int} (h : w.heap[s]? = some (.cells #[.int .i64 a, .int .i64 b] 46 (0, 0))) : w.cell? ⟨s, 0, none⟩ = some (.int .i64 a) ∧ w.cell? ⟨s, 1, none⟩ = some (.int .i64 b) ∧ w.frozen? ⟨s, 0, none⟩ = false ∧ w.frozen? ⟨s, 1, none⟩ = false :=
  ⟨by rw [cell_of_row _ _ 0 _ _ _ h]; rfl, by rw [cell_of_row _ _ 1 _ _ _ h]; rfl, frozen_of_row w s 0 _ _ h, frozen_of_row w s 1 _ _ h⟩
theorem box_turned {w : World} {s : Nat} {F : Nat → Prop} {w0 : World} (h : Turned F w0 w) (hs : w0.heap.size ≤ s) (u v : Value) : Turned F w0 ((w.setCell ⟨s, 0, none⟩ u).setCell ⟨s, 1, none⟩ v) :=
  (h.setCell (p := ⟨s, 0, none⟩) (fun h => absurd h (by show ¬ s < _; omega)) u).setCell (p := ⟨s, 1, none⟩) (fun h => absurd h (by show ¬ s < _; omega)) v

set_option maxHeartbeats 2000000 in
theorem ppeek_noneA {w : World} {qb m fn : Nat} {caps : Array Value} {A0 : Option Addr} {c : Nat} (h : HeadA w qb fn caps (.slice A0 0 c) m) :
    Calls Try.prog 40 #[.pointer (some ⟨qb, 0, none⟩)] w (fun e w' => e = .returned (.tuple #[.agg #[.int .i64 0, .int .i64 0], .bool false]) ∧ Below w.heap.size w w') := by
  obtain ⟨s, hs⟩ : ∃ s, w.heap.size = s := ⟨_, rfl⟩
  obtain ⟨W1, hW1⟩ : ∃ W, w.alloc (.cells #[.int .i64 0, .int .i64 0] 46) = W := ⟨_, rfl⟩
  have t1 : Turned (fun _ => False) w W1 := by rw [← hW1]; exact (Turned.refl _ w).alloc _
  have b1 : W1.heap[s]? = some (.cells #[.int .i64 0, .int .i64 0] 46 (0, 0)) := by rw [← hW1, ← hs]; exact heap_alloc_new w _
  have s1 : W1.heap.size = s + 1 := by rw [← hW1, ← hs]; simp
  obtain ⟨W2, hW2⟩ : ∃ W, W1.alloc (.cells #[.int .i64 0, .int .i64 0] 46) = W := ⟨_, rfl⟩
  have t2 : Turned (fun _ => False) w W2 := by rw [← hW2]; exact t1.alloc _
  have t12 : Turned (fun _ => False) W1 W2 := by rw [← hW2]; exact (Turned.refl _ W1).alloc _
  have b2 := (t12.block s (by omega) (fun h => h)).trans b1
  have c2 : W2.heap[s + 1]? = some (.cells #[.int .i64 0, .int .i64 0] 46 (0, 0)) := by rw [← hW2, ← s1]; exact heap_alloc_new W1 _
  obtain ⟨x0, x1, f0, f1⟩ := box_cells b2
  obtain ⟨y0, y1, _, _⟩ := box_cells c2
  obtain ⟨W3, hW3⟩ : ∃ W, (W2.setCell ⟨s, 0, none⟩ (.int .i64 0)).setCell ⟨s, 1, none⟩ (.int .i64 0) = W := ⟨_, rfl⟩
  have HB3 : Hid (W3.heap[s]? = some (.cells #[.int .i64 0, .int .i64 0] 46 (0, 0))) := by unfold Hid; rw [← hW3]; exact box_set b2 0 0
  have HT3 : Hid (Turned (fun _ => False) w W3) := by unfold Hid; rw [← hW3]; exact box_turned t2 (by omega) _ _
  have HM := Lib.hid (plenA' (h.block_ (t1.block qb h.lt_ (fun h => h))))
  clear h t1 b1 t2 t12 b2 c2
  go_enter Try.func40, Try.ntmps40
  go_wp2_with (fail)
  refine (HM.out).mono ?_
  rintro e w1 ⟨rfl, rfl⟩
  go_wp2
  refine bodyPost_ret (results_at (fn := Try.f40) rfl _ _ s 0 0 _ (.bool false) rfl rfl HB3.out) rfl ⟨rfl, HT3.out.below (Nat.le_refl _) (fun _ h => h.elim)⟩

set_option maxHeartbeats 2000000 in
theorem ppeek_someA {w : World} {qb g n c m fn : Nat} {caps : Array Value} {A : List ((Int × Int) × Nat)} (h : HasA w qb g n c A m fn caps) (h0 : 0 < n) {ra rb : Int} {rn : Nat} (hr : A[0]? = some ((ra, rb), rn)) :
    Calls Try.prog 40 #[.pointer (some ⟨qb, 0, none⟩)] w (fun e w' => e = .returned (.tuple #[.agg #[.int .i64 ra, .int .i64 rb], .bool true]) ∧ Below w.heap.size w w') := by
  obtain ⟨s, hs⟩ : ∃ s, w.heap.size = s := ⟨_, rfl⟩
  obtain ⟨W1, hW1⟩ : ∃ W, w.alloc (.cells #[.int .i64 0, .int .i64 0] 46) = W := ⟨_, rfl⟩
  have t1 : Turned (fun _ => False) w W1 := by rw [← hW1]; exact (Turned.refl _ w).alloc _
  have b1 : W1.heap[s]? = some (.cells #[.int .i64 0, .int .i64 0] 46 (0, 0)) := by rw [← hW1, ← hs]; exact heap_alloc_new w _
  obtain ⟨x0, x1, f0, f1⟩ := box_cells b1
  have hh := h.below_ (t1.below (Nat.le_refl _) (fun _ h => h.elim))
  have HM := Lib.hid (plenA' hh.head)
  have hd1 := hh.head.list
  obtain ⟨r0, r1, r2, hro⟩ := hh.has hr
  simp only [Nat.zero_mul, Nat.zero_add] at r0 r1 r2
  obtain ⟨W3, hW3⟩ : ∃ W, (W1.setCell ⟨s, 0, none⟩ (.int .i64 ra)).setCell ⟨s, 1, none⟩ (.int .i64 rb) = W := ⟨_, rfl⟩
  have HB3 : Hid (W3.heap[s]? = some (.cells #[.int .i64 ra, .int .i64 rb] 46 (0, 0))) := by unfold Hid; rw [← hW3]; exact box_set b1 ra rb
  have HT3 : Hid (Turned (fun _ => False) w W3) := by unfold Hid; rw [← hW3]; exact box_turned t1 (by omega) _ _
  have h0' : (0 : Int) < (n : Int) := by omega
  have hne : ((n : Int) == 0) = false := by rw [beq_eq_false_iff_ne]; omega
  have hne2 : ¬ (n : Int) = 0 := by omega
  clear h hr hro hh t1 b1
  go_enter Try.func40, Try.ntmps40
  go_wp2_with (fail)
  refine (HM.out).mono ?_
  rintro e w1 ⟨rfl, rfl⟩
  go_wp2
  refine bodyPost_ret (results_at (fn := Try.f40) rfl _ _ s ra rb _ (.bool true) rfl rfl HB3.out) rfl ⟨rfl, HT3.out.below (Nat.le_refl _) (fun _ h => h.elim)⟩

set_option maxHeartbeats 2000000 in
theorem ppop_noneA {w : World} {qb m fn : Nat} {caps : Array Value} {A0 : Option Addr} {c : Nat} (h : HeadA w qb fn caps (.slice A0 0 c) m) :
    Calls Try.prog 26 #[.pointer (some ⟨qb, 0, none⟩)] w (fun e w' => e = .returned (.tuple #[.agg #[.int .i64 0, .int .i64 0], .bool false]) ∧ Below w.heap.size w w') := by
  obtain ⟨s, hs⟩ : ∃ s, w.heap.size = s := ⟨_, rfl⟩
  obtain ⟨W1, hW1⟩ : ∃ W, w.alloc (.cells #[.int .i64 0, .int .i64 0] 46) = W := ⟨_, rfl⟩
  have t1 : Turned (fun _ => False) w W1 := by rw [← hW1]; exact (Turned.refl _ w).alloc _
  have b1 : W1.heap[s]? = some (.cells #[.int .i64 0, .int .i64 0] 46 (0, 0)) := by rw [← hW1, ← hs]; exact heap_alloc_new w _
  have HM := Lib.hid (ppeek_noneA (h.block_ (t1.block qb h.lt_ (fun h => h))))
  have HT1 := Lib.hid t1
  have HB1 := Lib.hid b1
  have HS1 : Hid (s < W1.heap.size) := (Array.getElem?_eq_some_iff.1 b1).1
  clear h t1 b1
  go_enter Try.func26, Try.ntmps26
  go_wp2_with (fail)
  refine (HM.out).mono ?_
  rintro e w2 ⟨rfl, hb⟩
  obtain ⟨t, ht⟩ : ∃ t, w2.heap.size = t := ⟨_, rfl⟩
  have hst : s < t := by have := HS1.out; have := hb.size; omega
  obtain ⟨W3, hW3⟩ : ∃ W, w2.alloc (.cells #[.int .i64 0, .int .i64 0] 46) = W := ⟨_, rfl⟩
  have b3 : W3.heap[t]? = some (.cells #[.int .i64 0, .int .i64 0] 46 (0, 0)) := by rw [← hW3, ← ht]; exact heap_alloc_new w2 _
  have tt3 : Turned (fun _ => False) w2 W3 := by rw [← hW3]; exact (Turned.refl _ w2).alloc _
  have t3 : Turned (fun _ => False) w W3 := HT1.out.trans ((Turned.of_below hb).trans tt3 (fun _ _ h => h.elim)) (fun k h1 h2 => by have h2 : W1.heap.size ≤ k := h2; have := HT1.out.size; omega)
  have c3 : W3.heap[s]? = some (.cells #[.int .i64 0, .int .i64 0] 46 (0, 0)) := (tt3.block s (by omega) (fun h => h)).trans ((hb.block s HS1.out).trans HB1.out)
  obtain ⟨y0, y1, g0, g1⟩ := box_cells b3
  obtain ⟨W4, hW4⟩ : ∃ W, (W3.setCell ⟨t, 0, none⟩ (.int .i64 0)).setCell ⟨t, 1, none⟩ (.int .i64 0) = W := ⟨_, rfl⟩
  have b4 : W4.heap[t]? = some (.cells #[.int .i64 0, .int .i64 0] 46 (0, 0)) := by rw [← hW4]; exact box_set b3 0 0
  have t4 : Turned (fun _ => False) w W4 := by rw [← hW4]; exact box_turned t3 (by omega) _ _
  have c4 : W4.heap[s]? = some (.cells #[.int .i64 0, .int .i64 0] 46 (0, 0)) := by
    rw [← hW4]
    exact (heap_setCell_other _ _ _ _ (by show s ≠ t; omega)).trans ((heap_setCell_other _ _ _ _ (by show s ≠ t; omega)).trans c3)
  obtain ⟨z0, z1, _, _⟩ := box_cells b4
  obtain ⟨x0, x1, f0, f1⟩ := box_cells c4
  obtain ⟨W5, hW5⟩ : ∃ W, (W4.setCell ⟨s, 0, none⟩ (.int .i64 0)).setCell ⟨s, 1, none⟩ (.int .i64 0) = W := ⟨_, rfl⟩
  have HB5 : Hid (W5.heap[s]? = some (.cells #[.int .i64 0, .int .i64 0] 46 (0, 0))) := by unfold Hid; rw [← hW5]; exact box_set c4 0 0
  have HT5 : Hid (Turned (fun _ => False) w W5) := by unfold Hid; rw [← hW5]; exact box_turned t4 (by omega) _ _
  clear hb b3 tt3 t3 c3 b4 t4 c4 HM
  go_wp2
  refine bodyPost_ret (results_at (fn := Try.f26) rfl _ _ s 0 0 _ (.bool false) rfl rfl HB5.out) rfl ⟨rfl, HT5.out.below (Nat.le_refl _) (fun _ h => h.elim)⟩

set_option maxHeartbeats 2000000 in
theorem ppop_someA {w : World} {qb g n c m fn : Nat} {caps : Array Value} {A : List ((Int × Int) × Nat)} {lt : (Int × Int) → (Int × Int) → Bool} (h : HasA w qb g n c A m fn caps) (ho : Qu.Order lt) (hl : Less atV AtOk fn caps lt w (fun k => k = qb ∨ k = g)) (hh : Qu.IsHeap lt A) (h0 : 0 < n) (hn : n ≤ 8388608) {ra rb : Int} {rn : Nat} (hr : A[0]? = some ((ra, rb), rn)) :
    Calls Try.prog 26 #[.pointer (some ⟨qb, 0, none⟩)] w (fun e w' => e = .returned (.tuple #[.agg #[.int .i64 ra, .int .i64 rb], .bool true]) ∧ ∃ A', (((ra, rb), rn) :: A').Perm A ∧ Qu.IsHeap lt A' ∧ HasA w' qb g (n - 1) c A' m fn caps ∧ Turned (fun k => k = qb ∨ k = g) w w') := by
  obtain ⟨j, rfl⟩ : ∃ j, n = j + 1 := ⟨n - 1, by omega⟩
  have hbq : qb < w.heap.size := h.head.lt_
  have hbg : g < w.heap.size := (h.own.lt_ g rfl).2
  obtain ⟨s, hs⟩ : ∃ s, w.heap.size = s := ⟨_, rfl⟩
  obtain ⟨W1, hW1⟩ : ∃ W, w.alloc (.cells #[.int .i64 0, .int .i64 0] 46) = W := ⟨_, rfl⟩
  have t1 : Turned (fun _ => False) w W1 := by rw [← hW1]; exact (Turned.refl _ w).alloc _
  have b1 : W1.heap[s]? = some (.cells #[.int .i64 0, .int .i64 0] 46 (0, 0)) := by rw [← hW1, ← hs]; exact heap_alloc_new w _
  have h1 := h.below_ (t1.below (Nat.le_refl _) (fun _ h => h.elim))
  have HM := Lib.hid (ppeek_someA h1 h0 hr)
  have HT1 := Lib.hid t1
  have HB1 := Lib.hid b1
  have HS1 : Hid (s < W1.heap.size) := (Array.getElem?_eq_some_iff.1 b1).1
  have HH := Lib.hid h1
  have HL := Lib.hid hl
  have HR := Lib.hid hr
  have HO := Lib.hid ho
  have HHH := Lib.hid hh
  clear h hl hr ho hh t1 b1 h1
  go_enter Try.func26, Try.ntmps26
  go_wp2_with (fail)
  refine (HM.out).mono ?_
  rintro e w2 ⟨rfl, hb⟩
  obtain ⟨t, ht⟩ : ∃ t, w2.heap.size = t := ⟨_, rfl⟩
  have hst : s < t := by have := HS1.out; have := hb.size; omega
  obtain ⟨W3, hW3⟩ : ∃ W, w2.alloc (.cells #[.int .i64 0, .int .i64 0] 46) = W := ⟨_, rfl⟩
  have b3 : W3.heap[t]? = some (.cells #[.int .i64 0, .int .i64 0] 46 (0, 0)) := by rw [← hW3, ← ht]; exact heap_alloc_new w2 _
  have tt3 : Turned (fun _ => False) w2 W3 := by rw [← hW3]; exact (Turned.refl _ w2).alloc _
  have t13 : Turned (fun k => W1.heap.size ≤ k) W1 W3 := (Turned.of_below hb).trans tt3 (fun _ _ h => h.elim)
  have t3 : Turned (fun _ => False) w W3 := HT1.out.trans t13 (fun k h1 h2 => by have h2 : W1.heap.size ≤ k := h2; have := HT1.out.size; omega)
  have c3 : W3.heap[s]? = some (.cells #[.int .i64 0, .int .i64 0] 46 (0, 0)) := (tt3.block s (by omega) (fun h => h)).trans ((hb.block s HS1.out).trans HB1.out)
  obtain ⟨y0, y1, g0, g1⟩ := box_cells b3
  obtain ⟨W4, hW4⟩ : ∃ W, (W3.setCell ⟨t, 0, none⟩ (.int .i64 ra)).setCell ⟨t, 1, none⟩ (.int .i64 rb) = W := ⟨_, rfl⟩
  have b4 : W4.heap[t]? = some (.cells #[.int .i64 ra, .int .i64 rb] 46 (0, 0)) := by rw [← hW4]; exact box_set b3 ra rb
  have t4 : Turned (fun _ => False) w W4 := by rw [← hW4]; exact box_turned t3 (by omega) _ _
  have t14 : Turned (fun k => W1.heap.size ≤ k) W1 W4 := by rw [← hW4]; exact box_turned t13 (by have := hb.size; omega) _ _
  have c4 : W4.heap[s]? = some (.cells #[.int .i64 0, .int .i64 0] 46 (0, 0)) := by
    rw [← hW4]
    exact (heap_setCell_other _ _ _ _ (by show s ≠ t; omega)).trans ((heap_setCell_other _ _ _ _ (by show s ≠ t; omega)).trans c3)
  have HB4 := Lib.hid b4
  have HC4 := Lib.hid c4
  have HT4 := Lib.hid t4
  have HD := Lib.hid (pdropA (HH.out.below_ (t14.below (Nat.le_refl _) (fun _ h => h))) HO.out (HL.out.step (t4.mono (fun _ _ h => h.elim)) (fun _ _ h => h)) HHH.out hn HR.out)
  clear hb b3 tt3 t3 t13 c3 b4 t4 t14 c4 HM
  go_wp2_with (fail)
  refine (HD.out).mono ?_
  rintro e w5 ⟨rfl, A', h1, h2, h3, h4⟩
  have b5 := (h4.block t (Array.getElem?_eq_some_iff.1 HB4.out).1 (by omega)).trans HB4.out
  have c5 := (h4.block s (Array.getElem?_eq_some_iff.1 HC4.out).1 (by omega)).trans HC4.out
  have t5 : Turned (fun k => k = qb ∨ k = g) w w5 := (HT4.out.mono (fun _ _ h => h.elim)).trans h4 (fun _ _ h => h)
  obtain ⟨z0, z1, _, _⟩ := box_cells b5
  obtain ⟨x0, x1, f0, f1⟩ := box_cells c5
  obtain ⟨W6, hW6⟩ : ∃ W, (w5.setCell ⟨s, 0, none⟩ (.int .i64 ra)).setCell ⟨s, 1, none⟩ (.int .i64 rb) = W := ⟨_, rfl⟩
  have HB6 : Hid (W6.heap[s]? = some (.cells #[.int .i64 ra, .int .i64 rb] 46 (0, 0))) := by unfold Hid; rw [← hW6]; exact box_set c5 ra rb
  have HT6 : Hid (Turned (fun k => k = qb ∨ k = g) w W6) := by unfold Hid; rw [← hW6]; exact box_turned t5 (by omega) _ _
  have h6 : HasA W6 qb g j c A' m fn caps := by
    have tt : Turned (fun k => k = s) w5 W6 := by rw [← hW6]; exact ((Turned.refl (fun k => k = s) w5).setCell (p := ⟨s, 0, none⟩) (fun _ => rfl) _).setCell (p := ⟨s, 1, none⟩) (fun _ => rfl) _
    exact ⟨h3.head.block_ (tt.block qb h3.head.lt_ (by omega)), h3.own.turned_ tt (fun k hk => by have e : g = k := Option.some.inj hk; show ¬ k = s; omega), h3.apart, h3.len⟩
  have HE := Lib.hid (show ∃ A', (((ra, rb), rn) :: A').Perm A ∧ Qu.IsHeap lt A' ∧ HasA W6 qb g (j + 1 - 1) c A' m fn caps ∧ Turned (fun k => k = qb ∨ k = g) w W6 from ⟨A', h1, h2, h6, HT6.out⟩)
  clear h1 h2 h3 h4 HD t5 h6 b5 c5
  go_wp2
  refine bodyPost_ret (results_at (fn := Try.f26) rfl _ _ s ra rb _ (.bool true) rfl rfl HB6.out) rfl ⟨rfl, HE.out⟩
end Go.Proofs.Ytiogmgpkaiicpaa
