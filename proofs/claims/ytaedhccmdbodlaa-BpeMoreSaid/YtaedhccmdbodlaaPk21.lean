/-
  QuDropP: The program's queue of stook/bpe.pair: drop.
  QuPopP: The program's queue of stook/bpe.pair: Peek, Pop (their results lie in boxes).
  QuIsP: The program's queue of stook/bpe.pair: what it holds, in the order in which it goes out; its functions by that.
-/
import Derived.Test.YtaedhccmdbodlaaPk20
import Derived.Test.YtaedhccmdbodlaaPk19
namespace Go.Proofs.Ytaedhccmdbodlaa
open Go.RowKit
set_option linter.unusedVariables false

set_option maxRecDepth 100000 in
set_option maxHeartbeats 4000000 in
theorem pdropP {w : World} {qb g j c m fn : Nat} {caps : Array Value} {A : List (Pr × Nat)} {lt : Pr → Pr → Bool} (h : HasP w qb g (j + 1) c A m fn caps) (ho : Qu.Order lt) (hl : Less prV PrOk fn caps lt w (fun k => k = qb ∨ k = g)) (hh : Qu.IsHeap lt A) (hn : j + 1 ≤ 8388608) {r : Pr × Nat} (hr : A[0]? = some r) :
    Calls Try.prog 62 #[.pointer (some ⟨qb, 0, none⟩)] w (fun e w' => e = .returned (.tuple #[]) ∧ ∃ A', (r :: A').Perm A ∧ Qu.IsHeap lt A' ∧ HasP w' qb g j c A' m fn caps ∧ Turned (fun k => k = qb ∨ k = g) w w') := by
  have hlen := h.len
  obtain ⟨⟨⟨za, zb, zc, zd, ze, zf⟩, zn⟩, hz⟩ : ∃ z, A[j]? = some z := ⟨_, List.getElem?_eq_getElem (by omega)⟩
  obtain ⟨
  z0,
  z1,
  z2,
  z3,
  z4,
  z5,
  z6,
  hzo⟩ := h.has hz
  simp only at z0
  simp only at z1
  simp only at z2
  simp only at z3
  simp only at z4
  simp only at z5
  simp only at z6
  obtain ⟨
  r0,
  r1,
  r2,
  r3,
  r4,
  r5,
  r6,
  hro⟩ := h.has hr
  simp only [Nat.zero_mul] at r0
  simp only [Nat.zero_mul, Nat.zero_add] at r1
  simp only [Nat.zero_mul, Nat.zero_add] at r2
  simp only [Nat.zero_mul, Nat.zero_add] at r3
  simp only [Nat.zero_mul, Nat.zero_add] at r4
  simp only [Nat.zero_mul, Nat.zero_add] at r5
  simp only [Nat.zero_mul, Nat.zero_add] at r6
  have hd1 := h.head.list
  have hcool := h.own.cool_
  have f0 := hcool 0
  have f1 := hcool 1
  have f2 := hcool 2
  have f3 := hcool 3
  have f4 := hcool 4
  have f5 := hcool 5
  have f6 := hcool 6
  obtain ⟨hs1, ht1⟩ := h.set (j := 0) (by omega) hzo
  simp only [Nat.zero_mul, Nat.zero_add] at hs1 ht1
  have hs1 := hs1.drew_
  have ht1 := ht1.drew
  have hp := Qu.pop_perm (z := ((⟨za, zb, zc, zd, ze, zf⟩ : Pr), zn)) hr (by rw [hlen]; exact hz)
  rw [hlen] at hp
  have HP := Lib.hid hp
  have hdn := Qu.Down.pop hh ((⟨za, zb, zc, zd, ze, zf⟩ : Pr), zn)
  rw [hlen] at hdn
  have HDN := Lib.hid hdn
  have HL := Lib.hid hl
  have HO := Lib.hid ho
  have HNE := Lib.hid h.apart
  have HLEN := Lib.hid hlen
  obtain ⟨n, hnn⟩ : ∃ n, j + 1 = n := ⟨_, rfl⟩
  rw [hnn] at hd1 hs1
  have hj : (j : Int) < (n : Int) := by omega
  have h0 : (0 : Int) < (n : Int) := by omega
  have h0n : 0 < n := by omega
  have hwj : IntKind.i64.wrap ((n : Int) - 1) = (j : Int) := by rw [IntKind.wrap_i64]; omega
  have HS1 := Lib.hid hs1
  have HT1 := Lib.hid ht1
  have HN := Lib.hid hnn
  clear hs1 ht1 hp hdn hr hz hl ho hh hzo hro h hlen hcool hnn
  go_enter Try.func62, Try.ntmps62
  go_wp2_with (fail)
  go_region
  generalize (((((((w.setCell ⟨g, 0, none⟩ (.int .i64 za)).setCell ⟨g, 1, none⟩ (.int .i64 zb)).setCell ⟨g, 2, none⟩ (.int .i64 zc)).setCell ⟨g, 3, none⟩ (.int .i64 zd)).setCell ⟨g, 4, none⟩ (.int .i64 ze)).setCell ⟨g, 5, none⟩ (.int .u32 (zf : Nat))).setCell ⟨g, 6, none⟩ (.int .u64 (zn : Nat))).drew = w2 at *
  clear hd1
  clear z0 f0 r0
  clear z1 f1 r1
  clear z2 f2 r2
  clear z3 f3 r3
  clear z4 f4 r4
  clear z5 f5 r5
  clear z6 f6 r6
  have hd1 := HS1.out.head.list
  have hcool := HS1.out.own.cool_
  obtain ⟨⟨⟨oa, ob, oc, od, oe, of⟩, on⟩, hor⟩ : ∃ r, (A.set 0 ((⟨za, zb, zc, zd, ze, zf⟩ : Pr), zn))[j]? = some r := ⟨_, List.getElem?_eq_getElem (by rw [List.length_set]; have := HLEN.out; omega)⟩
  obtain ⟨
  o0,
  o1,
  o2,
  o3,
  o4,
  o5,
  o6,
  hoo⟩ := HS1.out.has hor
  simp only at o0
  simp only at o1
  simp only at o2
  simp only at o3
  simp only at o4
  simp only at o5
  simp only at o6
  have f0 := hcool (j * 7)
  have f1 := hcool (j * 7 + 1)
  have f2 := hcool (j * 7 + 2)
  have f3 := hcool (j * 7 + 3)
  have f4 := hcool (j * 7 + 4)
  have f5 := hcool (j * 7 + 5)
  have f6 := hcool (j * 7 + 6)
  obtain ⟨hs3, ht3⟩ := HS1.out.set (j := j) (by have := HN.out; omega) (x := ((⟨0, 0, 0, 0, 0, 0⟩ : Pr), 0)) qPK.okz
  have ht3 := HT1.out.trans ht3 (fun _ _ h => h)
  obtain ⟨w3, hw3⟩ : ∃ w3, ((((((w2.setCell ⟨g, j * 7, none⟩ (.int .i64 0)).setCell ⟨g, j * 7 + 1, none⟩ (.int .i64 0)).setCell ⟨g, j * 7 + 2, none⟩ (.int .i64 0)).setCell ⟨g, j * 7 + 3, none⟩ (.int .i64 0)).setCell ⟨g, j * 7 + 4, none⟩ (.int .i64 0)).setCell ⟨g, j * 7 + 5, none⟩ (.int .u32 0)).setCell ⟨g, j * 7 + 6, none⟩ (.int .u64 0) = w3 := ⟨_, rfl⟩
  have hs3' : HasP w3 qb g n c ((A.set 0 ((⟨za, zb, zc, zd, ze, zf⟩ : Pr), zn)).set j ((⟨0, 0, 0, 0, 0, 0⟩ : Pr), 0)) m fn caps := by rw [← hw3]; exact hs3
  have HT3' : Hid (Turned (fun k => k = qb ∨ k = g) w w3) := by rw [← hw3]; exact ht3
  have c3 := hs3'.head.list
  have f9 := hs3'.head.cool 1
  have ht4 := HT3'.out.setCell (p := ⟨qb, 1, none⟩) (fun _ => .inl rfl) (.slice (some ⟨g, 0, none⟩) j c)
  have hh4 := hs3'.head.setList (.slice (some ⟨g, 0, none⟩) j c)
  have ho4 := (hs3'.own.take_ (k := j) (by have := HLEN.out; simp; omega)).of_block (w' := w3.setCell ⟨qb, 1, none⟩ (.slice (some ⟨g, 0, none⟩) j c)) (fun k hk => heap_setCell_other _ _ _ _ (by have e : g = k := Option.some.inj hk; have := HNE.out; show k ≠ qb; omega))
  obtain ⟨w4, hw4⟩ : ∃ w4, w3.setCell ⟨qb, 1, none⟩ (.slice (some ⟨g, 0, none⟩) j c) = w4 := ⟨_, rfl⟩
  rw [hw4] at ht4 hh4 ho4
  have htk : ((A.set 0 ((⟨za, zb, zc, zd, ze, zf⟩ : Pr), zn)).set j ((⟨0, 0, 0, 0, 0, 0⟩ : Pr), 0)).take j = (A.set 0 ((⟨za, zb, zc, zd, ze, zf⟩ : Pr), zn)).take j := List.take_set_of_le (Nat.le_refl _)
  rw [htk] at ho4
  have hq4 : HasP w4 qb g j c ((A.set 0 ((⟨za, zb, zc, zd, ze, zf⟩ : Pr), zn)).take j) m fn caps := ⟨hh4, ho4, HNE.out, by have := HLEN.out; simp; omega⟩
  have HDW := Lib.hid (psinkP hq4 HO.out (HL.out.step ht4 (fun _ _ h => h)) HDN.out (by omega))
  have HT4 := Lib.hid ht4
  have hbd : (j : Int) ≤ (c : Int) := by have := hs3'.own.form_.len_; have := HN.out; omega
  clear hor hoo hs3 ht3 hs3' ht4 hh4 ho4 hq4 htk HT3' HDN hcool
  go_wp2_with (fail)
  refine (HDW.out).mono ?_
  rintro e w5 ⟨rfl, A2, hp2, hheap, hq5, ht5⟩
  have HE := Lib.hid (show ∃ A', (r :: A').Perm A ∧ Qu.IsHeap lt A' ∧ HasP w5 qb g j c A' m fn caps ∧ Turned (fun k => k = qb ∨ k = g) w w5 from
    ⟨A2, (hp2.cons _).trans HP.out, hheap, hq5, HT4.out.trans ht5 (fun _ _ h => h)⟩)
  clear hp2 hheap hq5 ht5 HDW HT4 c3 f9 hd1
  go_wp2
  go_end0
  exact ⟨rfl, HE.out⟩

end Go.Proofs.Ytaedhccmdbodlaa
namespace Go.Proofs.Ytaedhccmdbodlaa
open Go.RowKit
set_option linter.unusedVariables false

theorem at_manyP : (Try.prog.info? 79).map (·.size) = some 6 := by kernel_rfl
theorem results_atP {fn : Func} {p u : Tmp} (h : fn.results = #[.cell p 79, .tmp u]) (tmps : Array Value) (w : World) (g : Nat) (aa : Int) (ab : Int) (ac : Int) (ad : Int) (ae : Int) (af : Nat) (t : TypeId) (x : Value)
    (hp : tmps.getD p undef = .pointer (some ⟨g, 0, none⟩)) (hx : tmps.getD u undef = x) (hg : w.heap[g]? = some (.cells #[.int .i64 aa, .int .i64 ab, .int .i64 ac, .int .i64 ad, .int .i64 ae, .int .u32 (af : Nat)] t (0, 0))) :
    (results fn tmps).run Try.prog w = .ok (.tuple #[.agg #[.int .i64 aa, .int .i64 ab, .int .i64 ac, .int .i64 ad, .int .i64 ae, .int .u32 (af : Nat)], x]) w := by
  have hp' : tmps[p]?.getD undef = .pointer (some ⟨g, 0, none⟩) := by simpa using hp
  have hx' : tmps[u]?.getD undef = x := by simpa using hx
  simp [results, h, hp', hx', asAddr, run_loadVar_row w g t _ _ (0, 0) _ hg Try.underlying79 rfl at_manyP]
/-- A box of a thing, set. -/
theorem box_setP {w : World} {s : Nat} {aa : Int} {ab : Int} {ac : Int} {ad : Int} {ae : Int} {af : Nat} (h : w.heap[s]? = some (.cells #[.int .i64 aa, .int .i64 ab, .int .i64 ac, .int .i64 ad, .int .i64 ae, .int .u32 (af : Nat)] 79 (0, 0))) (ca : Int) (cb : Int) (cc : Int) (cd : Int) (ce : Int) (cf : Nat) :
    ((((((w.setCell ⟨s, 0, none⟩ (.int .i64 ca)).setCell ⟨s, 1, none⟩ (.int .i64 cb)).setCell ⟨s, 2, none⟩ (.int .i64 cc)).setCell ⟨s, 3, none⟩ (.int .i64 cd)).setCell ⟨s, 4, none⟩ (.int .i64 ce)).setCell ⟨s, 5, none⟩ (.int .u32 (cf : Nat))).heap[s]? = some (.cells #[.int .i64 ca, .int .i64 cb, .int .i64 cc, .int .i64 cd, .int .i64 ce, .int .u32 (cf : Nat)] 79 (0, 0)) := by
  rw [heap_setCell_same _ s 5 _ _ _ (heap_setCell_same _ s 4 _ _ _ (heap_setCell_same _ s 3 _ _ _ (heap_setCell_same _ s 2 _ _ _ (heap_setCell_same _ s 1 _ _ _ (heap_setCell_same _ s 0 _ _ _ h)))))]; rfl
theorem box_cellsP {w : World} {s : Nat} {aa : Int} {ab : Int} {ac : Int} {ad : Int} {ae : Int} {af : Nat} (h : w.heap[s]? = some (.cells #[.int .i64 aa, .int .i64 ab, .int .i64 ac, .int .i64 ad, .int .i64 ae, .int .u32 (af : Nat)] 79 (0, 0))) : w.cell? ⟨s, 0, none⟩ = some (.int .i64 aa) ∧ w.cell? ⟨s, 1, none⟩ = some (.int .i64 ab) ∧ w.cell? ⟨s, 2, none⟩ = some (.int .i64 ac) ∧ w.cell? ⟨s, 3, none⟩ = some (.int .i64 ad) ∧ w.cell? ⟨s, 4, none⟩ = some (.int .i64 ae) ∧ w.cell? ⟨s, 5, none⟩ = some (.int .u32 (af : Nat)) ∧ w.frozen? ⟨s, 0, none⟩ = false ∧ w.frozen? ⟨s, 1, none⟩ = false ∧ w.frozen? ⟨s, 2, none⟩ = false ∧ w.frozen? ⟨s, 3, none⟩ = false ∧ w.frozen? ⟨s, 4, none⟩ = false ∧ w.frozen? ⟨s, 5, none⟩ = false :=
  ⟨by rw [cell_of_row _ _ 0 _ _ _ h]; rfl, by rw [cell_of_row _ _ 1 _ _ _ h]; rfl, by rw [cell_of_row _ _ 2 _ _ _ h]; rfl, by rw [cell_of_row _ _ 3 _ _ _ h]; rfl, by rw [cell_of_row _ _ 4 _ _ _ h]; rfl, by rw [cell_of_row _ _ 5 _ _ _ h]; rfl, frozen_of_row w s 0 _ _ h, frozen_of_row w s 1 _ _ h, frozen_of_row w s 2 _ _ h, frozen_of_row w s 3 _ _ h, frozen_of_row w s 4 _ _ h, frozen_of_row w s 5 _ _ h⟩
theorem box_turnedP {w : World} {s : Nat} {F : Nat → Prop} {w0 : World} (h : Turned F w0 w) (hs : w0.heap.size ≤ s) (u0 u1 u2 u3 u4 u5 : Value) : Turned F w0 ((((((w.setCell ⟨s, 0, none⟩ (u0)).setCell ⟨s, 1, none⟩ (u1)).setCell ⟨s, 2, none⟩ (u2)).setCell ⟨s, 3, none⟩ (u3)).setCell ⟨s, 4, none⟩ (u4)).setCell ⟨s, 5, none⟩ (u5)) :=
  ((((((h.setCell (p := ⟨s, 0, none⟩) (fun h => absurd h (by show ¬ s < _; omega)) u0).setCell (p := ⟨s, 1, none⟩) (fun h => absurd h (by show ¬ s < _; omega)) u1).setCell (p := ⟨s, 2, none⟩) (fun h => absurd h (by show ¬ s < _; omega)) u2).setCell (p := ⟨s, 3, none⟩) (fun h => absurd h (by show ¬ s < _; omega)) u3).setCell (p := ⟨s, 4, none⟩) (fun h => absurd h (by show ¬ s < _; omega)) u4).setCell (p := ⟨s, 5, none⟩) (fun h => absurd h (by show ¬ s < _; omega)) u5)

set_option maxRecDepth 100000 in
set_option maxHeartbeats 2000000 in
theorem ppeek_noneP {w : World} {qb m fn : Nat} {caps : Array Value} {A0 : Option Addr} {c : Nat} (h : HeadP w qb fn caps (.slice A0 0 c) m) :
    Calls Try.prog 61 #[.pointer (some ⟨qb, 0, none⟩)] w (fun e w' => e = .returned (.tuple #[.agg #[.int .i64 0, .int .i64 0, .int .i64 0, .int .i64 0, .int .i64 0, .int .u32 0], .bool false]) ∧ Below w.heap.size w w') := by
  obtain ⟨s, hs⟩ : ∃ s, w.heap.size = s := ⟨_, rfl⟩
  obtain ⟨W1, hW1⟩ : ∃ W, w.alloc (.cells #[.int .i64 0, .int .i64 0, .int .i64 0, .int .i64 0, .int .i64 0, .int .u32 0] 79) = W := ⟨_, rfl⟩
  have t1 : Turned (fun _ => False) w W1 := by rw [← hW1]; exact (Turned.refl _ w).alloc _
  have b1 : W1.heap[s]? = some (.cells #[.int .i64 0, .int .i64 0, .int .i64 0, .int .i64 0, .int .i64 0, .int .u32 0] 79 (0, 0)) := by rw [← hW1, ← hs]; exact heap_alloc_new w _
  have s1 : W1.heap.size = s + 1 := by rw [← hW1, ← hs]; simp
  obtain ⟨W2, hW2⟩ : ∃ W, W1.alloc (.cells #[.int .i64 0, .int .i64 0, .int .i64 0, .int .i64 0, .int .i64 0, .int .u32 0] 79) = W := ⟨_, rfl⟩
  have t2 : Turned (fun _ => False) w W2 := by rw [← hW2]; exact t1.alloc _
  have t12 : Turned (fun _ => False) W1 W2 := by rw [← hW2]; exact (Turned.refl _ W1).alloc _
  have b2 := (t12.block s (by omega) (fun h => h)).trans b1
  have c2 : W2.heap[s + 1]? = some (.cells #[.int .i64 0, .int .i64 0, .int .i64 0, .int .i64 0, .int .i64 0, .int .u32 0] 79 (0, 0)) := by rw [← hW2, ← s1]; exact heap_alloc_new W1 _
  obtain ⟨x0, x1, x2, x3, x4, x5, f0, f1, f2, f3, f4, f5⟩ := box_cellsP b2
  obtain ⟨y0, y1, y2, y3, y4, y5, _, _, _, _, _, _⟩ := box_cellsP c2
  obtain ⟨W3, hW3⟩ : ∃ W, (((((W2.setCell ⟨s, 0, none⟩ (.int .i64 0)).setCell ⟨s, 1, none⟩ (.int .i64 0)).setCell ⟨s, 2, none⟩ (.int .i64 0)).setCell ⟨s, 3, none⟩ (.int .i64 0)).setCell ⟨s, 4, none⟩ (.int .i64 0)).setCell ⟨s, 5, none⟩ (.int .u32 0) = W := ⟨_, rfl⟩
  have HB3 : Hid (W3.heap[s]? = some (.cells #[.int .i64 0, .int .i64 0, .int .i64 0, .int .i64 0, .int .i64 0, .int .u32 0] 79 (0, 0))) := by unfold Hid; rw [← hW3]; exact box_setP b2 0 0 0 0 0 0
  have HT3 : Hid (Turned (fun _ => False) w W3) := by unfold Hid; rw [← hW3]; exact box_turnedP t2 (by omega) _ _ _ _ _ _
  have HM := Lib.hid (plenP' (h.block_ (t1.block qb h.lt_ (fun h => h))))
  clear h t1 b1 t2 t12 b2 c2
  go_enter Try.func61, Try.ntmps61
  go_wp2_with (fail)
  refine (HM.out).mono ?_
  rintro e w1 ⟨rfl, rfl⟩
  go_wp2
  refine bodyPost_ret (results_atP (fn := Try.f61) rfl _ _ s 0 0 0 0 0 0 _ (.bool false) rfl rfl HB3.out) rfl ⟨rfl, HT3.out.below (Nat.le_refl _) (fun _ h => h.elim)⟩

set_option maxRecDepth 100000 in
set_option maxHeartbeats 2000000 in
theorem ppeek_someP {w : World} {qb g n c m fn : Nat} {caps : Array Value} {A : List (Pr × Nat)} (h : HasP w qb g n c A m fn caps) (h0 : 0 < n) {ra : Int} {rb : Int} {rc : Int} {rd : Int} {re : Int} {rf : Nat} {rn : Nat} (hr : A[0]? = some ((⟨ra, rb, rc, rd, re, rf⟩ : Pr), rn)) :
    Calls Try.prog 61 #[.pointer (some ⟨qb, 0, none⟩)] w (fun e w' => e = .returned (.tuple #[.agg #[.int .i64 ra, .int .i64 rb, .int .i64 rc, .int .i64 rd, .int .i64 re, .int .u32 (rf : Nat)], .bool true]) ∧ Below w.heap.size w w') := by
  obtain ⟨s, hs⟩ : ∃ s, w.heap.size = s := ⟨_, rfl⟩
  obtain ⟨W1, hW1⟩ : ∃ W, w.alloc (.cells #[.int .i64 0, .int .i64 0, .int .i64 0, .int .i64 0, .int .i64 0, .int .u32 0] 79) = W := ⟨_, rfl⟩
  have t1 : Turned (fun _ => False) w W1 := by rw [← hW1]; exact (Turned.refl _ w).alloc _
  have b1 : W1.heap[s]? = some (.cells #[.int .i64 0, .int .i64 0, .int .i64 0, .int .i64 0, .int .i64 0, .int .u32 0] 79 (0, 0)) := by rw [← hW1, ← hs]; exact heap_alloc_new w _
  obtain ⟨x0, x1, x2, x3, x4, x5, f0, f1, f2, f3, f4, f5⟩ := box_cellsP b1
  have hh := h.below_ (t1.below (Nat.le_refl _) (fun _ h => h.elim))
  have HM := Lib.hid (plenP' hh.head)
  have hd1 := hh.head.list
  obtain ⟨r0, r1, r2, r3, r4, r5, r6, hro⟩ := hh.has hr
  simp only [Nat.zero_mul, Nat.zero_add] at r0 r1 r2 r3 r4 r5 r6
  obtain ⟨W3, hW3⟩ : ∃ W, (((((W1.setCell ⟨s, 0, none⟩ (.int .i64 ra)).setCell ⟨s, 1, none⟩ (.int .i64 rb)).setCell ⟨s, 2, none⟩ (.int .i64 rc)).setCell ⟨s, 3, none⟩ (.int .i64 rd)).setCell ⟨s, 4, none⟩ (.int .i64 re)).setCell ⟨s, 5, none⟩ (.int .u32 (rf : Nat)) = W := ⟨_, rfl⟩
  have HB3 : Hid (W3.heap[s]? = some (.cells #[.int .i64 ra, .int .i64 rb, .int .i64 rc, .int .i64 rd, .int .i64 re, .int .u32 (rf : Nat)] 79 (0, 0))) := by unfold Hid; rw [← hW3]; exact box_setP b1 ra rb rc rd re rf
  have HT3 : Hid (Turned (fun _ => False) w W3) := by unfold Hid; rw [← hW3]; exact box_turnedP t1 (by omega) _ _ _ _ _ _
  have h0' : (0 : Int) < (n : Int) := by omega
  have hne : ((n : Int) == 0) = false := by rw [beq_eq_false_iff_ne]; omega
  have hne2 : ¬ (n : Int) = 0 := by omega
  clear h hr hro hh t1 b1
  go_enter Try.func61, Try.ntmps61
  go_wp2_with (fail)
  refine (HM.out).mono ?_
  rintro e w1 ⟨rfl, rfl⟩
  go_wp2
  refine bodyPost_ret (results_atP (fn := Try.f61) rfl _ _ s ra rb rc rd re rf _ (.bool true) rfl rfl HB3.out) rfl ⟨rfl, HT3.out.below (Nat.le_refl _) (fun _ h => h.elim)⟩

set_option maxRecDepth 100000 in
set_option maxHeartbeats 2000000 in
theorem ppop_noneP {w : World} {qb m fn : Nat} {caps : Array Value} {A0 : Option Addr} {c : Nat} (h : HeadP w qb fn caps (.slice A0 0 c) m) :
    Calls Try.prog 52 #[.pointer (some ⟨qb, 0, none⟩)] w (fun e w' => e = .returned (.tuple #[.agg #[.int .i64 0, .int .i64 0, .int .i64 0, .int .i64 0, .int .i64 0, .int .u32 0], .bool false]) ∧ Below w.heap.size w w') := by
  obtain ⟨s, hs⟩ : ∃ s, w.heap.size = s := ⟨_, rfl⟩
  obtain ⟨W1, hW1⟩ : ∃ W, w.alloc (.cells #[.int .i64 0, .int .i64 0, .int .i64 0, .int .i64 0, .int .i64 0, .int .u32 0] 79) = W := ⟨_, rfl⟩
  have t1 : Turned (fun _ => False) w W1 := by rw [← hW1]; exact (Turned.refl _ w).alloc _
  have b1 : W1.heap[s]? = some (.cells #[.int .i64 0, .int .i64 0, .int .i64 0, .int .i64 0, .int .i64 0, .int .u32 0] 79 (0, 0)) := by rw [← hW1, ← hs]; exact heap_alloc_new w _
  have HM := Lib.hid (ppeek_noneP (h.block_ (t1.block qb h.lt_ (fun h => h))))
  have HT1 := Lib.hid t1
  have HB1 := Lib.hid b1
  have HS1 : Hid (s < W1.heap.size) := (Array.getElem?_eq_some_iff.1 b1).1
  clear h t1 b1
  go_enter Try.func52, Try.ntmps52
  go_wp2_with (fail)
  refine (HM.out).mono ?_
  rintro e w2 ⟨rfl, hb⟩
  obtain ⟨t, ht⟩ : ∃ t, w2.heap.size = t := ⟨_, rfl⟩
  have hst : s < t := by have := HS1.out; have := hb.size; omega
  obtain ⟨W3, hW3⟩ : ∃ W, w2.alloc (.cells #[.int .i64 0, .int .i64 0, .int .i64 0, .int .i64 0, .int .i64 0, .int .u32 0] 79) = W := ⟨_, rfl⟩
  have b3 : W3.heap[t]? = some (.cells #[.int .i64 0, .int .i64 0, .int .i64 0, .int .i64 0, .int .i64 0, .int .u32 0] 79 (0, 0)) := by rw [← hW3, ← ht]; exact heap_alloc_new w2 _
  have tt3 : Turned (fun _ => False) w2 W3 := by rw [← hW3]; exact (Turned.refl _ w2).alloc _
  have t3 : Turned (fun _ => False) w W3 := HT1.out.trans ((Turned.of_below hb).trans tt3 (fun _ _ h => h.elim)) (fun k h1 h2 => by have h2 : W1.heap.size ≤ k := h2; have := HT1.out.size; omega)
  have c3 : W3.heap[s]? = some (.cells #[.int .i64 0, .int .i64 0, .int .i64 0, .int .i64 0, .int .i64 0, .int .u32 0] 79 (0, 0)) := (tt3.block s (by omega) (fun h => h)).trans ((hb.block s HS1.out).trans HB1.out)
  obtain ⟨y0, y1, y2, y3, y4, y5, g0, g1, g2, g3, g4, g5⟩ := box_cellsP b3
  obtain ⟨W4, hW4⟩ : ∃ W, (((((W3.setCell ⟨t, 0, none⟩ (.int .i64 0)).setCell ⟨t, 1, none⟩ (.int .i64 0)).setCell ⟨t, 2, none⟩ (.int .i64 0)).setCell ⟨t, 3, none⟩ (.int .i64 0)).setCell ⟨t, 4, none⟩ (.int .i64 0)).setCell ⟨t, 5, none⟩ (.int .u32 0) = W := ⟨_, rfl⟩
  have b4 : W4.heap[t]? = some (.cells #[.int .i64 0, .int .i64 0, .int .i64 0, .int .i64 0, .int .i64 0, .int .u32 0] 79 (0, 0)) := by rw [← hW4]; exact box_setP b3 0 0 0 0 0 0
  have t4 : Turned (fun _ => False) w W4 := by rw [← hW4]; exact box_turnedP t3 (by omega) _ _ _ _ _ _
  have c4 : W4.heap[s]? = some (.cells #[.int .i64 0, .int .i64 0, .int .i64 0, .int .i64 0, .int .i64 0, .int .u32 0] 79 (0, 0)) := by
    rw [← hW4]
    exact ((heap_setCell_other _ _ _ _ (by show s ≠ t; omega)).trans ((heap_setCell_other _ _ _ _ (by show s ≠ t; omega)).trans ((heap_setCell_other _ _ _ _ (by show s ≠ t; omega)).trans ((heap_setCell_other _ _ _ _ (by show s ≠ t; omega)).trans ((heap_setCell_other _ _ _ _ (by show s ≠ t; omega)).trans ((heap_setCell_other _ _ _ _ (by show s ≠ t; omega)).trans c3))))))
  obtain ⟨z0, z1, z2, z3, z4, z5, _, _, _, _, _, _⟩ := box_cellsP b4
  obtain ⟨x0, x1, x2, x3, x4, x5, f0, f1, f2, f3, f4, f5⟩ := box_cellsP c4
  obtain ⟨W5, hW5⟩ : ∃ W, (((((W4.setCell ⟨s, 0, none⟩ (.int .i64 0)).setCell ⟨s, 1, none⟩ (.int .i64 0)).setCell ⟨s, 2, none⟩ (.int .i64 0)).setCell ⟨s, 3, none⟩ (.int .i64 0)).setCell ⟨s, 4, none⟩ (.int .i64 0)).setCell ⟨s, 5, none⟩ (.int .u32 0) = W := ⟨_, rfl⟩
  have HB5 : Hid (W5.heap[s]? = some (.cells #[.int .i64 0, .int .i64 0, .int .i64 0, .int .i64 0, .int .i64 0, .int .u32 0] 79 (0, 0))) := by unfold Hid; rw [← hW5]; exact box_setP c4 0 0 0 0 0 0
  have HT5 : Hid (Turned (fun _ => False) w W5) := by unfold Hid; rw [← hW5]; exact box_turnedP t4 (by omega) _ _ _ _ _ _
  clear hb b3 tt3 t3 c3 b4 t4 c4 HM
  go_wp2
  refine bodyPost_ret (results_atP (fn := Try.f52) rfl _ _ s 0 0 0 0 0 0 _ (.bool false) rfl rfl HB5.out) rfl ⟨rfl, HT5.out.below (Nat.le_refl _) (fun _ h => h.elim)⟩

set_option maxRecDepth 100000 in
set_option maxHeartbeats 2000000 in
theorem ppop_someP {w : World} {qb g n c m fn : Nat} {caps : Array Value} {A : List (Pr × Nat)} {lt : Pr → Pr → Bool} (h : HasP w qb g n c A m fn caps) (ho : Qu.Order lt) (hl : Less prV PrOk fn caps lt w (fun k => k = qb ∨ k = g)) (hh : Qu.IsHeap lt A) (h0 : 0 < n) (hn : n ≤ 8388608) {ra : Int} {rb : Int} {rc : Int} {rd : Int} {re : Int} {rf : Nat} {rn : Nat} (hr : A[0]? = some ((⟨ra, rb, rc, rd, re, rf⟩ : Pr), rn)) :
    Calls Try.prog 52 #[.pointer (some ⟨qb, 0, none⟩)] w (fun e w' => e = .returned (.tuple #[.agg #[.int .i64 ra, .int .i64 rb, .int .i64 rc, .int .i64 rd, .int .i64 re, .int .u32 (rf : Nat)], .bool true]) ∧ ∃ A', (((⟨ra, rb, rc, rd, re, rf⟩ : Pr), rn) :: A').Perm A ∧ Qu.IsHeap lt A' ∧ HasP w' qb g (n - 1) c A' m fn caps ∧ Turned (fun k => k = qb ∨ k = g) w w') := by
  obtain ⟨j, rfl⟩ : ∃ j, n = j + 1 := ⟨n - 1, by omega⟩
  have hbq : qb < w.heap.size := h.head.lt_
  have hbg : g < w.heap.size := (h.own.lt_ g rfl).2
  obtain ⟨s, hs⟩ : ∃ s, w.heap.size = s := ⟨_, rfl⟩
  obtain ⟨W1, hW1⟩ : ∃ W, w.alloc (.cells #[.int .i64 0, .int .i64 0, .int .i64 0, .int .i64 0, .int .i64 0, .int .u32 0] 79) = W := ⟨_, rfl⟩
  have t1 : Turned (fun _ => False) w W1 := by rw [← hW1]; exact (Turned.refl _ w).alloc _
  have b1 : W1.heap[s]? = some (.cells #[.int .i64 0, .int .i64 0, .int .i64 0, .int .i64 0, .int .i64 0, .int .u32 0] 79 (0, 0)) := by rw [← hW1, ← hs]; exact heap_alloc_new w _
  have h1 := h.below_ (t1.below (Nat.le_refl _) (fun _ h => h.elim))
  have HM := Lib.hid (ppeek_someP h1 h0 hr)
  have HT1 := Lib.hid t1
  have HB1 := Lib.hid b1
  have HS1 : Hid (s < W1.heap.size) := (Array.getElem?_eq_some_iff.1 b1).1
  have HH := Lib.hid h1
  have HL := Lib.hid hl
  have HR := Lib.hid hr
  have HO := Lib.hid ho
  have HHH := Lib.hid hh
  clear h hl hr ho hh t1 b1 h1
  go_enter Try.func52, Try.ntmps52
  go_wp2_with (fail)
  refine (HM.out).mono ?_
  rintro e w2 ⟨rfl, hb⟩
  obtain ⟨t, ht⟩ : ∃ t, w2.heap.size = t := ⟨_, rfl⟩
  have hst : s < t := by have := HS1.out; have := hb.size; omega
  obtain ⟨W3, hW3⟩ : ∃ W, w2.alloc (.cells #[.int .i64 0, .int .i64 0, .int .i64 0, .int .i64 0, .int .i64 0, .int .u32 0] 79) = W := ⟨_, rfl⟩
  have b3 : W3.heap[t]? = some (.cells #[.int .i64 0, .int .i64 0, .int .i64 0, .int .i64 0, .int .i64 0, .int .u32 0] 79 (0, 0)) := by rw [← hW3, ← ht]; exact heap_alloc_new w2 _
  have tt3 : Turned (fun _ => False) w2 W3 := by rw [← hW3]; exact (Turned.refl _ w2).alloc _
  have t13 : Turned (fun k => W1.heap.size ≤ k) W1 W3 := (Turned.of_below hb).trans tt3 (fun _ _ h => h.elim)
  have t3 : Turned (fun _ => False) w W3 := HT1.out.trans t13 (fun k h1 h2 => by have h2 : W1.heap.size ≤ k := h2; have := HT1.out.size; omega)
  have c3 : W3.heap[s]? = some (.cells #[.int .i64 0, .int .i64 0, .int .i64 0, .int .i64 0, .int .i64 0, .int .u32 0] 79 (0, 0)) := (tt3.block s (by omega) (fun h => h)).trans ((hb.block s HS1.out).trans HB1.out)
  obtain ⟨y0, y1, y2, y3, y4, y5, g0, g1, g2, g3, g4, g5⟩ := box_cellsP b3
  obtain ⟨W4, hW4⟩ : ∃ W, (((((W3.setCell ⟨t, 0, none⟩ (.int .i64 ra)).setCell ⟨t, 1, none⟩ (.int .i64 rb)).setCell ⟨t, 2, none⟩ (.int .i64 rc)).setCell ⟨t, 3, none⟩ (.int .i64 rd)).setCell ⟨t, 4, none⟩ (.int .i64 re)).setCell ⟨t, 5, none⟩ (.int .u32 (rf : Nat)) = W := ⟨_, rfl⟩
  have b4 : W4.heap[t]? = some (.cells #[.int .i64 ra, .int .i64 rb, .int .i64 rc, .int .i64 rd, .int .i64 re, .int .u32 (rf : Nat)] 79 (0, 0)) := by rw [← hW4]; exact box_setP b3 ra rb rc rd re rf
  have t4 : Turned (fun _ => False) w W4 := by rw [← hW4]; exact box_turnedP t3 (by omega) _ _ _ _ _ _
  have t14 : Turned (fun k => W1.heap.size ≤ k) W1 W4 := by rw [← hW4]; exact box_turnedP t13 (by have := hb.size; omega) _ _ _ _ _ _
  have c4 : W4.heap[s]? = some (.cells #[.int .i64 0, .int .i64 0, .int .i64 0, .int .i64 0, .int .i64 0, .int .u32 0] 79 (0, 0)) := by
    rw [← hW4]
    exact ((heap_setCell_other _ _ _ _ (by show s ≠ t; omega)).trans ((heap_setCell_other _ _ _ _ (by show s ≠ t; omega)).trans ((heap_setCell_other _ _ _ _ (by show s ≠ t; omega)).trans ((heap_setCell_other _ _ _ _ (by show s ≠ t; omega)).trans ((heap_setCell_other _ _ _ _ (by show s ≠ t; omega)).trans ((heap_setCell_other _ _ _ _ (by show s ≠ t; omega)).trans c3))))))
  have HB4 := Lib.hid b4
  have HC4 := Lib.hid c4
  have HT4 := Lib.hid t4
  have HD := Lib.hid (pdropP (HH.out.below_ (t14.below (Nat.le_refl _) (fun _ h => h))) HO.out (HL.out.step (t4.mono (fun _ _ h => h.elim)) (fun _ _ h => h)) HHH.out hn HR.out)
  clear hb b3 tt3 t3 t13 c3 b4 t4 t14 c4 HM
  go_wp2_with (fail)
  refine (HD.out).mono ?_
  rintro e w5 ⟨rfl, A', h1, h2, h3, h4⟩
  have b5 := (h4.block t (Array.getElem?_eq_some_iff.1 HB4.out).1 (by omega)).trans HB4.out
  have c5 := (h4.block s (Array.getElem?_eq_some_iff.1 HC4.out).1 (by omega)).trans HC4.out
  have t5 : Turned (fun k => k = qb ∨ k = g) w w5 := (HT4.out.mono (fun _ _ h => h.elim)).trans h4 (fun _ _ h => h)
  obtain ⟨z0, z1, z2, z3, z4, z5, _, _, _, _, _, _⟩ := box_cellsP b5
  obtain ⟨x0, x1, x2, x3, x4, x5, f0, f1, f2, f3, f4, f5⟩ := box_cellsP c5
  obtain ⟨W6, hW6⟩ : ∃ W, (((((w5.setCell ⟨s, 0, none⟩ (.int .i64 ra)).setCell ⟨s, 1, none⟩ (.int .i64 rb)).setCell ⟨s, 2, none⟩ (.int .i64 rc)).setCell ⟨s, 3, none⟩ (.int .i64 rd)).setCell ⟨s, 4, none⟩ (.int .i64 re)).setCell ⟨s, 5, none⟩ (.int .u32 (rf : Nat)) = W := ⟨_, rfl⟩
  have HB6 : Hid (W6.heap[s]? = some (.cells #[.int .i64 ra, .int .i64 rb, .int .i64 rc, .int .i64 rd, .int .i64 re, .int .u32 (rf : Nat)] 79 (0, 0))) := by unfold Hid; rw [← hW6]; exact box_setP c5 ra rb rc rd re rf
  have HT6 : Hid (Turned (fun k => k = qb ∨ k = g) w W6) := by unfold Hid; rw [← hW6]; exact box_turnedP t5 (by omega) _ _ _ _ _ _
  have h6 : HasP W6 qb g j c A' m fn caps := by
    have tt : Turned (fun k => k = s) w5 W6 := by rw [← hW6]; exact (((((((Turned.refl (fun k => k = s) w5).setCell (p := ⟨s, 0, none⟩) (fun _ => rfl) _).setCell (p := ⟨s, 1, none⟩) (fun _ => rfl) _).setCell (p := ⟨s, 2, none⟩) (fun _ => rfl) _).setCell (p := ⟨s, 3, none⟩) (fun _ => rfl) _).setCell (p := ⟨s, 4, none⟩) (fun _ => rfl) _).setCell (p := ⟨s, 5, none⟩) (fun _ => rfl) _)
    exact ⟨h3.head.block_ (tt.block qb h3.head.lt_ (by omega)), h3.own.turned_ tt (fun k hk => by have e : g = k := Option.some.inj hk; show ¬ k = s; omega), h3.apart, h3.len⟩
  have HE := Lib.hid (show ∃ A', (((⟨ra, rb, rc, rd, re, rf⟩ : Pr), rn) :: A').Perm A ∧ Qu.IsHeap lt A' ∧ HasP W6 qb g (j + 1 - 1) c A' m fn caps ∧ Turned (fun k => k = qb ∨ k = g) w W6 from ⟨A', h1, h2, h6, HT6.out⟩)
  clear h1 h2 h3 h4 HD t5 h6 b5 c5
  go_wp2
  refine bodyPost_ret (results_atP (fn := Try.f52) rfl _ _ s ra rb rc rd re rf _ (.bool true) rfl rfl HB6.out) rfl ⟨rfl, HE.out⟩
end Go.Proofs.Ytaedhccmdbodlaa
namespace Go.Proofs.Ytaedhccmdbodlaa
open Go.RowKit
set_option linter.unusedVariables false

/-- A queue: its own blocks F, its order, what it holds in the order in which it goes out, how many were pushed. -/
def IsQP (w : World) (F : Nat → Prop) (qb : Nat) (fn : Nat) (caps : Array Value) (lt : Pr → Pr → Bool) (S : List Pr) (m : Nat) : Prop :=
  ∃ (A0 : Option Addr) (n c : Nat) (A : List (Pr × Nat)), HeadP w qb fn caps (.slice A0 n c) m ∧ OwnL qPK w 0 (.slice A0 n c) A ∧ (Value.slice A0 n c).ownBlock ≠ some qb ∧
    Qu.IsHeap lt A ∧ Qu.Held lt A S m ∧ A.length ≤ m ∧ ∀ k, F k ↔ (k = qb ∨ (Value.slice A0 n c).ownBlock = some k)
section
variable {w w' : World} {F G : Nat → Prop} {qb fn : Nat} {caps : Array Value} {lt : Pr → Pr → Bool} {S : List Pr} {m : Nat}
theorem IsQP.lt_ (h : IsQP w F qb fn caps lt S m) : ∀ k, F k → k < w.heap.size := by
  obtain ⟨A0, n, c, A, h1, h2, h3, h4, h5, h6, h7⟩ := h
  intro k hk
  rcases (h7 k).1 hk with rfl | h
  · exact h1.lt_
  · exact (h2.lt_ k h).2
theorem IsQP.turned_ (h : IsQP w F qb fn caps lt S m) (ht : Turned G w w') (hd : ∀ k, k < w.heap.size → F k → ¬ G k) : IsQP w' F qb fn caps lt S m := by
  have hlt := h.lt_
  obtain ⟨A0, n, c, A, h1, h2, h3, h4, h5, h6, h7⟩ := h
  have hq := (h7 qb).2 (.inl rfl)
  exact ⟨A0, n, c, A, h1.block_ (ht.block qb (hlt _ hq) (hd _ (hlt _ hq) hq)), h2.turned_ ht (fun k hk => by have hF := (h7 k).2 (.inr hk); exact hd k (hlt k hF) hF), h3, h4, h5, h6, h7⟩
end
theorem pnewP (fn : Nat) (caps : Array Value) (lt : Pr → Pr → Bool) (w : World) :
    Calls Try.prog 49 #[fnV fn caps] w (fun e w' => ∃ (qb : Nat) (F : Nat → Prop), e = .returned (.pointer (some ⟨qb, 0, none⟩)) ∧ IsQP w' F qb fn caps lt [] 0 ∧ (∀ k, F k → w.heap.size ≤ k) ∧ Below w.heap.size w w') := by
  refine (pnewP' fn caps w).mono ?_
  rintro e w' ⟨rfl, hh, hb⟩
  exact ⟨w.heap.size, fun k => k = w.heap.size, rfl, ⟨none, 0, 0, [], hh, OwnL.nil_ _ _ _, by simp [Value.ownBlock], fun k a b _ h => by simp at h, Qu.Held.nil, Nat.le_refl _, fun k => by simp [Value.ownBlock]⟩, fun k h => by omega, hb⟩

section
variable {w : World} {F : Nat → Prop} {qb fn : Nat} {caps : Array Value} {lt : Pr → Pr → Bool} {S : List Pr} {m : Nat}
theorem ppushP (hq : IsQP w F qb fn caps lt S m) (ho : Qu.Order lt) (hl : Less prV PrOk fn caps lt w F) (x : Pr) (hx : PrOk x) (hm : m ≤ 4194304) :
    Calls Try.prog 60 #[.pointer (some ⟨qb, 0, none⟩), prV x] w (fun e w' => e = .returned (.int .i64 0) ∧ ∃ F' : Nat → Prop, IsQP w' F' qb fn caps lt (Qu.ins lt S x) (m + 1) ∧ Turned F w w' ∧ ∀ k, F' k → F k ∨ w.heap.size ≤ k) := by
  obtain ⟨A0, n, c, A, h1, h2, h3, h4, h5, h6, h7⟩ := hq
  obtain ⟨xa, xb, xc, xd, xe, xf⟩ := x
  refine (ppushP' h1 h2 h3 ho (hl.mono (fun k _ h => (h7 k).2 h)) h4 xa xb xc xd xe xf hx hm (by omega)).mono ?_
  rintro e w' ⟨rfl, g, n', c', A', hp, hh, hq, ht, hg⟩
  refine ⟨rfl, fun k => k = qb ∨ k = g, ⟨some ⟨g, 0, none⟩, n', c', A', hq.head, hq.own, fun e => hq.apart (Option.some.inj e).symm, hh, (h5.push ho _).perm hp, ?_, fun k => ⟨fun h => h.imp id (fun e => by subst e; rfl), fun h => h.imp id (fun e => (Option.some.inj e).symm)⟩⟩, ht.mono (fun k _ h => (h7 k).2 h), fun k h => ?_⟩
  · have := hp.length_eq
    simp at this
    omega
  · rcases h with rfl | rfl
    · exact .inl ((h7 _).2 (.inl rfl))
    · exact hg.imp (fun h => (h7 _).2 (.inr h)) id
theorem plenP (hq : IsQP w F qb fn caps lt S m) :
    Calls Try.prog 68 #[.pointer (some ⟨qb, 0, none⟩)] w (fun e w' => e = .returned (.int .i64 (S.length : Nat)) ∧ Below w.heap.size w w') := by
  obtain ⟨A0, n, c, A, h1, h2, h3, h4, h5, h6, h7⟩ := hq
  refine (plenP' h1).mono ?_
  rintro e w' ⟨rfl, rfl⟩
  rw [h5.length, ← h2.form_.len_.1]
  exact ⟨rfl, Below.refl _ _⟩
theorem ppeekP (hq : IsQP w F qb fn caps lt S m) (ho : Qu.Order lt) :
    Calls Try.prog 61 #[.pointer (some ⟨qb, 0, none⟩)] w (fun e w' => e = .returned (.tuple #[prV (S.headD (⟨0, 0, 0, 0, 0, 0⟩ : Pr)), .bool (!S.isEmpty)]) ∧ Below w.heap.size w w') := by
  obtain ⟨A0, n, c, A, h1, h2, h3, h4, h5, h6, h7⟩ := hq
  have hn := h2.form_.len_.1
  rcases Nat.eq_zero_or_pos n with rfl | hpos
  · have hS : S = [] := List.eq_nil_of_length_eq_zero (by rw [h5.length, ← hn])
    subst hS
    exact ppeek_noneP h1
  · obtain ⟨g, ⟨⟨ya, yb, yc, yd, ye, yf⟩, yn⟩, e, _, _, _, hr, _⟩ := h2.at_ (k := 0) (by omega)
    subst e
    obtain ⟨T, rfl, hT⟩ := h5.top ho h4 hr
    exact ppeek_someP ⟨h1, h2, fun e => h3 (by rw [e]; rfl), hn.symm⟩ hpos hr
theorem ppopP (hq : IsQP w F qb fn caps lt S m) (ho : Qu.Order lt) (hl : Less prV PrOk fn caps lt w F) (hm : m ≤ 4194304) :
    Calls Try.prog 52 #[.pointer (some ⟨qb, 0, none⟩)] w (fun e w' => e = .returned (.tuple #[prV (S.headD (⟨0, 0, 0, 0, 0, 0⟩ : Pr)), .bool (!S.isEmpty)]) ∧ ∃ F' : Nat → Prop, IsQP w' F' qb fn caps lt S.tail m ∧ Turned F w w' ∧ ∀ k, F' k → F k ∨ w.heap.size ≤ k) := by
  have hq0 := hq
  obtain ⟨A0, n, c, A, h1, h2, h3, h4, h5, h6, h7⟩ := hq
  have hn := h2.form_.len_.1
  rcases Nat.eq_zero_or_pos n with rfl | hpos
  · have hS : S = [] := List.eq_nil_of_length_eq_zero (by rw [h5.length, ← hn])
    subst hS
    refine (ppop_noneP h1).mono ?_
    rintro e w' ⟨rfl, hb⟩
    have ht : Turned (fun k => w.heap.size ≤ k) w w' := Turned.of_below hb
    exact ⟨rfl, F, hq0.turned_ ht (fun k h1 _ h2 => absurd h2 (by omega)), ht.mono (fun k h1 h2 => absurd h2 (by omega)), fun k h => .inl h⟩
  · obtain ⟨g, ⟨⟨ya, yb, yc, yd, ye, yf⟩, yn⟩, e, _, _, _, hr, _⟩ := h2.at_ (k := 0) (by omega)
    subst e
    have hI : HasP w qb g n c A m fn caps := ⟨h1, h2, fun e => h3 (by rw [e]; rfl), hn.symm⟩
    have hF : ∀ k, (k = qb ∨ k = g) → F k := fun k h => (h7 k).2 (h.imp id (fun e => by subst e; rfl))
    obtain ⟨T, rfl, hT⟩ := h5.top ho h4 hr
    refine (ppop_someP hI ho (hl.mono (fun k _ h => hF k h)) h4 hpos (by omega) hr).mono ?_
    rintro e w' ⟨rfl, A', hp, hh, hq, ht⟩
    refine ⟨rfl, fun k => k = qb ∨ k = g, ⟨some ⟨g, 0, none⟩, n - 1, c, A', hq.head, hq.own, fun e => hq.apart (Option.some.inj e).symm, hh, hT A' hp, ?_, fun k => ⟨fun h => h.imp id (fun e => by subst e; rfl), fun h => h.imp id (fun e => (Option.some.inj e).symm)⟩⟩, ht.mono (fun k _ h => hF k h), fun k h => .inl (hF k h)⟩
    have := hp.length_eq
    simp at this
    omega
end
end Go.Proofs.Ytaedhccmdbodlaa
