/- Parts of the proof. -/
import Derived.Test.YtiafeniflkikeaaGreatPm03
import Derived.Test.YtiafeniflkikeaaGreatPm04
import Derived.Test.YtiafeniflkikeaaGreatProg
import Derived.Deep.MidRow
namespace Go.Proofs.YtiafeniflkikeaaGreat
open Go.RowKit
set_option linter.unusedVariables false
def rtC (r : Rt.Root) : Array Value := #[.int .u64 (r.seq : Nat), .int .i64 r.page, .int .i64 r.pages, .int .u64 (r.lsn : Nat), .int .u64 (r.next : Nat), .int .i64 r.shard, .int .i64 r.tail]
structure Rt.Fit (r : Rt.Root) : Prop where
 seq : r.seq < 18446744073709551616
 page : I64 r.page
 pages : I64 r.pages
 lsn : r.lsn < 18446744073709551616
 next : r.next < 18446744073709551616
 shard : I64 r.shard
 tail : I64 r.tail
theorem Rt.fit_zero : Rt.Fit Rt.zero := by constructor <;> simp [Rt.zero, I64]
theorem rtC_size (r : Rt.Root) : (rtC r).size = 7 := rfl
theorem rtC_one (r : Rt.Root) : (rtC r).all (·.oneCell') = true := by simp [rtC, Value.oneCell']
theorem rt_size : (Tryz.prog.info? 34).map (·.size) = some 7 := by kernel_rfl
def none7 : Array Value := rtC Rt.zero
theorem rt_zero : (Tryz.prog.info? 34).map (fun i => (i.zero, i.size)) = some (some (.agg none7), 7) := by kernel_rfl
theorem rt_built0 : Tryz.prog.built 34 [] = some none7 := by kernel_rfl
theorem rt_built (r : Rt.Root) :
  Tryz.prog.built 34 [(0, .int .u64 (r.seq : Nat)), (1, .int .i64 r.page), (2, .int .i64 r.pages), (3, .int .u64 (r.lsn : Nat)), (4, .int .u64 (r.next : Nat)), (5, .int .i64 r.shard), (6, .int .i64 r.tail)] = some (rtC r) := by kernel_rfl
def IsRtE (r : Rt.Root × Nat) (w : World) (e : Ending) (w' : World) : Prop :=
 e = .returned (.tuple #[.agg (rtC r.1), .int .i64 (r.2 : Nat)]) ∧ Rt.Fit r.1 ∧ Below w.heap.size w w'
theorem results_rt {fn : Func} {p u1 : Tmp} (h : fn.results = #[.cell p 34, .tmp u1]) (tmps : Array Value) (w : World) (g : Nat) (c : Array Value) (x : Value) (t : TypeId)
  (hp : tmps.getD p undef = .pointer (some ⟨g, 0, none⟩)) (hx : tmps.getD u1 undef = x) (hc : c.size = 7) (hg : w.heap[g]? = some (.cells c t (0, 0))) :
  (results fn tmps).run Tryz.prog w = .ok (.tuple #[.agg c, x]) w := by
 have hp' : tmps[p]?.getD undef = .pointer (some ⟨g, 0, none⟩) := by simpa using hp
 have hx' : tmps[u1]?.getD undef = x := by simpa using hx
 simp [results, h, hp', hx', asAddr, run_loadVar_row w g t _ _ (0, 0) _ hg Tryz.underlying34 rfl (by rw [hc]; exact rt_size)]
theorem IsRtE.ret {fn : Func} {p u1 : Tmp} {w w' : World} {a : Act} {g e : Nat} {r : Rt.Root × Nat} {y : Rt.Root} {x : Int} (hf : fn.results = #[.cell p 34, .tmp u1]) (ha : a.defers = [])
  (hp : a.tmps.getD p undef = .pointer (some ⟨g, 0, none⟩)) (hx : a.tmps.getD u1 undef = .int .i64 x) (hg : Rw w' g 34 (rtC y)) (hr : r = (y, e)) (he : x = (e : Nat)) (hy : Rt.Fit y) (hb : Below w.heap.size w w') :
  bodyPost Tryz.prog fn (IsRtE r w) Exit.ret a w' := by
 subst hr he
 exact bodyPost_ret (results_rt hf _ _ g _ _ _ hp hx (rtC_size y) hg) ha ⟨rfl, hy, hb⟩
set_option maxHeartbeats 2000000 in
set_option maxRecDepth 100000 in
theorem rrtmay_any (r : Rt.Root) (w : World) (hf : Rt.Fit r) : Calls Tryz.prog 63 #[.agg (rtC r)] w (IsBool (decide (Rt.May r)) w) := by
 obtain ⟨W, hW⟩ : ∃ W, w.alloc (.cells (rtC r) 34) = W := ⟨_, rfl⟩
 obtain ⟨hx, hb⟩ := bxt_new hW
 have HB := Lib.hid hb
 have c0 : W.cell? ⟨w.heap.size, 0, none⟩ = some (.int .u64 (r.seq : Nat)) := hx.2.cell 0
 have c1 : W.cell? ⟨w.heap.size, 1, none⟩ = some (.int .i64 r.page) := hx.2.cell 1
 have c2 : W.cell? ⟨w.heap.size, 2, none⟩ = some (.int .i64 r.pages) := hx.2.cell 2
 have c3 : W.cell? ⟨w.heap.size, 3, none⟩ = some (.int .u64 (r.lsn : Nat)) := hx.2.cell 3
 have c4 : W.cell? ⟨w.heap.size, 4, none⟩ = some (.int .u64 (r.next : Nat)) := hx.2.cell 4
 have c5 : W.cell? ⟨w.heap.size, 5, none⟩ = some (.int .i64 r.shard) := hx.2.cell 5
 have c6 : W.cell? ⟨w.heap.size, 6, none⟩ = some (.int .i64 r.tail) := hx.2.cell 6
 have hp := hf.pages
 unfold I64 at hp
 obtain ⟨D, hD⟩ : ∃ D, rtC r = D := ⟨_, rfl⟩
 rw [hD] at hW ⊢
 clear hx hb hf hD
 obtain ⟨seq, page, pages, lsn, next, shard, tail⟩ := r
 simp only at c0 c1 c2 c3 c4 c5 c6 hp
 have hw : IntKind.i64.wrap (pages - 1) = pages - 1 ∨ pages = -9223372036854775808 := by rw [IntKind.wrap_i64]; omega
 by_cases a0 : (seq : Int) < 1
 ·clear hw
  have HX : Hid (decide (Rt.May ⟨seq, page, pages, lsn, next, shard, tail⟩) = false) := decide_eq_false fun h => by
   obtain ⟨h1, h2, h3, h4, h5, h6, h7, h8, h9, h10, h11, h12⟩ := h
   simp only at h1 h2 h3 h4 h5 h6 h7 h8 h9 h10 h11 h12
   omega
  rw [HX.out]
  go_enter Tryz.func63, Tryz.ntmps63
  go_wp2
  go_ret
  exact ⟨rfl, HB.out⟩
 by_cases a1 : (4611686018427387904 : Int) < (seq : Int)
 ·clear hw
  have HX : Hid (decide (Rt.May ⟨seq, page, pages, lsn, next, shard, tail⟩) = false) := decide_eq_false fun h => by
   obtain ⟨h1, h2, h3, h4, h5, h6, h7, h8, h9, h10, h11, h12⟩ := h
   simp only at h1 h2 h3 h4 h5 h6 h7 h8 h9 h10 h11 h12
   omega
  rw [HX.out]
  go_enter Tryz.func63, Tryz.ntmps63
  go_wp2
  go_ret
  exact ⟨rfl, HB.out⟩
 by_cases a2 : pages < 2
 ·clear hw
  have HX : Hid (decide (Rt.May ⟨seq, page, pages, lsn, next, shard, tail⟩) = false) := decide_eq_false fun h => by
   obtain ⟨h1, h2, h3, h4, h5, h6, h7, h8, h9, h10, h11, h12⟩ := h
   simp only at h1 h2 h3 h4 h5 h6 h7 h8 h9 h10 h11 h12
   omega
  rw [HX.out]
  go_enter Tryz.func63, Tryz.ntmps63
  go_wp2
  go_ret
  exact ⟨rfl, HB.out⟩
 by_cases a3 : 65536 < pages
 ·clear hw
  have HX : Hid (decide (Rt.May ⟨seq, page, pages, lsn, next, shard, tail⟩) = false) := decide_eq_false fun h => by
   obtain ⟨h1, h2, h3, h4, h5, h6, h7, h8, h9, h10, h11, h12⟩ := h
   simp only at h1 h2 h3 h4 h5 h6 h7 h8 h9 h10 h11 h12
   omega
  rw [HX.out]
  go_enter Tryz.func63, Tryz.ntmps63
  go_wp2
  go_ret
  exact ⟨rfl, HB.out⟩
 by_cases a4 : (4611686018427387904 : Int) < (lsn : Int)
 ·clear hw
  have HX : Hid (decide (Rt.May ⟨seq, page, pages, lsn, next, shard, tail⟩) = false) := decide_eq_false fun h => by
   obtain ⟨h1, h2, h3, h4, h5, h6, h7, h8, h9, h10, h11, h12⟩ := h
   simp only at h1 h2 h3 h4 h5 h6 h7 h8 h9 h10 h11 h12
   omega
  rw [HX.out]
  go_enter Tryz.func63, Tryz.ntmps63
  go_wp2
  go_ret
  exact ⟨rfl, HB.out⟩
 have hw1 : IntKind.i64.wrap (pages - 1) = pages - 1 := by omega
 clear hw
 by_cases p0 : page = 0
 ·have q0 : (page != 0) = false := by rw [bne_eq_false_iff_eq]; exact p0
  by_cases b0 : 1 ≤ (next : Int)
  rotate_left
  ·skip
   have HX : Hid (decide (Rt.May ⟨seq, page, pages, lsn, next, shard, tail⟩) = false) := decide_eq_false fun h => by
    obtain ⟨h1, h2, h3, h4, h5, h6, h7, h8, h9, h10, h11, h12⟩ := h
    simp only at h1 h2 h3 h4 h5 h6 h7 h8 h9 h10 h11 h12
    omega
   rw [HX.out]
   go_enter Tryz.func63, Tryz.ntmps63
   go_wp2
   go_ret
   exact ⟨rfl, HB.out⟩
  by_cases b1 : (next : Int) ≤ 4294967296
  rotate_left
  ·skip
   have HX : Hid (decide (Rt.May ⟨seq, page, pages, lsn, next, shard, tail⟩) = false) := decide_eq_false fun h => by
    obtain ⟨h1, h2, h3, h4, h5, h6, h7, h8, h9, h10, h11, h12⟩ := h
    simp only at h1 h2 h3 h4 h5 h6 h7 h8 h9 h10 h11 h12
    omega
   rw [HX.out]
   go_enter Tryz.func63, Tryz.ntmps63
   go_wp2
   go_ret
   exact ⟨rfl, HB.out⟩
  by_cases b2 : 0 ≤ shard
  rotate_left
  ·skip
   have HX : Hid (decide (Rt.May ⟨seq, page, pages, lsn, next, shard, tail⟩) = false) := decide_eq_false fun h => by
    obtain ⟨h1, h2, h3, h4, h5, h6, h7, h8, h9, h10, h11, h12⟩ := h
    simp only at h1 h2 h3 h4 h5 h6 h7 h8 h9 h10 h11 h12
    omega
   rw [HX.out]
   go_enter Tryz.func63, Tryz.ntmps63
   go_wp2
   go_ret
   exact ⟨rfl, HB.out⟩
  by_cases b3 : shard ≤ 2147483647
  rotate_left
  ·skip
   have HX : Hid (decide (Rt.May ⟨seq, page, pages, lsn, next, shard, tail⟩) = false) := decide_eq_false fun h => by
    obtain ⟨h1, h2, h3, h4, h5, h6, h7, h8, h9, h10, h11, h12⟩ := h
    simp only at h1 h2 h3 h4 h5 h6 h7 h8 h9 h10 h11 h12
    omega
   rw [HX.out]
   go_enter Tryz.func63, Tryz.ntmps63
   go_wp2
   go_ret
   exact ⟨rfl, HB.out⟩
  by_cases b4 : 0 ≤ tail
  rotate_left
  ·skip
   have HX : Hid (decide (Rt.May ⟨seq, page, pages, lsn, next, shard, tail⟩) = false) := decide_eq_false fun h => by
    obtain ⟨h1, h2, h3, h4, h5, h6, h7, h8, h9, h10, h11, h12⟩ := h
    simp only at h1 h2 h3 h4 h5 h6 h7 h8 h9 h10 h11 h12
    omega
   rw [HX.out]
   go_enter Tryz.func63, Tryz.ntmps63
   go_wp2
   go_ret
   exact ⟨rfl, HB.out⟩
  by_cases b5 : tail ≤ 1048576
  rotate_left
  ·skip
   have HX : Hid (decide (Rt.May ⟨seq, page, pages, lsn, next, shard, tail⟩) = false) := decide_eq_false fun h => by
    obtain ⟨h1, h2, h3, h4, h5, h6, h7, h8, h9, h10, h11, h12⟩ := h
    simp only at h1 h2 h3 h4 h5 h6 h7 h8 h9 h10 h11 h12
    omega
   rw [HX.out]
   go_enter Tryz.func63, Tryz.ntmps63
   go_wp2
   go_ret
   exact ⟨rfl, HB.out⟩
  have HX : Hid (decide (Rt.May ⟨seq, page, pages, lsn, next, shard, tail⟩) = true) := decide_eq_true (by
   refine ⟨?_, ?_, ?_, ?_, ?_, ?_, ?_, ?_, ?_, ?_, ?_, ?_⟩ <;> simp only <;> omega)
  rw [HX.out]
  go_enter Tryz.func63, Tryz.ntmps63
  go_wp2
  go_ret
  exact ⟨rfl, HB.out⟩
 ·have q0 : (page != 0) = true := by rw [bne_iff_ne]; exact p0
  by_cases p1 : page < 2
  ·skip
   have HX : Hid (decide (Rt.May ⟨seq, page, pages, lsn, next, shard, tail⟩) = false) := decide_eq_false fun h => by
    obtain ⟨h1, h2, h3, h4, h5, h6, h7, h8, h9, h10, h11, h12⟩ := h
    simp only at h1 h2 h3 h4 h5 h6 h7 h8 h9 h10 h11 h12
    omega
   rw [HX.out]
   go_enter Tryz.func63, Tryz.ntmps63
   go_wp2
   go_ret
   exact ⟨rfl, HB.out⟩
  by_cases p2 : pages - 1 < page
  ·skip
   have HX : Hid (decide (Rt.May ⟨seq, page, pages, lsn, next, shard, tail⟩) = false) := decide_eq_false fun h => by
    obtain ⟨h1, h2, h3, h4, h5, h6, h7, h8, h9, h10, h11, h12⟩ := h
    simp only at h1 h2 h3 h4 h5 h6 h7 h8 h9 h10 h11 h12
    omega
   rw [HX.out]
   go_enter Tryz.func63, Tryz.ntmps63
   go_wp2
   go_ret
   exact ⟨rfl, HB.out⟩
  by_cases b0 : 1 ≤ (next : Int)
  rotate_left
  ·skip
   have HX : Hid (decide (Rt.May ⟨seq, page, pages, lsn, next, shard, tail⟩) = false) := decide_eq_false fun h => by
    obtain ⟨h1, h2, h3, h4, h5, h6, h7, h8, h9, h10, h11, h12⟩ := h
    simp only at h1 h2 h3 h4 h5 h6 h7 h8 h9 h10 h11 h12
    omega
   rw [HX.out]
   go_enter Tryz.func63, Tryz.ntmps63
   go_wp2
   go_ret
   exact ⟨rfl, HB.out⟩
  by_cases b1 : (next : Int) ≤ 4294967296
  rotate_left
  ·skip
   have HX : Hid (decide (Rt.May ⟨seq, page, pages, lsn, next, shard, tail⟩) = false) := decide_eq_false fun h => by
    obtain ⟨h1, h2, h3, h4, h5, h6, h7, h8, h9, h10, h11, h12⟩ := h
    simp only at h1 h2 h3 h4 h5 h6 h7 h8 h9 h10 h11 h12
    omega
   rw [HX.out]
   go_enter Tryz.func63, Tryz.ntmps63
   go_wp2
   go_ret
   exact ⟨rfl, HB.out⟩
  by_cases b2 : 0 ≤ shard
  rotate_left
  ·skip
   have HX : Hid (decide (Rt.May ⟨seq, page, pages, lsn, next, shard, tail⟩) = false) := decide_eq_false fun h => by
    obtain ⟨h1, h2, h3, h4, h5, h6, h7, h8, h9, h10, h11, h12⟩ := h
    simp only at h1 h2 h3 h4 h5 h6 h7 h8 h9 h10 h11 h12
    omega
   rw [HX.out]
   go_enter Tryz.func63, Tryz.ntmps63
   go_wp2
   go_ret
   exact ⟨rfl, HB.out⟩
  by_cases b3 : shard ≤ 2147483647
  rotate_left
  ·skip
   have HX : Hid (decide (Rt.May ⟨seq, page, pages, lsn, next, shard, tail⟩) = false) := decide_eq_false fun h => by
    obtain ⟨h1, h2, h3, h4, h5, h6, h7, h8, h9, h10, h11, h12⟩ := h
    simp only at h1 h2 h3 h4 h5 h6 h7 h8 h9 h10 h11 h12
    omega
   rw [HX.out]
   go_enter Tryz.func63, Tryz.ntmps63
   go_wp2
   go_ret
   exact ⟨rfl, HB.out⟩
  by_cases b4 : 0 ≤ tail
  rotate_left
  ·skip
   have HX : Hid (decide (Rt.May ⟨seq, page, pages, lsn, next, shard, tail⟩) = false) := decide_eq_false fun h => by
    obtain ⟨h1, h2, h3, h4, h5, h6, h7, h8, h9, h10, h11, h12⟩ := h
    simp only at h1 h2 h3 h4 h5 h6 h7 h8 h9 h10 h11 h12
    omega
   rw [HX.out]
   go_enter Tryz.func63, Tryz.ntmps63
   go_wp2
   go_ret
   exact ⟨rfl, HB.out⟩
  by_cases b5 : tail ≤ 1048576
  rotate_left
  ·skip
   have HX : Hid (decide (Rt.May ⟨seq, page, pages, lsn, next, shard, tail⟩) = false) := decide_eq_false fun h => by
    obtain ⟨h1, h2, h3, h4, h5, h6, h7, h8, h9, h10, h11, h12⟩ := h
    simp only at h1 h2 h3 h4 h5 h6 h7 h8 h9 h10 h11 h12
    omega
   rw [HX.out]
   go_enter Tryz.func63, Tryz.ntmps63
   go_wp2
   go_ret
   exact ⟨rfl, HB.out⟩
  have HX : Hid (decide (Rt.May ⟨seq, page, pages, lsn, next, shard, tail⟩) = true) := decide_eq_true (by
   refine ⟨?_, ?_, ?_, ?_, ?_, ?_, ?_, ?_, ?_, ?_, ?_, ?_⟩ <;> simp only <;> omega)
  rw [HX.out]
  go_enter Tryz.func63, Tryz.ntmps63
  go_wp2
  go_ret
  exact ⟨rfl, HB.out⟩
end Go.Proofs.YtiafeniflkikeaaGreat
namespace Go.Proofs.YtiafeniflkikeaaGreat
open Go.RowKit
set_option linter.unusedVariables false
def U8 (x : Nat) : Prop := x < 256
def yK : El Tryz.prog Nat where
 e := 5
 s := 40
 size := 1
 bytes := 1
 zero := .int .u8 0
 z := 0
 enc := fun x => [.int .u8 (x : Nat)]
 ok := U8
 len := fun _ => rfl
 one := fun x u hu => by simp at hu; subst hu; rfl
 okz := by unfold U8; omega
 encz := rfl
 pos := by decide
 under := Tryz.underlying40
 info := by kernel_rfl
section
variable {w : World} {base B n c : Nat} {A : Option Addr} {l : List Nat}
end
end Go.Proofs.YtiafeniflkikeaaGreat
namespace Go.Proofs.YtiafeniflkikeaaGreat
open Go.RowKit
set_option linter.unusedVariables false
structure Turned (F : Nat → Prop) (w w' : World) : Prop where
 os : w'.os = w.os
 tape : w'.tape = w.tape
 output : w'.output = w.output
 size : w.heap.size ≤ w'.heap.size
 block : ∀ k, k < w.heap.size → ¬ F k → w'.heap[k]? = w.heap[k]?
section
variable {P : Program} {α : Type} {K : El P α} {w w1 w' : World} {F G : Nat → Prop}
theorem Turned.refl (F : Nat → Prop) (w : World) : Turned F w w := ⟨rfl, rfl, rfl, Nat.le_refl _, fun _ _ _ => rfl⟩
theorem Turned.trans (h : Turned F w w1) (h2 : Turned G w1 w') (hFG : ∀ k, k < w.heap.size → G k → F k) : Turned F w w' :=
 ⟨h2.os.trans h.os, h2.tape.trans h.tape, h2.output.trans h.output, Nat.le_trans h.size h2.size, fun k hk hn => (h2.block k (Nat.lt_of_lt_of_le hk h.size) (fun hg => hn (hFG k hk hg))).trans (h.block k hk hn)⟩
theorem Turned.mono (h : Turned F w w') (hFG : ∀ k, k < w.heap.size → F k → G k) : Turned G w w' := ⟨h.os, h.tape, h.output, h.size, fun k hk hn => h.block k hk (fun hf => hn (hFG k hk hf))⟩
theorem Turned.of_below {B : Nat} (h : Below B w w') : Turned (fun k => B ≤ k) w w' := ⟨h.os, h.tape, h.output, h.size, fun k _ hn => h.block k (by omega)⟩
theorem Turned.of_grown {row : Option Nat} (h : w.grownBy w' row) : Turned (fun k => row = some k) w w' := ⟨h.os, h.tape, h.output, h.size, fun k hk hn => h.block k hk (fun e => hn e.symm)⟩
theorem Turned.below (h : Turned F w w') {B : Nat} (hB : B ≤ w.heap.size) (hF : ∀ k, F k → B ≤ k) : Below B w w' := ⟨h.os, h.tape, h.output, h.size, fun k hk => h.block k (by omega) (fun hf => by have := hF k hf; omega)⟩
theorem Turned.cell (h : Turned F w w') {p : Addr} {v : Value} (hc : w.cell? p = some v) (hn : ¬ F p.block) : w'.cell? p = some v :=
 (World.cell?_of_block (h.block p.block (World.block_lt_of_cell? w p hc) hn)).trans hc
theorem Turned.alloc (h : Turned F w w') (o : Obj) : Turned F w (w'.alloc o) := h.trans (G := fun _ => False) (Turned.mono (Turned.of_grown (World.grownBy_alloc w' o none)) (fun k _ h => by cases h)) (fun _ _ h => h.elim)
theorem Turned.setCell (h : Turned F w w') {p : Addr} (hp : p.block < w.heap.size → F p.block) (u : Value) : Turned F w (w'.setCell p u) :=
 ⟨h.os, h.tape, h.output, by simpa using h.size, fun k hk hn => (heap_setCell_other w' p k u (fun e => hn (by subst e; exact hp hk))).trans (h.block k hk hn)⟩
theorem Turned.setRow (h : Turned F w w') {g : Nat} (hg : g < w.heap.size → F g) (cs : Array Value) : Turned F w (w'.setRow g cs) :=
 ⟨h.os, h.tape, h.output, by simpa using h.size, fun k hk hn => (setRow_other w' g k cs (fun e => hn (by subst e; exact hg hk))).trans (h.block k hk hn)⟩
theorem Turned.drew (h : Turned F w w') : Turned F w w'.drew := ⟨h.os, h.tape, h.output, h.size, h.block⟩
theorem OwnL.turned_ {base : Nat} {v : Value} {l : List α} (h : OwnL K w base v l) (ht : Turned F w w') (hn : ∀ k, v.ownBlock = some k → ¬ F k) : OwnL K w' base v l :=
 h.of_block fun k hk => ht.block k (h.lt_ k hk).2 (hn k hk)
theorem Lv.turned_ {B : Nat} {v : Value} {l : List α} (h : Lv K w B v l) (ht : Turned F w w') (hn : ∀ k, k < B → ¬ F k) : Lv K w' B v l := by
 obtain ⟨A, c, e, h1, h2, h3, h4, h5⟩ := h
 refine ⟨A, c, e, h1, h2, h3, h4, fun hp => ?_⟩
 obtain ⟨b, off, e, hl, hc⟩ := h5 hp
 exact ⟨b, off, e, hl, fun j u hj => ht.cell (hc j u hj) (hn b hl)⟩
theorem Lv.turnedB_ {B : Nat} {v : Value} {l : List α} (h : Lv K w B v l) (ht : Turned F w w') (hn : 0 < l.length → ∀ k, v.ownBlock = some k → ¬ F k) : Lv K w' B v l := by
 obtain ⟨A, c, e, h1, h2, h3, h4, h5⟩ := h
 refine ⟨A, c, e, h1, h2, h3, h4, fun hp => ?_⟩
 obtain ⟨b, off, eA, hl, hc⟩ := h5 hp
 refine ⟨b, off, eA, hl, fun j u hj => ht.cell (hc j u hj) (hn hp b ?_)⟩
 subst e eA
 rfl
theorem Lv.blk_ {B : Nat} {v : Value} {l : List α} (h : Lv K w B v l) (hp : 0 < l.length) {k : Nat} (hk : v.ownBlock = some k) : k < B := by
 obtain ⟨A, c, e, h1, h2, h3, h4, h5⟩ := h
 obtain ⟨b, off, eA, hl, hc⟩ := h5 hp
 subst e eA
 have e : b = k := Option.some.inj hk
 omega
theorem Lv.mid_ {A : Option Addr} {n c B : Nat} {l : List α} (h : Lv K w B (.slice A n c) l) {k : Nat} (hk : k < l.length) :
  ∃ b off x, A = some ⟨b, off, none⟩ ∧ b < B ∧ K.ok x ∧ l[k]? = some x ∧ w.rangeAt b (off + k * K.size) (K.enc x) := by
 obtain ⟨b, off, x, h1, h2, h3, h4, h5⟩ := h.at_ hk
 exact ⟨b, off, x, h1, h2, h3, h4, fun j u hj => by rw [Nat.add_assoc]; exact h5 j u hj⟩
theorem Lv.drop_ {A : Option Addr} {n c B : Nat} {l : List α} (h : Lv K w B (.slice A n c) l) {k : Nat} (hk : k ≤ l.length) : Lv K w B (.slice (A.map (·.add (k * K.size))) (n - k) (c - k)) (l.drop k) := by
 obtain ⟨A', c', e, h1, h2, h3, h4, h5⟩ := h
 injection e with e1 e2 e3
 subst e1 e2 e3
 refine ⟨_, _, by rw [List.length_drop], by rw [List.length_drop]; omega, by omega, fun hA => ?_, fun x hx => h4 x (List.mem_of_mem_drop hx), fun hp => ?_⟩
 ·cases A with
  | none => have := h3 rfl; omega
  | some a => simp at hA
 ·rw [List.length_drop] at hp
  obtain ⟨b, off, rfl, hb, hc⟩ := h5 (by omega)
  refine ⟨b, off + k * K.size, by simp [add_addr], hb, fun j u hj => ?_⟩
  have e : K.flat l = K.flat (l.take k) ++ K.flat (l.drop k) := by rw [← flat_app, List.take_append_drop]
  have e2 : (K.flat (l.take k)).length = k * K.size := by rw [flat_len, List.length_take, Nat.min_eq_left hk]
  have := hc (k * K.size + j) u (by rw [e, List.getElem?_append_right (by omega), e2, Nat.add_sub_cancel_left]; exact hj)
  rw [← Nat.add_assoc] at this
  exact this
end
end Go.Proofs.YtiafeniflkikeaaGreat
namespace Go.Proofs.YtiafeniflkikeaaGreat
open Go.RowKit
set_option linter.unusedVariables false
structure RawP where
 n : Nat
 state : Nat
 kind : Nat
 A : Option Addr
 m : Nat
 c : Nat
def RawPOk (x : RawP) : Prop := x.n < 1048576 ∧ x.state < 256 ∧ x.kind < 256
def gK : El Tryz.prog RawP where
 e := 99
 s := 35
 size := 4
 bytes := 48
 zero := .agg #[.int .i64 0, .int .i64 0, .int .u8 0, .slice none 0 0]
 z := ⟨0, 0, 0, none, 0, 0⟩
 enc := fun x => [.int .i64 (x.n : Nat), .int .i64 (x.state : Nat), .int .u8 (x.kind : Nat), .slice x.A x.m x.c]
 ok := RawPOk
 len := fun _ => rfl
 one := fun x u hu => by simp at hu; rcases hu with rfl | rfl | rfl | rfl <;> rfl
 okz := by simp [RawPOk]
 encz := rfl
 pos := by decide
 under := Tryz.underlying35
 info := by kernel_rfl
def pgC (x : RawP) : Array Value := #[.int .i64 (x.n : Nat), .int .i64 (x.state : Nat), .int .u8 (x.kind : Nat), .slice x.A x.m x.c]
theorem pg_size : (Tryz.prog.info? 99).map (·.size) = some 4 := by kernel_rfl
def LvR {P : Program} {α : Type} (K : El P α) (w : World) (R : Nat → Prop) (v : Value) (l : List α) : Prop := Lv K w w.heap.size v l ∧ (0 < l.length → ∀ k, v.ownBlock = some k → R k)
section
variable {P : Program} {α : Type} {K : El P α} {w w' : World} {R S F : Nat → Prop} {v : Value} {l : List α}
theorem LvR.turned_ (h : LvR K w R v l) (ht : Turned F w w') (hn : ∀ k, R k → ¬ F k) : LvR K w' R v l :=
 ⟨(h.1.turnedB_ ht (fun hp k hk => hn k (h.2 hp k hk))).mono_ ht.size, h.2⟩
theorem LvR.below_ (h : LvR K w R v l) (hb : Below w.heap.size w w') : LvR K w' R v l := ⟨(h.1.below_ hb (Nat.le_refl _)).mono_ hb.size, h.2⟩
theorem LvR.more_ (h : LvR K w R v l) (hR : ∀ k, R k → S k) : LvR K w S v l := ⟨h.1, fun hp k hk => hR k (h.2 hp k hk)⟩
theorem LvR.nil_ (w : World) (R : Nat → Prop) : LvR K w R (.slice none 0 0) [] := ⟨Lv.nil_ _ _ _, fun h => by simp at h⟩
theorem OwnL.lvr_ {base : Nat} (h : OwnL K w base v l) (hR : ∀ k, base ≤ k → k < w.heap.size → R k) : LvR K w R v l := ⟨h.form_, fun _ k hk => hR k (h.lt_ k hk).1 (h.lt_ k hk).2⟩
end
def PgOf (w : World) (R : Nat → Prop) (x : RawP) (o : Pa.Page) : Prop := o.n = x.n ∧ o.state = x.state ∧ o.kind = x.kind ∧ LvR yK w R (.slice x.A x.m x.c) o.body
def Pgs (w : World) (R : Nat → Prop) (v : Value) (l : List Pa.Page) : Prop :=
 ∃ us : List RawP, us.length = l.length ∧ LvR gK w R v us ∧ ∀ (j : Nat) (x : RawP) (o : Pa.Page), us[j]? = some x → l[j]? = some o → PgOf w R x o
def PgsO (w : World) (R : Nat → Prop) (us : List RawP) (l : List Pa.Page) : Prop := us.length = l.length ∧ ∀ (j : Nat) (x : RawP) (o : Pa.Page), us[j]? = some x → l[j]? = some o → PgOf w R x o
section
variable {w w' : World} {R S F : Nat → Prop} {v : Value} {l : List Pa.Page} {us : List RawP} {x : RawP} {o : Pa.Page}
theorem PgOf.turned_ (h : PgOf w R x o) (ht : Turned F w w') (hn : ∀ k, R k → ¬ F k) : PgOf w' R x o := ⟨h.1, h.2.1, h.2.2.1, h.2.2.2.turned_ ht hn⟩
theorem PgOf.below_ (h : PgOf w R x o) (hb : Below w.heap.size w w') : PgOf w' R x o := ⟨h.1, h.2.1, h.2.2.1, h.2.2.2.below_ hb⟩
theorem PgOf.more_ (h : PgOf w R x o) (hR : ∀ k, R k → S k) : PgOf w S x o := ⟨h.1, h.2.1, h.2.2.1, h.2.2.2.more_ hR⟩
theorem Pgs.turned_ (h : Pgs w R v l) (ht : Turned F w w') (hn : ∀ k, R k → ¬ F k) : Pgs w' R v l := by
 obtain ⟨us, h1, h2, h3⟩ := h
 exact ⟨us, h1, h2.turned_ ht hn, fun j x o hx ho => (h3 j x o hx ho).turned_ ht hn⟩
theorem Pgs.below_ (h : Pgs w R v l) (hb : Below w.heap.size w w') : Pgs w' R v l := by
 obtain ⟨us, h1, h2, h3⟩ := h
 exact ⟨us, h1, h2.below_ hb, fun j x o hx ho => (h3 j x o hx ho).below_ hb⟩
theorem Pgs.more_ (h : Pgs w R v l) (hR : ∀ k, R k → S k) : Pgs w S v l := by
 obtain ⟨us, h1, h2, h3⟩ := h
 exact ⟨us, h1, h2.more_ hR, fun j x o hx ho => (h3 j x o hx ho).more_ hR⟩
theorem PgsO.turned_ (h : PgsO w R us l) (ht : Turned F w w') (hn : ∀ k, R k → ¬ F k) : PgsO w' R us l := ⟨h.1, fun j x o hx ho => (h.2 j x o hx ho).turned_ ht hn⟩
theorem PgsO.below_ (h : PgsO w R us l) (hb : Below w.heap.size w w') : PgsO w' R us l := ⟨h.1, fun j x o hx ho => (h.2 j x o hx ho).below_ hb⟩
theorem PgsO.more_ (h : PgsO w R us l) (hR : ∀ k, R k → S k) : PgsO w S us l := ⟨h.1, fun j x o hx ho => (h.2 j x o hx ho).more_ hR⟩
theorem PgsO.nil_ (w : World) (R : Nat → Prop) : PgsO w R [] [] := ⟨rfl, fun j x o hx => by simp at hx⟩
theorem PgsO.snoc (h : PgsO w R us l) (hx : PgOf w R x o) : PgsO w R (us ++ [x]) (l ++ [o]) := by
 refine ⟨by simp [h.1], fun j y p hy hp => ?_⟩
 have hl := h.1
 rcases Nat.lt_or_ge j us.length with hj | hj
 ·rw [List.getElem?_append_left hj] at hy
  rw [List.getElem?_append_left (by omega)] at hp
  exact h.2 j y p hy hp
 ·rw [List.getElem?_append_right hj] at hy
  rw [List.getElem?_append_right (by omega)] at hp
  have h0 : j - us.length = 0 := by have := (List.getElem?_eq_some_iff.1 hy).1; simp at this; omega
  rw [h0] at hy
  rw [show j - l.length = 0 by omega] at hp
  simp at hy hp
  subst hy hp
  exact hx
theorem PgsO.take (h : PgsO w R us l) (k : Nat) : PgsO w R (us.take k) (l.take k) := by
 refine ⟨by simp [h.1], fun j y p hy hp => ?_⟩
 rw [List.getElem?_take] at hy hp
 split at hy
 ·rw [if_pos (by assumption)] at hp; exact h.2 j y p hy hp
 ·cases hy
theorem PgsO.drop (h : PgsO w R us l) (k : Nat) : PgsO w R (us.drop k) (l.drop k) := by
 refine ⟨by simp [h.1], fun j y p hy hp => ?_⟩
 rw [List.getElem?_drop] at hy hp
 exact h.2 _ y p hy hp
theorem PgsO.app {us2 : List RawP} {l2 : List Pa.Page} (h : PgsO w R us l) (h2 : PgsO w R us2 l2) : PgsO w R (us ++ us2) (l ++ l2) := by
 refine ⟨by simp [h.1, h2.1], fun j y p hy hp => ?_⟩
 have hl := h.1
 rcases Nat.lt_or_ge j us.length with hj | hj
 ·rw [List.getElem?_append_left hj] at hy
  rw [List.getElem?_append_left (by omega)] at hp
  exact h.2 j y p hy hp
 ·rw [List.getElem?_append_right hj] at hy
  rw [List.getElem?_append_right (by omega), ← hl] at hp
  exact h2.2 _ y p hy hp
theorem Pgs.at_ {A : Option Addr} {n c : Nat} (h : Pgs w R (.slice A n c) l) {k : Nat} (hk : k < l.length) :
  ∃ b off x o, A = some ⟨b, off, none⟩ ∧ b < w.heap.size ∧ R b ∧ RawPOk x ∧ l[k]? = some o ∧ PgOf w R x o ∧ w.rangeAt b (off + k * 4) (pgC x).toList := by
 obtain ⟨us, h1, h2, h3⟩ := h
 obtain ⟨b, off, x, hA, hb, hx, hq, hm⟩ := h2.1.mid_ (k := k) (by omega)
 exact ⟨b, off, x, l[k], hA, hb, h2.2 (by omega) b (by rw [hA]; rfl), hx, List.getElem?_eq_getElem hk, h3 k x _ hq (List.getElem?_eq_getElem hk), hm⟩
end
def paC (r : Rt.Root) (A : Option Addr) (n c s : Nat) : Array Value := #[.int .u64 (r.seq : Nat), .int .i64 r.page, .int .i64 r.pages, .int .u64 (r.lsn : Nat), .int .u64 (r.next : Nat), .int .i64 r.shard, .int .i64 r.tail, .slice A n c, .int .i64 (s : Nat)]
theorem paC_size (r : Rt.Root) (A : Option Addr) (n c s : Nat) : (paC r A n c s).size = 9 := rfl
theorem paC_one (r : Rt.Root) (A : Option Addr) (n c s : Nat) : (paC r A n c s).all (·.oneCell') = true := by simp [paC, Value.oneCell']
theorem pa_size : (Tryz.prog.info? 37).map (·.size) = some 9 := by kernel_rfl
def none9 : Array Value := paC Rt.zero none 0 0 0
theorem pa_zero : (Tryz.prog.info? 37).map (fun i => (i.zero, i.size)) = some (some (.agg none9), 9) := by kernel_rfl
def PaIs (w : World) (R : Nat → Prop) (v : Value) (m : Pa.M) : Prop :=
 ∃ A c, v = .agg (paC m.root A m.l.length c m.size) ∧ Rt.Fit m.root ∧ m.size < 1099511627776 ∧ Pgs w R (.slice A m.l.length c) m.l
section
variable {w w' : World} {R S F : Nat → Prop} {v : Value} {m : Pa.M}
theorem PaIs.turned_ (h : PaIs w R v m) (ht : Turned F w w') (hn : ∀ k, R k → ¬ F k) : PaIs w' R v m := by
 obtain ⟨A, c, h1, h2, h3, h4⟩ := h
 exact ⟨A, c, h1, h2, h3, h4.turned_ ht hn⟩
theorem PaIs.below_ (h : PaIs w R v m) (hb : Below w.heap.size w w') : PaIs w' R v m := by
 obtain ⟨A, c, h1, h2, h3, h4⟩ := h
 exact ⟨A, c, h1, h2, h3, h4.below_ hb⟩
theorem PaIs.more_ (h : PaIs w R v m) (hR : ∀ k, R k → S k) : PaIs w S v m := by
 obtain ⟨A, c, h1, h2, h3, h4⟩ := h
 exact ⟨A, c, h1, h2, h3, h4.more_ hR⟩
end
def RX (R : Nat → Prop) (w w' : World) : Nat → Prop := fun k => R k ∨ (w.heap.size ≤ k ∧ k < w'.heap.size)
def IsPa (R : Nat → Prop) (m : Pa.M) (w : World) (e : Ending) (w' : World) : Prop := ∃ v, e = .returned v ∧ PaIs w' (RX R w w') v m ∧ Below w.heap.size w w'
def IsPaE (R : Nat → Prop) (r : Pa.M × Nat) (w : World) (e : Ending) (w' : World) : Prop := ∃ v, e = .returned (.tuple #[v, .int .i64 (r.2 : Nat)]) ∧ PaIs w' (RX R w w') v r.1 ∧ Below w.heap.size w w'
def IsPaN (R : Nat → Prop) (r : Pa.M × Nat × Nat) (w : World) (e : Ending) (w' : World) : Prop := ∃ v, e = .returned (.tuple #[v, .int .i64 (r.2.1 : Nat), .int .i64 (r.2.2 : Nat)]) ∧ PaIs w' (RX R w w') v r.1 ∧ Below w.heap.size w w'
structure PaAt (w : World) (g : Nat) (r : Rt.Root) (A : Option Addr) (n c s : Nat) : Prop where
 row : Rw w g 37 (paC r A n c s)
theorem PaAt.list {w : World} {g n c s : Nat} {r : Rt.Root} {A : Option Addr} (h : PaAt w g r A n c s) : w.cell? ⟨g, 7, none⟩ = some (.slice A n c) := h.row.cell 7
end Go.Proofs.YtiafeniflkikeaaGreat
