/-
  RtMem: A root in memory: seven cells.
  RRtA: stookref16.Put.
  RRtB: stookref16.Get.
-/
import Derived.Test.YtoefogmjekcbeaaPk18
import Derived.Test.YtoefogmjekcbeaaPk03
import Derived.Test.YtoefogmjekcbeaaPk10
import Derived.Test.YtoefogmjekcbeaaPk06
import Derived.Test.YtoefogmjekcbeaaPk01
import Derived.Test.YtoefogmjekcbeaaPk17
import Derived.StillTailTactics
import Derived.Deep.QuietTactic
import Derived.BigQuiet
import Derived.Deep.RegionHeld3
namespace Go.Proofs.Ytoefogmjekcbeaa
open Go.RowKit
set_option linter.unusedVariables false
def rtC (r : Rt.Root) : Array Value := #[.int .u64 (r.seq : Nat), .int .i64 r.page, .int .i64 r.pages, .int .u64 (r.lsn : Nat), .int .u64 (r.next : Nat), .int .i64 r.shard, .int .i64 r.tail]
structure Rt.Fit (r : Rt.Root) : Prop where
  seq : r.seq < 18446744073709551616
  page : I64 r.page
  pages : I64 r.pages
  lsn : r.lsn < 18446744073709551616
  next : r.next < 18446744073709551616
  shard : I64 r.shard
  tail : I64 r.tail
theorem Rt.fit_zero : Rt.Fit Rt.zero := by constructor <;> simp [Rt.zero, I64]
theorem Rt.fit_may {r : Rt.Root} (h : Rt.May r) : Rt.Fit r := by
  obtain ⟨h1, h2, h3, h4, h5, h6, h7, h8, h9, h10, h11, h12⟩ := h
  constructor <;> (try unfold I64) <;> omega
theorem rtC_size (r : Rt.Root) : (rtC r).size = 7 := rfl
theorem rtC_one (r : Rt.Root) : (rtC r).all (·.oneCell') = true := by simp [rtC, Value.oneCell']
theorem rt_size : (Try.prog.info? 24).map (·.size) = some 7 := by kernel_rfl
def none7 : Array Value := rtC Rt.zero
theorem rt_zero : (Try.prog.info? 24).map (fun i => (i.zero, i.size)) = some (some (.agg none7), 7) := by kernel_rfl
theorem rt_built0 : Try.prog.built 24 [] = some none7 := by kernel_rfl
theorem rt_built (r : Rt.Root) :
    Try.prog.built 24 [(0, .int .u64 (r.seq : Nat)), (1, .int .i64 r.page), (2, .int .i64 r.pages), (3, .int .u64 (r.lsn : Nat)), (4, .int .u64 (r.next : Nat)), (5, .int .i64 r.shard), (6, .int .i64 r.tail)] = some (rtC r) := by kernel_rfl
/-- A call that answers a root and an error. -/
def IsRtE (r : Rt.Root × Nat) (w : World) (e : Ending) (w' : World) : Prop :=
  e = .returned (.tuple #[.agg (rtC r.1), .int .i64 (r.2 : Nat)]) ∧ Rt.Fit r.1 ∧ Below w.heap.size w w'
theorem results_rt {fn : Func} {p u1 : Tmp} (h : fn.results = #[.cell p 24, .tmp u1]) (tmps : Array Value) (w : World) (g : Nat) (c : Array Value) (x : Value) (t : TypeId)
    (hp : tmps.getD p undef = .pointer (some ⟨g, 0, none⟩)) (hx : tmps.getD u1 undef = x) (hc : c.size = 7) (hg : w.heap[g]? = some (.cells c t (0, 0))) :
    (results fn tmps).run Try.prog w = .ok (.tuple #[.agg c, x]) w := by
  have hp' : tmps[p]?.getD undef = .pointer (some ⟨g, 0, none⟩) := by simpa using hp
  have hx' : tmps[u1]?.getD undef = x := by simpa using hx
  simp [results, h, hp', hx', asAddr, run_loadVar_row w g t _ _ (0, 0) _ hg Try.underlying24 rfl (by rw [hc]; exact rt_size)]
theorem IsRtE.ret {fn : Func} {p u1 : Tmp} {w w' : World} {a : Act} {g e : Nat} {r : Rt.Root × Nat} {y : Rt.Root} {x : Int} (hf : fn.results = #[.cell p 24, .tmp u1]) (ha : a.defers = [])
    (hp : a.tmps.getD p undef = .pointer (some ⟨g, 0, none⟩)) (hx : a.tmps.getD u1 undef = .int .i64 x) (hg : Rw w' g 24 (rtC y)) (hr : r = (y, e)) (he : x = (e : Nat)) (hy : Rt.Fit y) (hb : Below w.heap.size w w') :
    bodyPost Try.prog fn (IsRtE r w) Exit.ret a w' := by
  subst hr he
  exact bodyPost_ret (results_rt hf _ _ g _ _ _ hp hx (rtC_size y) hg) ha ⟨rfl, hy, hb⟩

set_option maxHeartbeats 2000000 in
set_option maxRecDepth 100000 in
theorem rrtmay_any (r : Rt.Root) (w : World) (hf : Rt.Fit r) : Calls Try.prog 20 #[.agg (rtC r)] w (IsBool (decide (Rt.May r)) w) := by
  obtain ⟨W, hW⟩ : ∃ W, w.alloc (.cells (rtC r) 24) = W := ⟨_, rfl⟩
  obtain ⟨hx, hb⟩ := bxt_new hW
  have HB := Lib.hid hb
  have c0 : W.cell? ⟨w.heap.size, 0, none⟩ = some (.int .u64 (r.seq : Nat)) := hx.2.cell 0
  have c1 : W.cell? ⟨w.heap.size, 1, none⟩ = some (.int .i64 r.page) := hx.2.cell 1
  have c2 : W.cell? ⟨w.heap.size, 2, none⟩ = some (.int .i64 r.pages) := hx.2.cell 2
  have c3 : W.cell? ⟨w.heap.size, 3, none⟩ = some (.int .u64 (r.lsn : Nat)) := hx.2.cell 3
  have c4 : W.cell? ⟨w.heap.size, 4, none⟩ = some (.int .u64 (r.next : Nat)) := hx.2.cell 4
  have c5 : W.cell? ⟨w.heap.size, 5, none⟩ = some (.int .i64 r.shard) := hx.2.cell 5
  have c6 : W.cell? ⟨w.heap.size, 6, none⟩ = some (.int .i64 r.tail) := hx.2.cell 6
  have hp := hf.pages
  unfold I64 at hp
  obtain ⟨D, hD⟩ : ∃ D, rtC r = D := ⟨_, rfl⟩
  rw [hD] at hW ⊢
  clear hx hb hf hD
  obtain ⟨seq, page, pages, lsn, next, shard, tail⟩ := r
  simp only at c0 c1 c2 c3 c4 c5 c6 hp
  have hw : IntKind.i64.wrap (pages - 1) = pages - 1 ∨ pages = -9223372036854775808 := by rw [IntKind.wrap_i64]; omega
  by_cases a0 : (seq : Int) < 1
  · clear hw
    have HX : Hid (decide (Rt.May ⟨seq, page, pages, lsn, next, shard, tail⟩) = false) := decide_eq_false fun h => by
      obtain ⟨h1, h2, h3, h4, h5, h6, h7, h8, h9, h10, h11, h12⟩ := h
      simp only at h1 h2 h3 h4 h5 h6 h7 h8 h9 h10 h11 h12
      omega
    rw [HX.out]
    go_enter Try.func20, Try.ntmps20
    go_wp2
    go_ret
    exact ⟨rfl, HB.out⟩
  by_cases a1 : (4611686018427387904 : Int) < (seq : Int)
  · clear hw
    have HX : Hid (decide (Rt.May ⟨seq, page, pages, lsn, next, shard, tail⟩) = false) := decide_eq_false fun h => by
      obtain ⟨h1, h2, h3, h4, h5, h6, h7, h8, h9, h10, h11, h12⟩ := h
      simp only at h1 h2 h3 h4 h5 h6 h7 h8 h9 h10 h11 h12
      omega
    rw [HX.out]
    go_enter Try.func20, Try.ntmps20
    go_wp2
    go_ret
    exact ⟨rfl, HB.out⟩
  by_cases a2 : pages < 2
  · clear hw
    have HX : Hid (decide (Rt.May ⟨seq, page, pages, lsn, next, shard, tail⟩) = false) := decide_eq_false fun h => by
      obtain ⟨h1, h2, h3, h4, h5, h6, h7, h8, h9, h10, h11, h12⟩ := h
      simp only at h1 h2 h3 h4 h5 h6 h7 h8 h9 h10 h11 h12
      omega
    rw [HX.out]
    go_enter Try.func20, Try.ntmps20
    go_wp2
    go_ret
    exact ⟨rfl, HB.out⟩
  by_cases a3 : 65536 < pages
  · clear hw
    have HX : Hid (decide (Rt.May ⟨seq, page, pages, lsn, next, shard, tail⟩) = false) := decide_eq_false fun h => by
      obtain ⟨h1, h2, h3, h4, h5, h6, h7, h8, h9, h10, h11, h12⟩ := h
      simp only at h1 h2 h3 h4 h5 h6 h7 h8 h9 h10 h11 h12
      omega
    rw [HX.out]
    go_enter Try.func20, Try.ntmps20
    go_wp2
    go_ret
    exact ⟨rfl, HB.out⟩
  by_cases a4 : (4611686018427387904 : Int) < (lsn : Int)
  · clear hw
    have HX : Hid (decide (Rt.May ⟨seq, page, pages, lsn, next, shard, tail⟩) = false) := decide_eq_false fun h => by
      obtain ⟨h1, h2, h3, h4, h5, h6, h7, h8, h9, h10, h11, h12⟩ := h
      simp only at h1 h2 h3 h4 h5 h6 h7 h8 h9 h10 h11 h12
      omega
    rw [HX.out]
    go_enter Try.func20, Try.ntmps20
    go_wp2
    go_ret
    exact ⟨rfl, HB.out⟩
  have hw1 : IntKind.i64.wrap (pages - 1) = pages - 1 := by omega
  clear hw
  by_cases p0 : page = 0
  · have q0 : (page != 0) = false := by rw [bne_eq_false_iff_eq]; exact p0
    by_cases b0 : 1 ≤ (next : Int)
    rotate_left
    · skip
      have HX : Hid (decide (Rt.May ⟨seq, page, pages, lsn, next, shard, tail⟩) = false) := decide_eq_false fun h => by
        obtain ⟨h1, h2, h3, h4, h5, h6, h7, h8, h9, h10, h11, h12⟩ := h
        simp only at h1 h2 h3 h4 h5 h6 h7 h8 h9 h10 h11 h12
        omega
      rw [HX.out]
      go_enter Try.func20, Try.ntmps20
      go_wp2
      go_ret
      exact ⟨rfl, HB.out⟩
    by_cases b1 : (next : Int) ≤ 4294967296
    rotate_left
    · skip
      have HX : Hid (decide (Rt.May ⟨seq, page, pages, lsn, next, shard, tail⟩) = false) := decide_eq_false fun h => by
        obtain ⟨h1, h2, h3, h4, h5, h6, h7, h8, h9, h10, h11, h12⟩ := h
        simp only at h1 h2 h3 h4 h5 h6 h7 h8 h9 h10 h11 h12
        omega
      rw [HX.out]
      go_enter Try.func20, Try.ntmps20
      go_wp2
      go_ret
      exact ⟨rfl, HB.out⟩
    by_cases b2 : 0 ≤ shard
    rotate_left
    · skip
      have HX : Hid (decide (Rt.May ⟨seq, page, pages, lsn, next, shard, tail⟩) = false) := decide_eq_false fun h => by
        obtain ⟨h1, h2, h3, h4, h5, h6, h7, h8, h9, h10, h11, h12⟩ := h
        simp only at h1 h2 h3 h4 h5 h6 h7 h8 h9 h10 h11 h12
        omega
      rw [HX.out]
      go_enter Try.func20, Try.ntmps20
      go_wp2
      go_ret
      exact ⟨rfl, HB.out⟩
    by_cases b3 : shard ≤ 2147483647
    rotate_left
    · skip
      have HX : Hid (decide (Rt.May ⟨seq, page, pages, lsn, next, shard, tail⟩) = false) := decide_eq_false fun h => by
        obtain ⟨h1, h2, h3, h4, h5, h6, h7, h8, h9, h10, h11, h12⟩ := h
        simp only at h1 h2 h3 h4 h5 h6 h7 h8 h9 h10 h11 h12
        omega
      rw [HX.out]
      go_enter Try.func20, Try.ntmps20
      go_wp2
      go_ret
      exact ⟨rfl, HB.out⟩
    by_cases b4 : 0 ≤ tail
    rotate_left
    · skip
      have HX : Hid (decide (Rt.May ⟨seq, page, pages, lsn, next, shard, tail⟩) = false) := decide_eq_false fun h => by
        obtain ⟨h1, h2, h3, h4, h5, h6, h7, h8, h9, h10, h11, h12⟩ := h
        simp only at h1 h2 h3 h4 h5 h6 h7 h8 h9 h10 h11 h12
        omega
      rw [HX.out]
      go_enter Try.func20, Try.ntmps20
      go_wp2
      go_ret
      exact ⟨rfl, HB.out⟩
    by_cases b5 : tail ≤ 1048576
    rotate_left
    · skip
      have HX : Hid (decide (Rt.May ⟨seq, page, pages, lsn, next, shard, tail⟩) = false) := decide_eq_false fun h => by
        obtain ⟨h1, h2, h3, h4, h5, h6, h7, h8, h9, h10, h11, h12⟩ := h
        simp only at h1 h2 h3 h4 h5 h6 h7 h8 h9 h10 h11 h12
        omega
      rw [HX.out]
      go_enter Try.func20, Try.ntmps20
      go_wp2
      go_ret
      exact ⟨rfl, HB.out⟩
    have HX : Hid (decide (Rt.May ⟨seq, page, pages, lsn, next, shard, tail⟩) = true) := decide_eq_true (by
      refine ⟨?_, ?_, ?_, ?_, ?_, ?_, ?_, ?_, ?_, ?_, ?_, ?_⟩ <;> simp only <;> omega)
    rw [HX.out]
    go_enter Try.func20, Try.ntmps20
    go_wp2
    go_ret
    exact ⟨rfl, HB.out⟩
  · have q0 : (page != 0) = true := by rw [bne_iff_ne]; exact p0
    by_cases p1 : page < 2
    · skip
      have HX : Hid (decide (Rt.May ⟨seq, page, pages, lsn, next, shard, tail⟩) = false) := decide_eq_false fun h => by
        obtain ⟨h1, h2, h3, h4, h5, h6, h7, h8, h9, h10, h11, h12⟩ := h
        simp only at h1 h2 h3 h4 h5 h6 h7 h8 h9 h10 h11 h12
        omega
      rw [HX.out]
      go_enter Try.func20, Try.ntmps20
      go_wp2
      go_ret
      exact ⟨rfl, HB.out⟩
    by_cases p2 : pages - 1 < page
    · skip
      have HX : Hid (decide (Rt.May ⟨seq, page, pages, lsn, next, shard, tail⟩) = false) := decide_eq_false fun h => by
        obtain ⟨h1, h2, h3, h4, h5, h6, h7, h8, h9, h10, h11, h12⟩ := h
        simp only at h1 h2 h3 h4 h5 h6 h7 h8 h9 h10 h11 h12
        omega
      rw [HX.out]
      go_enter Try.func20, Try.ntmps20
      go_wp2
      go_ret
      exact ⟨rfl, HB.out⟩
    by_cases b0 : 1 ≤ (next : Int)
    rotate_left
    · skip
      have HX : Hid (decide (Rt.May ⟨seq, page, pages, lsn, next, shard, tail⟩) = false) := decide_eq_false fun h => by
        obtain ⟨h1, h2, h3, h4, h5, h6, h7, h8, h9, h10, h11, h12⟩ := h
        simp only at h1 h2 h3 h4 h5 h6 h7 h8 h9 h10 h11 h12
        omega
      rw [HX.out]
      go_enter Try.func20, Try.ntmps20
      go_wp2
      go_ret
      exact ⟨rfl, HB.out⟩
    by_cases b1 : (next : Int) ≤ 4294967296
    rotate_left
    · skip
      have HX : Hid (decide (Rt.May ⟨seq, page, pages, lsn, next, shard, tail⟩) = false) := decide_eq_false fun h => by
        obtain ⟨h1, h2, h3, h4, h5, h6, h7, h8, h9, h10, h11, h12⟩ := h
        simp only at h1 h2 h3 h4 h5 h6 h7 h8 h9 h10 h11 h12
        omega
      rw [HX.out]
      go_enter Try.func20, Try.ntmps20
      go_wp2
      go_ret
      exact ⟨rfl, HB.out⟩
    by_cases b2 : 0 ≤ shard
    rotate_left
    · skip
      have HX : Hid (decide (Rt.May ⟨seq, page, pages, lsn, next, shard, tail⟩) = false) := decide_eq_false fun h => by
        obtain ⟨h1, h2, h3, h4, h5, h6, h7, h8, h9, h10, h11, h12⟩ := h
        simp only at h1 h2 h3 h4 h5 h6 h7 h8 h9 h10 h11 h12
        omega
      rw [HX.out]
      go_enter Try.func20, Try.ntmps20
      go_wp2
      go_ret
      exact ⟨rfl, HB.out⟩
    by_cases b3 : shard ≤ 2147483647
    rotate_left
    · skip
      have HX : Hid (decide (Rt.May ⟨seq, page, pages, lsn, next, shard, tail⟩) = false) := decide_eq_false fun h => by
        obtain ⟨h1, h2, h3, h4, h5, h6, h7, h8, h9, h10, h11, h12⟩ := h
        simp only at h1 h2 h3 h4 h5 h6 h7 h8 h9 h10 h11 h12
        omega
      rw [HX.out]
      go_enter Try.func20, Try.ntmps20
      go_wp2
      go_ret
      exact ⟨rfl, HB.out⟩
    by_cases b4 : 0 ≤ tail
    rotate_left
    · skip
      have HX : Hid (decide (Rt.May ⟨seq, page, pages, lsn, next, shard, tail⟩) = false) := decide_eq_false fun h => by
        obtain ⟨h1, h2, h3, h4, h5, h6, h7, h8, h9, h10, h11, h12⟩ := h
        simp only at h1 h2 h3 h4 h5 h6 h7 h8 h9 h10 h11 h12
        omega
      rw [HX.out]
      go_enter Try.func20, Try.ntmps20
      go_wp2
      go_ret
      exact ⟨rfl, HB.out⟩
    by_cases b5 : tail ≤ 1048576
    rotate_left
    · skip
      have HX : Hid (decide (Rt.May ⟨seq, page, pages, lsn, next, shard, tail⟩) = false) := decide_eq_false fun h => by
        obtain ⟨h1, h2, h3, h4, h5, h6, h7, h8, h9, h10, h11, h12⟩ := h
        simp only at h1 h2 h3 h4 h5 h6 h7 h8 h9 h10 h11 h12
        omega
      rw [HX.out]
      go_enter Try.func20, Try.ntmps20
      go_wp2
      go_ret
      exact ⟨rfl, HB.out⟩
    have HX : Hid (decide (Rt.May ⟨seq, page, pages, lsn, next, shard, tail⟩) = true) := decide_eq_true (by
      refine ⟨?_, ?_, ?_, ?_, ?_, ?_, ?_, ?_, ?_, ?_, ?_, ?_⟩ <;> simp only <;> omega)
    rw [HX.out]
    go_enter Try.func20, Try.ntmps20
    go_wp2
    go_ret
    exact ⟨rfl, HB.out⟩
end Go.Proofs.Ytoefogmjekcbeaa
namespace Go.Proofs.Ytoefogmjekcbeaa
open Go.RowKit
set_option linter.unusedVariables false

set_option maxHeartbeats 2000000 in
set_option maxRecDepth 100000 in
theorem rrtput_any (r : Rt.Root) (w : World) (hf : Rt.Fit r) : Calls Try.prog 7 #[.agg (rtC r)] w (IsLE yK (Rt.putE r) w) := by
  obtain ⟨W, hW⟩ : ∃ W, w.alloc (.cells (rtC r) 24) = W := ⟨_, rfl⟩
  obtain ⟨hx, hb⟩ := bxt_new hW
  have HB := Lib.hid hb
  have HX1 := Lib.hid hx
  have HM := Lib.hid (rrtmay_any r W hf)
  by_cases hm : Rt.May r
  · have HDM : Hid (decide (Rt.May r) = true) := decide_eq_true hm
    rw [HDM.out] at HM
    obtain ⟨P, hp1, hp2, -⟩ := Rt.put_page hm
    have HE := Lib.hid hp2
    have HPG := Lib.hid hp1
    have HB64 := Lib.hid (Rt.nums_b64 hm)
    have HC : Hid (∀ w', Below W.heap.size W w' → ∀ j v, (rtC r)[j]? = some v → w'.cell? ⟨w.heap.size, j, none⟩ = some v) := fun w' hb' j v hv => ((HX1.out.2.below hb' HX1.out.1).cell j).trans hv
    obtain ⟨h1, h2, h3, h4, h5, h6, h7, h8, h9, h10, h11, h12⟩ := hm
    obtain ⟨seq, page, pages, lsn, next, shard, tail⟩ := r
    simp only at h1 h2 h3 h4 h5 h6 h7 h8 h9 h10 h11 h12
    obtain ⟨n1, rfl⟩ := Int.eq_ofNat_of_zero_le (show 0 ≤ page by omega)
    obtain ⟨n2, rfl⟩ := Int.eq_ofNat_of_zero_le (show 0 ≤ pages by omega)
    obtain ⟨n5, rfl⟩ := Int.eq_ofNat_of_zero_le h9
    obtain ⟨n6, rfl⟩ := Int.eq_ofNat_of_zero_le h11
    have u1 : IntKind.u64.wrap (n1 : Int) = (n1 : Int) := by rw [IntKind.wrap_u64]; omega
    have u2 : IntKind.u64.wrap (n2 : Int) = (n2 : Int) := by rw [IntKind.wrap_u64]; omega
    have u5 : IntKind.u64.wrap (n5 : Int) = (n5 : Int) := by rw [IntKind.wrap_u64]; omega
    have u6 : IntKind.u64.wrap (n6 : Int) = (n6 : Int) := by rw [IntKind.wrap_u64]; omega
    have HNS : Hid (Rt.nums ⟨seq, n1, n2, lsn, next, n5, n6⟩ = [seq, n1, n2, lsn, next, n5, n6]) := by unfold Hid Rt.nums; simp
    have hsz : (Try.prog.info? 24).map (·.size) = some (rtC ⟨seq, n1, n2, lsn, next, n5, n6⟩).size := rt_size
    have HC7 : Hid (∀ w', Below W.heap.size W w' → w'.cell? ⟨w.heap.size, 0, none⟩ = some (.int .u64 (seq : Nat)) ∧ w'.cell? ⟨w.heap.size, 1, none⟩ = some (.int .i64 (n1 : Nat)) ∧ w'.cell? ⟨w.heap.size, 2, none⟩ = some (.int .i64 (n2 : Nat)) ∧ w'.cell? ⟨w.heap.size, 3, none⟩ = some (.int .u64 (lsn : Nat)) ∧ w'.cell? ⟨w.heap.size, 4, none⟩ = some (.int .u64 (next : Nat)) ∧ w'.cell? ⟨w.heap.size, 5, none⟩ = some (.int .i64 (n5 : Nat)) ∧ w'.cell? ⟨w.heap.size, 6, none⟩ = some (.int .i64 (n6 : Nat))) := fun w' hb' =>
      ⟨HC.out w' hb' 0 _ rfl, HC.out w' hb' 1 _ rfl, HC.out w' hb' 2 _ rfl, HC.out w' hb' 3 _ rfl, HC.out w' hb' 4 _ rfl, HC.out w' hb' 5 _ rfl, HC.out w' hb' 6 _ rfl⟩
    obtain ⟨D, hD⟩ : ∃ D, rtC ⟨seq, n1, n2, lsn, next, n5, n6⟩ = D := ⟨_, rfl⟩
    rw [hD] at HM hW HX1 hsz ⊢
    clear hx hb hf hD HC h1 h3 h4 h5 h6 h7 h8 h9 h10 h11 h12 hp1 hp2 HDM
    rw [HNS.out] at HPG HB64
    go_enter Try.func7, Try.ntmps7
    go_wp2_with (first
      | (refine wpList_load_row rfl _ _ rfl w.heap.size rfl 24 D (0, 0) _ HX1.out.2 Try.underlying24 rfl (by rw [hsz]) ?_))
    refine (HM.out).mono ?_
    rintro e w1 ⟨rfl, b1⟩
    obtain ⟨c0, c1, c2, c3, c4, c5, c6⟩ := HC7.out w1 b1
    have HB1 := Lib.hid (HB.out.trans (b1.mono HB.out.size))
    have k7 : ∀ x ∈ [seq, n1, n2, lsn, next, n5, n6], wK.ok x := fun x hx => HB64.out x hx
    have hla := Lv.build_ wK w1 [seq, n1, n2, lsn, next, n5, n6] k7 (by simp [maxLen]) 7 rfl _ rfl _ rfl
    have hab := (Below.refl w1.heap.size w1).alloc (Nat.le_refl _) (.cells #[.int .u64 (seq : Nat), .int .u64 (n1 : Nat), .int .u64 (n2 : Nat), .int .u64 (lsn : Nat), .int .u64 (next : Nat), .int .u64 (n5 : Nat), .int .u64 (n6 : Nat)] 22)
    obtain ⟨Y, hY⟩ : ∃ Y, w1.alloc (.cells #[.int .u64 (seq : Nat), .int .u64 (n1 : Nat), .int .u64 (n2 : Nat), .int .u64 (lsn : Nat), .int .u64 (next : Nat), .int .u64 (n5 : Nat), .int .u64 (n6 : Nat)] 22) = Y := ⟨_, rfl⟩
    change Lv wK (w1.alloc (.cells #[.int .u64 (seq : Nat), .int .u64 (n1 : Nat), .int .u64 (n2 : Nat), .int .u64 (lsn : Nat), .int .u64 (next : Nat), .int .u64 (n5 : Nat), .int .u64 (n6 : Nat)] 22)) _ _ _ at hla
    rw [hY] at hla hab
    have hYs : Y.heap.size = w1.heap.size + 1 := by rw [← hY]; simp
    have HBY := Lib.hid (HB1.out.trans (hab.mono HB1.out.size))
    have HYD : Hid (Y.cell? ⟨w.heap.size, 0, none⟩ = some (.int .u64 (seq : Nat))) := (HC7.out Y (b1.trans (hab.mono b1.size))).1
    have HBYW : Hid (Below W.heap.size W Y) := b1.trans (hab.mono b1.size)
    have HL := Lib.hid (hla.mono_ (show w1.heap.size + 1 ≤ Y.heap.size by omega))
    obtain ⟨ns, hns⟩ : ∃ ns, [seq, n1, n2, lsn, next, n5, n6] = ns := ⟨_, rfl⟩
    have hn7 : ns.length = 7 := by rw [← hns]; rfl
    rw [hns] at HL HPG HB64
    have HN7 := Lib.hid hn7
    clear HM b1 hla hab hYs HB1 HX1 k7 hW hns hn7 HNS
    go_wp2
    clear c0 c1 c2 c3 c4 c5 c6 hY
    have hput : Hid (∀ n w, Mt.B64 n → Calls Try.prog 21 #[.int .u64 (n : Nat)] w (IsFresh (Mt.put n) w)) := fun n w h => rput_any 9 n w (by unfold Mt.B64 at h; omega) h
    have HWY : Hid (w.heap.size ≤ Y.heap.size) := HBY.out.size
    go_loopw [5, 6] (fun s i wr => ∃ (k : Nat) (A5 : Option Addr) (c5 : Nat) (l : List Nat), k ≤ 7 ∧ Hid (l = Rt.bys (ns.take k)) ∧ s = .slice A5 l.length c5 ∧ i = .int .i64 (k : Nat) ∧ Hid (OwnL yK wr Y.heap.size (.slice A5 l.length c5) l) ∧ Hid (Below Y.heap.size Y wr)) (fun _ i _ => 7 - (intOf i).toNat)
    case atStart => exact ⟨0, none, 0, [], by omega, by simp [Hid, Rt.bys], rfl, rfl, OwnL.nil_ _ _ _, Below.refl _ _⟩
    case round =>
      obtain ⟨k, A5, c5, l, hk, HLk, rfl, rfl, HO, HBr⟩ := hrel
      have HZr : Hid (Y.heap.size ≤ wr.heap.size) := HBr.out.size
      by_cases hlt : k < 7
      · have hln := HN7.out
        obtain ⟨b1, o1, x, e1, hb1, hU, hx, hcell⟩ := (HL.out.below_ HBr.out (Nat.le_refl _)).word_ (k := k) (by omega)
        injection e1 with e1
        injection e1 with e1 e2
        subst e1 e2
        rw [Nat.zero_add] at hcell
        have hB := HB64.out x (List.mem_of_getElem? hx)
        have HPx := Lib.hid (hput.out x wr hB)
        have hll : l.length ≤ 70 := by
          rw [HLk.out]
          have := Rt.bys_len (ns.take k)
          rw [List.length_take] at this
          omega
        have hpl := Mt.put_len_le x
        have HLS : Hid (l ++ Mt.put x = Rt.bys (ns.take (k + 1))) := by
          unfold Hid
          rw [HLk.out, take_snoc hx, Rt.bys_snoc]
        have HK := Lib.hid hk
        have j5 : (k : Int) < 7 := by omega
        have j6 : (0 : Int) ≤ (k : Int) := by omega
        clear hln hx hU hb1 HLk hk
        go_wp2_with fail
        refine HPx.out.mono ?_
        rintro e w4 ⟨A4, c4, rfl, ho4, hb4⟩
        have HO4 := Lib.hid (HO.out.below_ hb4 (Nat.le_refl _))
        have HS4 := Lib.hid (ho4.form_.lv_)
        have HB4 := Lib.hid (HBr.out.trans (hb4.mono HBr.out.size))
        have HZ4 : Hid (Y.heap.size ≤ w4.heap.size) := Nat.le_trans HZr.out hb4.size
        have HYw : Hid (Below Y.heap.size Y w4) := HB4.out
        clear ho4 hb4 HPx HO
        go_wp2_with (at_builtin; go_must (refine wpList_append_l _ yK rfl _ _ rfl Y.heap.size _ rfl l HO4.out _ rfl _ (Mt.put x) HS4.out (by show _ * 1 ≤ _; omega) (by simp only [maxLen]; omega) HZ4.out ?_; intro A6 c6 w6 hA6 hG6))
        have hl6 : (l ++ Mt.put x).length = l.length + (Mt.put x).length := by simp
        go_roundw
        case rel =>
          refine ⟨k + 1, A6, c6, l ++ Mt.put x, by omega, HLS.out, by rw [hl6], by go_num, hA6, HB4.out.grown hG6 HZ4.out (fun k hk => (HO4.out.lt_ k hk).1)⟩
        case measure => simp [intOf]; omega
      · obtain rfl : k = 7 := by omega
        have hl : l = Rt.bys ns := by rw [HLk.out, List.take_of_length_le (by have := HN7.out; omega)]
        have c0 : wr.cell? ⟨w.heap.size, 0, none⟩ = some (.int .u64 (seq : Nat)) := (HC7.out wr (HBYW.out.trans (HBr.out.mono HBYW.out.size))).1
        have hsm : (seq : Int) % 2 = ((seq % 2 : Nat) : Int) := by omega
        obtain ⟨m, hm⟩ : ∃ m, seq % 2 = m := ⟨_, rfl⟩
        rw [hm] at hsm HPG
        have hm2 : m < 2 := by omega
        have hw2 : IntKind.i64.wrap (m : Int) = (m : Int) := by rw [IntKind.wrap_i64]; omega
        have j5 : ¬ ((7 : Nat) : Int) < 7 := by omega
        have HBw : Hid (Below w.heap.size w wr) := HBY.out.trans (HBr.out.mono HWY.out)
        have HPG2 := Lib.hid (rpgput_any (m : Int) 1 _ l wr.heap.size wr (by omega) HO.out.form_ (Nat.le_refl _))
        rw [hl, HPG.out] at HPG2
        rw [hl]
        clear hl hm HLk hlt hk HO HBr hput HL HB64
        go_wp2_with fail
        refine HPG2.out.mono ?_
        rintro e w5 ⟨A7, c7, rfl, o7, b7⟩
        have HB5 := Lib.hid (HBw.out.trans (b7.mono HBw.out.size))
        have HO5 := Lib.hid (o7.mono_ HBw.out.size)
        clear o7 b7 HPG2 c0
        go_wp2
        go_ret2
        exact IsLE.of HE.out rfl rfl HO5.out HB5.out
  · have HDM : Hid (decide (Rt.May r) = false) := decide_eq_false hm
    rw [HDM.out] at HM
    have HE := Lib.hid (Rt.putE_no hm)
    have hsz : (Try.prog.info? 24).map (·.size) = some (rtC r).size := rt_size
    obtain ⟨D, hD⟩ : ∃ D, rtC r = D := ⟨_, rfl⟩
    rw [hD] at HM hW HX1 hsz ⊢
    clear hx hb hf hD hm HDM
    go_enter Try.func7, Try.ntmps7
    go_wp2_with (first
      | (refine wpList_load_row rfl _ _ rfl w.heap.size rfl 24 D (0, 0) _ HX1.out.2 Try.underlying24 rfl (by rw [hsz]) ?_))
    refine (HM.out).mono ?_
    rintro e w1 ⟨rfl, b1⟩
    have HB1 := Lib.hid (HB.out.trans (b1.mono HB.out.size))
    clear HM b1 hW
    go_wp2
    go_ret2
    exact IsLE.none_b HE.out rfl HB1.out
end Go.Proofs.Ytoefogmjekcbeaa
namespace Go.Proofs.Ytoefogmjekcbeaa
open Go.RowKit
set_option linter.unusedVariables false
theorem Rt.rd_succ (b : List Nat) (k i a : Nat) (l : List Nat) : Rt.rd b (k + 1) i a l = if (Mt.get b (a : Nat)).2.2 ≠ 0 ∨ Rt.Bad i (Mt.get b (a : Nat)).1 then none else Rt.rd b k (i + 1) (Mt.get b (a : Nat)).2.1 (l ++ [(Mt.get b (a : Nat)).1]) := rfl
theorem Rt.fit_ofN {l : List Nat} (h : ∀ j x, l[j]? = some x → ¬ Rt.Bad j x ∧ x < 18446744073709551616) : Rt.Fit (Rt.ofN l) := by
  have g : ∀ j, l.getD j 0 < 18446744073709551616 ∧ (j ≠ 0 → j ≠ 3 → l.getD j 0 ≤ 8589934592) := fun j => by
    rw [List.getD_eq_getElem?_getD]
    cases hq : l[j]? with
    | none => simp
    | some x =>
      obtain ⟨h1, h2⟩ := h j x hq
      unfold Rt.Bad at h1
      refine ⟨h2, fun a b => ?_⟩
      show x ≤ _
      omega
  have g0 := g 0
  have g1 := g 1
  have g2 := g 2
  have g3 := g 3
  have g4 := g 4
  have g5 := g 5
  have g6 := g 6
  refine ⟨g0.1, ?_, ?_, g3.1, g4.1, ?_, ?_⟩ <;> (show I64 _; unfold Rt.ofN I64; simp only; omega)

set_option maxHeartbeats 4000000 in
set_option maxRecDepth 100000 in
theorem rrtget_any (place : Int) (v : Value) (b : List Nat) (B : Nat) (w : World) (hv : Lv yK w B v b) (hB : B ≤ w.heap.size) :
    Calls Try.prog 12 #[.int .i64 place, v] w (IsRtE (Rt.getE place b) w) := by
  have hz7 := (zero_of_info (n := 7) rt_zero).1
  have hb0 := rt_built0
  have HN0 : Hid (rtC Rt.zero = none7) := rfl
  have hsz0 : (Try.prog.info? 24).map (·.size) = some none7.size := rt_size
  have hone0 : none7.all (·.oneCell') = true := rtC_one _
  have HNS : Hid (none7.size = 7) := rfl
  obtain ⟨N, hN⟩ : ∃ N, none7 = N := ⟨_, rfl⟩
  rw [hN] at hz7 hb0 HN0 hsz0 hone0 HNS
  clear hN
  obtain ⟨V, hV⟩ : ∃ V, w.alloc (.cells N 24) = V := ⟨_, rfl⟩
  obtain ⟨hx, hb⟩ := bxt_new hV
  have HR : Hid (Rw V w.heap.size 24 N) := hx.2
  have HB := Lib.hid hb
  have HVZ : Hid (w.heap.size < V.heap.size) := hx.1
  have HBB := Lib.hid hB
  have HV := Lib.hid hv
  obtain ⟨A, c, rfl, k1, k2, -, -, -⟩ := hv
  have hll : b.length ≤ 9223372036854775807 := by simp only [maxLen] at k2; omega
  clear hx hb k1 k2 hB
  by_cases hpl : place ≠ 0 ∧ place ≠ 1
  · have HE := Lib.hid (Rt.getE_arg (b := b) hpl)
    have q0 : (place != 0) = true := by rw [bne_iff_ne]; exact hpl.1
    have q1 : (place != 1) = true := by rw [bne_iff_ne]; exact hpl.2
    clear hpl
    go_enter Try.func12, Try.ntmps12
    go_wp2_with (first
      | (refine wpList_build_atT rfl 24 _ rfl N hb0 ?_)
      | (refine wpList_store_row rfl _ _ _ rfl w.heap.size N rfl rfl 24 _ HR.out hsz0 rfl hone0 ?_))
    refine IsRtE.ret (y := Rt.zero) (p := 4) (u1 := 5) (g := w.heap.size) (e := 2) (x := 2) ?_ ?_ ?_ ?_ (by rw [HN0.out]; exact Rw.row HR.out N) HE.out rfl Rt.fit_zero (below_setRow HB.out (Nat.le_refl _) _)
    all_goals rfl
  · have HPL : Hid (¬ (place ≠ 0 ∧ place ≠ 1)) := hpl
    obtain ⟨⟨k, c', e⟩, hg⟩ : ∃ r, Pg.getE place b = r := ⟨_, rfl⟩
    have HG := Lib.hid (rpgget_any place _ b B V (HV.out.below_ HB.out HBB.out) (Nat.le_trans HBB.out HB.out.size))
    rw [hg] at HG
    have HGE := Lib.hid hg
    have q01 : place = 0 ∨ place = 1 := by omega
    have hpq : (place != 0) = false ∨ ((place != 0) = true ∧ (place != 1) = false) := by
      rcases q01 with rfl | rfl
      · exact .inl rfl
      · exact .inr ⟨rfl, rfl⟩
    have HPQ := Lib.hid q01
    clear hg hpl q01
    by_cases he : e = 0
    · subst he
      by_cases hk : k = 1
      · subst hk
        obtain ⟨R, hR⟩ : ∃ R, Rt.rd c' 7 0 0 [] = R := ⟨_, rfl⟩
        have HRR := Lib.hid hR
        clear hR
        rcases hpq with q0 | ⟨q0, q1⟩
        all_goals
          go_enter Try.func12, Try.ntmps12
          go_wp2_with (fail)
          refine HG.out.mono ?_
          rintro e w1 ⟨A1, c1, rfl, o1, b1⟩
          have HB1 := Lib.hid (HB.out.trans (b1.mono HB.out.size))
          have HR1 : Hid (Rw w1 w.heap.size 24 N) := HR.out.below b1 HVZ.out
          have HC1 := Lib.hid o1.form_
          clear HG o1 b1 hV HR
          simp only [Int.natCast_zero]
          go_wp2
          go_loopw [9, 10, 11] (fun s a i wr => ∃ (j p : Nat) (A5 : Option Addr) (c5 : Nat) (l : List Nat), j ≤ 7 ∧ s = .slice A5 l.length c5 ∧ a = .int .i64 (p : Nat) ∧ i = .int .i64 (j : Nat) ∧ Hid (l.length = j) ∧ Hid (Rt.rd c' (7 - j) j p l = R) ∧ Hid (∀ m x, l[m]? = some x → ¬ Rt.Bad m x ∧ x < 18446744073709551616) ∧ Hid (OwnL wK wr w1.heap.size (.slice A5 l.length c5) l) ∧ Hid (Below w1.heap.size w1 wr)) (fun _ _ i _ => 7 - (intOf i).toNat)
          case atStart => exact ⟨0, 0, none, 0, [], by omega, rfl, rfl, rfl, rfl, HRR.out, by intro m x h; simp at h, OwnL.nil_ _ _ _, Below.refl _ _⟩
          case round =>
            obtain ⟨j, p, A5, c5, l, hj, rfl, rfl, rfl, hlj, HRD, HOK, HO, HBr⟩ := hrel
            have HBw : Hid (Below w.heap.size w wr) := HB1.out.trans (HBr.out.mono HB1.out.size)
            have HRr : Hid (Rw wr w.heap.size 24 N) := HR1.out.below HBr.out HR1.out.lt
            have HCr : Hid (Lv yK wr w1.heap.size (.slice A1 c'.length c1) c') := HC1.out.below_ HBr.out (Nat.le_refl _)
            by_cases hlt : j < 7
            · have HGT := Lib.hid (rget_any _ c' w1.heap.size (p : Nat) wr HCr.out.bv_)
              have HST := Rt.rd_succ c' (7 - (j + 1)) j p l
              rw [show 7 - (j + 1) + 1 = 7 - j by omega, HRD.out] at HST
              rcases Mt.get_cases (fun x hx => HCr.out.ok_ x hx) ((p : Nat) : Int) with ⟨e, he2, he5, hr⟩ | ⟨k, n, r, hkk, hkc, hbn, hs, hle, hr⟩
              · rw [hr] at HGT HST
                have hRn : R = none := HST.trans (if_pos (.inl (by show e ≠ 0; omega)))
                subst hRn
                have HE : Hid (Rt.getE place b = (Rt.zero, 5)) := Rt.getE_none HPL.out HGE.out HRR.out
                have hq : ((e : Int) != 0) = true := by rw [bne_iff_ne]; omega
                have j5 : (j : Int) < 7 := by omega
                have HZr : Hid (w.heap.size ≤ wr.heap.size) := HBw.out.size
                have HRlt : Hid (w.heap.size < wr.heap.size) := HRr.out.lt
                clear hr HST he2 he5 HRD
                go_wp2_with (fail)
                refine HGT.out.mono ?_
                rintro e' w4 ⟨rfl, b4⟩
                have HB4 := Lib.hid (HBw.out.trans (b4.mono HZr.out))
                have HR4 : Hid (Rw w4 w.heap.size 24 N) := HRr.out.below b4 HRlt.out
                clear HGT b4 HBw HRr
                go_wp2_with (first
                  | (refine wpList_build_atT rfl 24 _ rfl N hb0 ?_)
                  | (refine wpList_store_row rfl _ _ _ rfl w.heap.size N rfl rfl 24 _ HR4.out hsz0 rfl hone0 ?_))
                refine IsRtE.ret (y := Rt.zero) (p := 4) (u1 := 5) (g := w.heap.size) (e := 5) (x := 5) ?_ ?_ ?_ ?_ (by rw [HN0.out]; exact Rw.row HR4.out N) HE.out rfl Rt.fit_zero (below_setRow HB4.out (Nat.le_refl _) _)
                all_goals rfl
              · rw [hr] at HGT HST
                obtain ⟨nx, hnx⟩ : ∃ nx, p + (Mt.put n).length = nx := ⟨_, rfl⟩
                obtain rfl : k = p := by omega
                rw [hnx] at HGT HST
                have hn64 : n < 18446744073709551616 := by unfold Mt.B64 at hbn; omega
                have HZr : Hid (w.heap.size ≤ wr.heap.size) := HBw.out.size
                have HZ1 : Hid (w1.heap.size ≤ wr.heap.size) := HBr.out.size
                have HRlt : Hid (w.heap.size < wr.heap.size) := HRr.out.lt
                have j5 : (j : Int) < 7 := by omega
                have HLJ := hlj
                have HJ := Lib.hid hj
                have HLT := Lib.hid hlt
                by_cases hbad : Rt.Bad j n
                · have hRn : R = none := HST.trans (if_pos (.inr hbad))
                  subst hRn
                  have HE : Hid (Rt.getE place b = (Rt.zero, 5)) := Rt.getE_none HPL.out HGE.out HRR.out
                  obtain ⟨hb1, hb2, hb3⟩ := hbad
                  have q3 : ((j : Int) != 0) = true := by rw [bne_iff_ne]; omega
                  have q4 : ((j : Int) != 3) = true := by rw [bne_iff_ne]; omega
                  have q5 : (8589934592 : Int) < (n : Int) := by omega
                  clear hr HST HRD hs hle hbn hkc hkk hnx hb1 hb2 hb3 hj hlt hlj
                  go_wp2_with (fail)
                  refine HGT.out.mono ?_
                  rintro e' w4 ⟨rfl, b4⟩
                  have HB4 := Lib.hid (HBw.out.trans (b4.mono HZr.out))
                  have HR4 : Hid (Rw w4 w.heap.size 24 N) := HRr.out.below b4 HRlt.out
                  clear HGT b4 HBw HRr
                  go_wp2_with (first
                    | (refine wpList_build_atT rfl 24 _ rfl N hb0 ?_)
                    | (refine wpList_store_row rfl _ _ _ rfl w.heap.size N rfl rfl 24 _ HR4.out hsz0 rfl hone0 ?_))
                  refine IsRtE.ret (y := Rt.zero) (p := 4) (u1 := 5) (g := w.heap.size) (e := 5) (x := 5) ?_ ?_ ?_ ?_ (by rw [HN0.out]; exact Rw.row HR4.out N) HE.out rfl Rt.fit_zero (below_setRow HB4.out (Nat.le_refl _) _)
                  all_goals rfl
                · have hRD : Rt.rd c' (7 - (j + 1)) (j + 1) nx (l ++ [n]) = R := (HST.trans (if_neg (by
                    intro h
                    rcases h with h | h
                    · exact h rfl
                    · exact hbad h))).symm
                  have HRD2 := Lib.hid hRD
                  have HNB : Hid (¬ Rt.Bad j n ∧ n < 18446744073709551616) := ⟨hbad, hn64⟩
                  have hq3 : j = 0 ∨ (j ≠ 0 ∧ j = 3) ∨ (j ≠ 0 ∧ j ≠ 3 ∧ n ≤ 8589934592) := by unfold Rt.Bad at hbad; omega
                  have hqs : ((j : Int) != 0) = false ∨ (((j : Int) != 0) = true ∧ ((j : Int) != 3) = false) ∨ (((j : Int) != 0) = true ∧ ((j : Int) != 3) = true ∧ ¬ (8589934592 : Int) < (n : Int)) := by
                    rcases hq3 with h | ⟨h, h'⟩ | ⟨h, h', h''⟩
                    · left; rw [bne_eq_false_iff_eq]; omega
                    · right; left; exact ⟨by rw [bne_iff_ne]; omega, by rw [bne_eq_false_iff_eq]; omega⟩
                    · right; right; exact ⟨by rw [bne_iff_ne]; omega, by rw [bne_iff_ne]; omega, by omega⟩
                  clear hr HST HRD hs hle hbn hkc hkk hnx hbad hRD hq3 hj hlt hlj hn64
                  rcases hqs with q3 | ⟨q3, q4⟩ | ⟨q3, q4, q5⟩
                  all_goals
                    go_wp2_with (fail)
                    refine HGT.out.mono ?_
                    rintro e' w4 ⟨rfl, b4⟩
                    have HB4 := Lib.hid (HBr.out.trans (b4.mono HZ1.out))
                    have HO4 := Lib.hid (HO.out.below_ b4 (Nat.le_refl _))
                    have HZ4 : Hid (w1.heap.size ≤ w4.heap.size) := Nat.le_trans HZ1.out b4.size
                    have hl7 : l.length ≤ 7 := by have := HLJ.out; have := HJ.out; omega
                    have HL7 := Lib.hid hl7
                    clear b4 hl7
                    go_wp2_with (at_builtin; go_must (refine wpList_push_l _ wK rfl _ _ rfl w1.heap.size _ rfl l HO4.out rfl n HNB.out.2 _ rfl _ rfl (by have := HL7.out; show _ * 8 ≤ _; omega) (by have := HL7.out; simp only [maxLen]; omega) HZ4.out ?_; intro A6 c6 w6 hA6 hG6))
                    go_roundw
                    case rel =>
                      have hl1 : (l ++ [n]).length = l.length + 1 := by simp
                      refine ⟨j + 1, nx, A6, c6, l ++ [n], by have := HLT.out; omega, by rw [hl1], rfl, by go_num, by unfold Hid; rw [hl1, HLJ.out], HRD2.out, ?_, by rw [hl1]; exact hA6, HB4.out.grown hG6 HZ4.out (fun k hk => (HO4.out.lt_ k hk).1)⟩
                      intro m x hm
                      by_cases h : m < l.length
                      · rw [List.getElem?_append_left h] at hm
                        exact HOK.out m x hm
                      · rw [List.getElem?_append_right (by omega)] at hm
                        have hm0 : m - l.length = 0 := by
                          have := (List.getElem?_eq_some_iff.1 hm).1
                          simp at this
                          omega
                        rw [hm0] at hm
                        simp only [List.getElem?_cons_zero, Option.some.injEq] at hm
                        subst hm
                        have hmj : m = j := by have := HLJ.out; omega
                        rw [hmj]
                        exact HNB.out
                    case measure => simp [intOf]; have := HLT.out; omega
            · obtain rfl : j = 7 := by omega
              have hRs : R = some (l, p) := HRD.out.symm
              subst hRs
              have j5 : ¬ ((7 : Nat) : Int) < 7 := by omega
              have hl7 := hlj.out
              obtain ⟨g, x0, e0, -, hg, -, h0, c0, -⟩ := HO.out.word_ (k := 0) (by omega)
              obtain ⟨g1, x1, e1, -, -, -, h1, c1, -⟩ := HO.out.word_ (k := 1) (by omega)
              obtain ⟨g2, x2, e2, -, -, -, h2, c2, -⟩ := HO.out.word_ (k := 2) (by omega)
              obtain ⟨g3, x3, e3, -, -, -, h3, c3, -⟩ := HO.out.word_ (k := 3) (by omega)
              obtain ⟨g4, x4, e4, -, -, -, h4, c4, -⟩ := HO.out.word_ (k := 4) (by omega)
              obtain ⟨g5, x5, e5, -, -, -, h5, c5', -⟩ := HO.out.word_ (k := 5) (by omega)
              obtain ⟨g6, x6, e6, -, -, -, h6, c6, -⟩ := HO.out.word_ (k := 6) (by omega)
              subst e0
              simp only [Option.some.injEq, Addr.mk.injEq, and_true] at e1 e2 e3 e4 e5 e6
              subst e1 e2 e3 e4 e5 e6
              have hfit := Rt.fit_ofN HOK.out
              have hofn : Rt.ofN l = ⟨x0, (x1 : Nat), (x2 : Nat), x3, x4, (x5 : Nat), (x6 : Nat)⟩ := by
                unfold Rt.ofN
                simp only [List.getD_eq_getElem?_getD, h0, h1, h2, h3, h4, h5, h6, Option.getD_some]
              have k1 := HOK.out 1 x1 h1
              have k2 := HOK.out 2 x2 h2
              have k5 := HOK.out 5 x5 h5
              have k6 := HOK.out 6 x6 h6
              unfold Rt.Bad at k1 k2 k5 k6
              have y1 : IntKind.i64.wrap (x1 : Int) = (x1 : Int) := by rw [IntKind.wrap_i64]; omega
              have y2 : IntKind.i64.wrap (x2 : Int) = (x2 : Int) := by rw [IntKind.wrap_i64]; omega
              have y5 : IntKind.i64.wrap (x5 : Int) = (x5 : Int) := by rw [IntKind.wrap_i64]; omega
              have y6 : IntKind.i64.wrap (x6 : Int) = (x6 : Int) := by rw [IntKind.wrap_i64]; omega
              have n0 : (0 : Int) < (l.length : Int) := by omega
              have n00 : 0 < l.length := by omega
              have n1 : (1 : Int) < (l.length : Int) := by omega
              have n2 : (2 : Int) < (l.length : Int) := by omega
              have n3 : (3 : Int) < (l.length : Int) := by omega
              have n4 : (4 : Int) < (l.length : Int) := by omega
              have n5 : (5 : Int) < (l.length : Int) := by omega
              have n6 : (6 : Int) < (l.length : Int) := by omega
              have hbt := rt_built ⟨x0, (x1 : Nat), (x2 : Nat), x3, x4, (x5 : Nat), (x6 : Nat)⟩
              have HFT : Hid (Rt.Fit (Rt.ofN l)) := hfit
              have HOF : Hid (rtC (Rt.ofN l) = rtC ⟨x0, (x1 : Nat), (x2 : Nat), x3, x4, (x5 : Nat), (x6 : Nat)⟩) := by unfold Hid; rw [hofn]
              have HSQ : Hid ((Rt.ofN l).seq = x0) := by unfold Hid; rw [hofn]
              have HMAY := fun w' => rrtmay_any (Rt.ofN l) w' hfit
              rw [HOF.out] at HMAY
              have HX64 : Hid (x0 < 18446744073709551616) := (HOK.out 0 x0 h0).2
              obtain ⟨D, hD⟩ : ∃ D, rtC ⟨x0, (x1 : Nat), (x2 : Nat), x3, x4, (x5 : Nat), (x6 : Nat)⟩ = D := ⟨_, rfl⟩
              have hd0 : D[0]? = some (.int .u64 (x0 : Nat)) := by rw [← hD]; rfl
              rw [hD] at hbt HOF HMAY
              simp only at hbt
              have HD0 := Lib.hid hd0
              have HMY := Lib.hid HMAY
              have hszD : (Try.prog.info? 24).map (·.size) = some D.size := by rw [← hD]; exact rt_size
              have honeD : D.all (·.oneCell') = true := by rw [← hD]; exact rtC_one _
              have hND : N.size = D.size := by rw [HNS.out, ← hD]; rfl
              have hSS : (fun w' : World => w'.cell? ⟨g, 0, none⟩ = some (.int .u64 (x0 : Nat)) ∧ w'.cell? ⟨g, 1, none⟩ = some (.int .u64 (x1 : Nat)) ∧ w'.cell? ⟨g, 2, none⟩ = some (.int .u64 (x2 : Nat)) ∧ w'.cell? ⟨g, 3, none⟩ = some (.int .u64 (x3 : Nat)) ∧ w'.cell? ⟨g, 4, none⟩ = some (.int .u64 (x4 : Nat)) ∧ w'.cell? ⟨g, 5, none⟩ = some (.int .u64 (x5 : Nat)) ∧ w'.cell? ⟨g, 6, none⟩ = some (.int .u64 (x6 : Nat))) wr.drew := ⟨c0, c1, c2, c3, c4, c5', c6⟩
              have HGL : Hid (g < wr.heap.size) := (HO.out.lt_ g rfl).2
              have HSA : Hid (∀ w', Below wr.heap.size wr w' → (fun w' : World => w'.cell? ⟨g, 0, none⟩ = some (.int .u64 (x0 : Nat)) ∧ w'.cell? ⟨g, 1, none⟩ = some (.int .u64 (x1 : Nat)) ∧ w'.cell? ⟨g, 2, none⟩ = some (.int .u64 (x2 : Nat)) ∧ w'.cell? ⟨g, 3, none⟩ = some (.int .u64 (x3 : Nat)) ∧ w'.cell? ⟨g, 4, none⟩ = some (.int .u64 (x4 : Nat)) ∧ w'.cell? ⟨g, 5, none⟩ = some (.int .u64 (x5 : Nat)) ∧ w'.cell? ⟨g, 6, none⟩ = some (.int .u64 (x6 : Nat))) w') := fun w' hb =>
                ⟨(hb.cell (p := ⟨g, 0, none⟩) HGL.out).trans c0, (hb.cell (p := ⟨g, 1, none⟩) HGL.out).trans c1, (hb.cell (p := ⟨g, 2, none⟩) HGL.out).trans c2, (hb.cell (p := ⟨g, 3, none⟩) HGL.out).trans c3, (hb.cell (p := ⟨g, 4, none⟩) HGL.out).trans c4, (hb.cell (p := ⟨g, 5, none⟩) HGL.out).trans c5', (hb.cell (p := ⟨g, 6, none⟩) HGL.out).trans c6⟩
              have HZr : Hid (w.heap.size ≤ wr.heap.size) := HBw.out.size
              clear h0 h1 h2 h3 h4 h5 h6 k1 k2 k5 k6 hfit hofn HMAY hD hd0 hg hlj hl7 hj hlt HRD HOK HO HBr c0 c1 c2 c3 c4 c5' c6
              go_wp2
              refine wp_region_held_drew (S := fun w' : World => w'.cell? ⟨g, 0, none⟩ = some (.int .u64 (x0 : Nat)) ∧ w'.cell? ⟨g, 1, none⟩ = some (.int .u64 (x1 : Nat)) ∧ w'.cell? ⟨g, 2, none⟩ = some (.int .u64 (x2 : Nat)) ∧ w'.cell? ⟨g, 3, none⟩ = some (.int .u64 (x3 : Nat)) ∧ w'.cell? ⟨g, 4, none⟩ = some (.int .u64 (x4 : Nat)) ∧ w'.cell? ⟨g, 5, none⟩ = some (.int .u64 (x5 : Nat)) ∧ w'.cell? ⟨g, 6, none⟩ = some (.int .u64 (x6 : Nat))) (by kernel_rfl) hSS (fun hH => ?_)
              refine wpAnyH_take (i := 0) (v := ?_) rfl (by kernel_rfl) (by kernel_rfl) (by kernel_rfl) (fun _ _ _ h => h) (Or.inl ⟨by rfl, (by intro w' hSw; obtain ⟨s0, s1, s2, s3, s4, s5, s6⟩ := hSw; go_simp; first | done | with_reducible rfl)⟩) hH ?_
              try simp only [Act.put, List.getElem_toArray, List.getElem_cons_zero, List.setIfInBounds_toArray, List.set_cons_zero, List.set_cons_succ]
              refine wpAnyH_take (i := 1) (v := ?_) rfl (by kernel_rfl) (by kernel_rfl) (by kernel_rfl) (fun _ _ _ h => h) (Or.inl ⟨by rfl, (by intro w' hSw; obtain ⟨s0, s1, s2, s3, s4, s5, s6⟩ := hSw; go_simp; first | done | with_reducible rfl)⟩) hH ?_
              try simp only [Act.put, List.getElem_toArray, List.getElem_cons_succ, List.getElem_cons_zero, List.setIfInBounds_toArray, List.set_cons_zero, List.set_cons_succ]
              refine wpAnyH_take (i := 2) (v := ?_) rfl (by kernel_rfl) (by kernel_rfl) (by kernel_rfl) (fun _ _ _ h => h) (Or.inl ⟨by rfl, (by intro w' hSw; obtain ⟨s0, s1, s2, s3, s4, s5, s6⟩ := hSw; go_simp; first | done | with_reducible rfl)⟩) hH ?_
              try simp only [Act.put, List.getElem_toArray, List.getElem_cons_succ, List.getElem_cons_zero, List.setIfInBounds_toArray, List.set_cons_zero, List.set_cons_succ]
              refine wpAnyH_take (i := 3) (v := ?_) rfl (by kernel_rfl) (by kernel_rfl) (by kernel_rfl) (fun _ _ _ h => h) (Or.inl ⟨by rfl, (by intro w' hSw; obtain ⟨s0, s1, s2, s3, s4, s5, s6⟩ := hSw; go_simp; first | done | with_reducible rfl)⟩) hH ?_
              try simp only [Act.put, List.getElem_toArray, List.getElem_cons_succ, List.getElem_cons_zero, List.setIfInBounds_toArray, List.set_cons_zero, List.set_cons_succ]
              refine wpAnyH_take (i := 4) (v := ?_) rfl (by kernel_rfl) (by kernel_rfl) (by kernel_rfl) (fun _ _ _ h => h) (Or.inl ⟨by rfl, (by intro w' hSw; obtain ⟨s0, s1, s2, s3, s4, s5, s6⟩ := hSw; go_simp; first | done | with_reducible rfl)⟩) hH ?_
              try simp only [Act.put, List.getElem_toArray, List.getElem_cons_succ, List.getElem_cons_zero, List.setIfInBounds_toArray, List.set_cons_zero, List.set_cons_succ]
              refine wpAnyH_take (i := 5) (v := ?_) rfl (by kernel_rfl) (by kernel_rfl) (by kernel_rfl) (fun _ _ _ h => h) (Or.inl ⟨by rfl, (by intro w' hSw; obtain ⟨s0, s1, s2, s3, s4, s5, s6⟩ := hSw; go_simp; first | done | with_reducible rfl)⟩) hH ?_
              try simp only [Act.put, List.getElem_toArray, List.getElem_cons_succ, List.getElem_cons_zero, List.setIfInBounds_toArray, List.set_cons_zero, List.set_cons_succ]
              refine wpAnyH_take (i := 6) (v := ?_) rfl (by kernel_rfl) (by kernel_rfl) (by kernel_rfl) (fun _ _ _ h => h) (Or.inl ⟨by rfl, (by intro w' hSw; obtain ⟨s0, s1, s2, s3, s4, s5, s6⟩ := hSw; go_simp; first | done | with_reducible rfl)⟩) hH ?_
              try simp only [Act.put, List.getElem_toArray, List.getElem_cons_succ, List.getElem_cons_zero, List.setIfInBounds_toArray, List.set_cons_zero, List.set_cons_succ]
              refine wpAnyH_take (i := 7) (v := ?_) rfl (by kernel_rfl) (by kernel_rfl) (by kernel_rfl) (fun _ _ _ h => h) (Or.inl ⟨by rfl, (by intro w' hSw; obtain ⟨s0, s1, s2, s3, s4, s5, s6⟩ := hSw; go_simp; first | done | with_reducible rfl)⟩) hH ?_
              try simp only [Act.put, List.getElem_toArray, List.getElem_cons_succ, List.getElem_cons_zero, List.setIfInBounds_toArray, List.set_cons_zero, List.set_cons_succ]
              refine wpAnyH_take (i := 8) (v := ?_) rfl (by kernel_rfl) (by kernel_rfl) (by kernel_rfl) (fun _ _ _ h => h) (Or.inl ⟨by rfl, (by intro w' hSw; obtain ⟨s0, s1, s2, s3, s4, s5, s6⟩ := hSw; go_simp; first | done | with_reducible rfl)⟩) hH ?_
              try simp only [Act.put, List.getElem_toArray, List.getElem_cons_succ, List.getElem_cons_zero, List.setIfInBounds_toArray, List.set_cons_zero, List.set_cons_succ]
              refine wpAnyH_take (i := 9) (v := ?_) rfl (by kernel_rfl) (by kernel_rfl) (by kernel_rfl) (fun _ _ _ h => h) (Or.inl ⟨by rfl, (by intro w' hSw; obtain ⟨s0, s1, s2, s3, s4, s5, s6⟩ := hSw; go_simp; first | done | with_reducible rfl)⟩) hH ?_
              try simp only [Act.put, List.getElem_toArray, List.getElem_cons_succ, List.getElem_cons_zero, List.setIfInBounds_toArray, List.set_cons_zero, List.set_cons_succ]
              refine wpAnyH_take (i := 10) (v := ?_) rfl (by kernel_rfl) (by kernel_rfl) (by kernel_rfl) (fun _ _ _ h => h) (Or.inl ⟨by rfl, (by intro w' hSw; obtain ⟨s0, s1, s2, s3, s4, s5, s6⟩ := hSw; go_simp; first | done | with_reducible rfl)⟩) hH ?_
              try simp only [Act.put, List.getElem_toArray, List.getElem_cons_succ, List.getElem_cons_zero, List.setIfInBounds_toArray, List.set_cons_zero, List.set_cons_succ]
              refine wpAnyH_take (i := 11) (v := ?_) rfl (by kernel_rfl) (by kernel_rfl) (by kernel_rfl) (fun _ _ _ h => h) (Or.inl ⟨by rfl, (by intro w' hSw; obtain ⟨s0, s1, s2, s3, s4, s5, s6⟩ := hSw; go_simp; first | done | with_reducible rfl)⟩) hH ?_
              try simp only [Act.put, List.getElem_toArray, List.getElem_cons_succ, List.getElem_cons_zero, List.setIfInBounds_toArray, List.set_cons_zero, List.set_cons_succ]
              refine wpAnyH_take (i := 12) (v := ?_) rfl (by kernel_rfl) (by kernel_rfl) (by kernel_rfl) (fun _ _ _ h => h) (Or.inl ⟨by rfl, (by intro w' hSw; obtain ⟨s0, s1, s2, s3, s4, s5, s6⟩ := hSw; go_simp; first | done | with_reducible rfl)⟩) hH ?_
              try simp only [Act.put, List.getElem_toArray, List.getElem_cons_succ, List.getElem_cons_zero, List.setIfInBounds_toArray, List.set_cons_zero, List.set_cons_succ]
              refine wpAnyH_take (i := 13) (v := ?_) rfl (by kernel_rfl) (by kernel_rfl) (by kernel_rfl) (fun _ _ _ h => h) (Or.inl ⟨by rfl, (by intro w' hSw; obtain ⟨s0, s1, s2, s3, s4, s5, s6⟩ := hSw; go_simp; first | done | with_reducible rfl)⟩) hH ?_
              try simp only [Act.put, List.getElem_toArray, List.getElem_cons_succ, List.getElem_cons_zero, List.setIfInBounds_toArray, List.set_cons_zero, List.set_cons_succ]
              refine wpAnyH_take (i := 14) (v := ?_) rfl (by kernel_rfl) (by kernel_rfl) (by kernel_rfl) (fun _ _ _ h => h) (Or.inl ⟨by rfl, (by intro w' hSw; obtain ⟨s0, s1, s2, s3, s4, s5, s6⟩ := hSw; go_simp; first | done | with_reducible rfl)⟩) hH ?_
              try simp only [Act.put, List.getElem_toArray, List.getElem_cons_succ, List.getElem_cons_zero, List.setIfInBounds_toArray, List.set_cons_zero, List.set_cons_succ]
              refine wpAnyH_take (i := 15) (v := ?_) rfl (by kernel_rfl) (by kernel_rfl) (by kernel_rfl) (fun _ _ _ h => h) (Or.inl ⟨by rfl, (by intro w' hSw; obtain ⟨s0, s1, s2, s3, s4, s5, s6⟩ := hSw; go_simp; first | done | with_reducible rfl)⟩) hH ?_
              try simp only [Act.put, List.getElem_toArray, List.getElem_cons_succ, List.getElem_cons_zero, List.setIfInBounds_toArray, List.set_cons_zero, List.set_cons_succ]
              refine wpAnyH_take (i := 16) (v := ?_) rfl (by kernel_rfl) (by kernel_rfl) (by kernel_rfl) (fun _ _ _ h => h) (Or.inl ⟨by rfl, (by intro w' hSw; obtain ⟨s0, s1, s2, s3, s4, s5, s6⟩ := hSw; go_simp; first | done | with_reducible rfl)⟩) hH ?_
              try simp only [Act.put, List.getElem_toArray, List.getElem_cons_succ, List.getElem_cons_zero, List.setIfInBounds_toArray, List.set_cons_zero, List.set_cons_succ]
              refine wpAnyH_take (i := 17) (v := ?_) rfl (by kernel_rfl) (by kernel_rfl) (by kernel_rfl) (fun _ _ _ h => h) (Or.inl ⟨by rfl, (by intro w' hSw; obtain ⟨s0, s1, s2, s3, s4, s5, s6⟩ := hSw; go_simp; first | done | with_reducible rfl)⟩) hH ?_
              try simp only [Act.put, List.getElem_toArray, List.getElem_cons_succ, List.getElem_cons_zero, List.setIfInBounds_toArray, List.set_cons_zero, List.set_cons_succ]
              refine wpAnyH_take (i := 18) (v := ?_) rfl (by kernel_rfl) (by kernel_rfl) (by kernel_rfl) (fun _ _ _ h => h) (Or.inl ⟨by rfl, (by intro w' hSw; obtain ⟨s0, s1, s2, s3, s4, s5, s6⟩ := hSw; go_simp; first | done | with_reducible rfl)⟩) hH ?_
              try simp only [Act.put, List.getElem_toArray, List.getElem_cons_succ, List.getElem_cons_zero, List.setIfInBounds_toArray, List.set_cons_zero, List.set_cons_succ]
              refine wpAnyH_take (i := 19) (v := ?_) rfl (by kernel_rfl) (by kernel_rfl) (by kernel_rfl) (fun _ _ _ h => h) (Or.inl ⟨by rfl, (by intro w' hSw; obtain ⟨s0, s1, s2, s3, s4, s5, s6⟩ := hSw; go_simp; first | done | with_reducible rfl)⟩) hH ?_
              try simp only [Act.put, List.getElem_toArray, List.getElem_cons_succ, List.getElem_cons_zero, List.setIfInBounds_toArray, List.set_cons_zero, List.set_cons_succ]
              refine wpAnyH_take (i := 20) (v := ?_) rfl (by kernel_rfl) (by kernel_rfl) (by kernel_rfl) (fun _ _ _ h => h) (Or.inl ⟨by rfl, (by intro w' hSw; obtain ⟨s0, s1, s2, s3, s4, s5, s6⟩ := hSw; go_simp; first | done | with_reducible rfl)⟩) hH ?_
              try simp only [Act.put, List.getElem_toArray, List.getElem_cons_succ, List.getElem_cons_zero, List.setIfInBounds_toArray, List.set_cons_zero, List.set_cons_succ]
              refine wpAnyH_take (i := 21) (v := ?_) rfl (by kernel_rfl) (by kernel_rfl) (by kernel_rfl) (fun _ _ _ h => h) (Or.inl ⟨by rfl, (by intro w' hSw; obtain ⟨s0, s1, s2, s3, s4, s5, s6⟩ := hSw; go_simp; first | done | with_reducible rfl)⟩) hH ?_
              try simp only [Act.put, List.getElem_toArray, List.getElem_cons_succ, List.getElem_cons_zero, List.setIfInBounds_toArray, List.set_cons_zero, List.set_cons_succ]
              refine wpAnyH_take (i := 22) (v := ?_) rfl (by kernel_rfl) (by kernel_rfl) (by kernel_rfl) (fun _ _ _ h => h) (Or.inl ⟨by rfl, (by intro w' hSw; obtain ⟨s0, s1, s2, s3, s4, s5, s6⟩ := hSw; go_simp; first | done | with_reducible rfl)⟩) hH ?_
              try simp only [Act.put, List.getElem_toArray, List.getElem_cons_succ, List.getElem_cons_zero, List.setIfInBounds_toArray, List.set_cons_zero, List.set_cons_succ]
              refine wpAnyH_take (i := 23) (v := ?_) rfl (by kernel_rfl) (by kernel_rfl) (by kernel_rfl) (fun _ _ _ h => h) (Or.inl ⟨by rfl, (by intro w' hSw; obtain ⟨s0, s1, s2, s3, s4, s5, s6⟩ := hSw; go_simp; first | done | with_reducible rfl)⟩) hH ?_
              try simp only [Act.put, List.getElem_toArray, List.getElem_cons_succ, List.getElem_cons_zero, List.setIfInBounds_toArray, List.set_cons_zero, List.set_cons_succ]
              refine wpAnyH_take (i := 24) (v := ?_) rfl (by kernel_rfl) (by kernel_rfl) (by kernel_rfl) (fun _ _ _ h => h) (Or.inl ⟨by rfl, (by intro w' hSw; obtain ⟨s0, s1, s2, s3, s4, s5, s6⟩ := hSw; go_simp; first | done | with_reducible rfl)⟩) hH ?_
              try simp only [Act.put, List.getElem_toArray, List.getElem_cons_succ, List.getElem_cons_zero, List.setIfInBounds_toArray, List.set_cons_zero, List.set_cons_succ]
              refine wpAnyH_take (i := 25) (v := .agg D) rfl (by kernel_rfl) (by kernel_rfl) (by kernel_rfl) (fun _ _ _ h => h) (Or.inl ⟨by rfl, fun w' hSw => exec_build _ _ rfl D w' (by simp only [List.map_toArray]; exact hbt)⟩) hH ?_
              try simp only [Act.put, List.getElem_toArray, List.getElem_cons_succ, List.getElem_cons_zero, List.setIfInBounds_toArray, List.set_cons_zero, List.set_cons_succ]
              obtain ⟨X, hX⟩ : ∃ X, (wr.drew.alloc (.cells N 24)).setRow wr.heap.size D = X := ⟨_, rfl⟩
              obtain ⟨hxa, hxb⟩ := bxt_stored (w := wr.drew) hX
              have HSX := HSA.out _ ((Below.refl wr.heap.size wr).drew.alloc (Nat.le_refl _) (.cells N 24))
              have hxc : Below wr.heap.size wr X := (Below.refl wr.heap.size wr).drew.trans hxb
              have HSX2 := HSA.out X hxc
              have HXA := Lib.hid hxa
              have HBX := Lib.hid (HBw.out.trans (hxc.mono HZr.out))
              have HRX : Hid (Rw X w.heap.size 24 N) := HRr.out.below hxc HRr.out.lt
              clear hxa hxb hxc
              refine wpAnyH_ready (rs := [26]) (by kernel_rfl) (by simp) ?_
              refine AllReadyH.cons rfl (fun K hK => ?_) AllReadyH.nil
              go_simp
              refine hK.out _ _ HSX (fun hH => ?_)
              clear hK K HSX
              try simp only [Act.put, List.getElem_toArray, List.getElem_cons_succ, List.getElem_cons_zero, List.setIfInBounds_toArray, List.set_cons_zero, List.set_cons_succ]
              refine wpAnyH_ready (rs := [27]) (by kernel_rfl) (by simp) ?_
              refine AllReadyH.cons rfl (fun K hK => ?_) AllReadyH.nil
              rw [if_pos (by rfl)]
              refine wp_store_row 24 (.tmp 15) (.tmp 93) rfl wr.heap.size D rfl rfl 24 N (Rw.new wr.drew _ _) hszD hND honeD ?_
              change K _ ((wr.drew.alloc (.cells N 24)).setRow wr.heap.size D)
              rw [hX]
              refine hK.out _ _ HSX2 (fun hH => ?_)
              clear hK K HSX2
              refine wpAnyH_done (by kernel_rfl) ?_ _
              clear hH hX HSA
              clear hSS n0 n00 n1 n2 n3 n4 n5 n6 y1 y2 y5 y6 hbt
              have HMYX := Lib.hid (HMY.out X)
              obtain ⟨m, hm2⟩ : ∃ m, x0 % 2 = m := ⟨_, rfl⟩
              have hsm : (x0 : Int) % 2 = (m : Int) := by omega
              have hwm : IntKind.i64.wrap (m : Int) = (m : Int) := by rw [IntKind.wrap_i64]; omega
              have HM2 := Lib.hid hm2
              have hwz : w.heap.size ≠ wr.heap.size := by have := HRr.out.lt; omega
              have HWZ := Lib.hid hwz
              clear hm2 hwz
              by_cases hp : p = c'.length
              · have q6 : ((p : Int) != (c'.length : Int)) = false := by rw [bne_eq_false_iff_eq]; omega
                by_cases hmay : Rt.May (Rt.ofN l)
                · rw [decide_eq_true hmay] at HMYX
                  by_cases hs : (m : Int) = place
                  · have HE := Lib.hid (Rt.getE_ok HPL.out HGE.out HRR.out ⟨hp, hmay, by rw [HSQ.out, HM2.out]; exact hs⟩)
                    have q7 : ((m : Int) != place) = false := by rw [bne_eq_false_iff_eq]; exact hs
                    clear hp hmay hs
                    go_wp2_with (first
                      | (refine wpList_load_row_onT (by rfl) _ _ rfl wr.heap.size rfl 24 D (0, 0) _ HXA.out.2 Try.underlying24 rfl (by rw [hszD]) ?_))
                    refine (HMYX.out).mono ?_
                    rintro e7 w7 ⟨rfl, b7⟩
                    have HB7 := Lib.hid (HBX.out.trans (b7.mono HBX.out.size))
                    have HR7 : Hid (Rw w7 w.heap.size 24 N) := HRX.out.below b7 HRX.out.lt
                    have HD7 : Hid (Rw w7 wr.heap.size 24 D) := HXA.out.2.below b7 HXA.out.1
                    clear HMYX b7 HBX HRX HXA
                    have c0 : w7.cell? ⟨wr.heap.size, 0, none⟩ = some (.int .u64 (x0 : Nat)) := (HD7.out.cell 0).trans HD0.out
                    go_wp2_with (first
                      | (refine wpList_load_row rfl _ _ rfl wr.heap.size rfl 24 D (0, 0) _ HD7.out Try.underlying24 rfl (by rw [hszD]) ?_)
                      | (refine wpList_store_row rfl _ _ _ rfl w.heap.size D rfl rfl 24 _ HR7.out hszD hND honeD ?_))
                    refine IsRtE.ret (y := Rt.ofN l) (p := 4) (u1 := 5) (g := w.heap.size) (e := 0) (x := 0) ?_ ?_ ?_ ?_ (by rw [HOF.out]; exact Rw.row HR7.out D) HE.out rfl HFT.out (below_setRow HB7.out (Nat.le_refl _) _)
                    all_goals rfl
                  · have HE := Lib.hid (Rt.getE_bad HPL.out HGE.out HRR.out (fun h => hs (by have := h.2.2; rw [HSQ.out, HM2.out] at this; exact this)))
                    have q7 : ((m : Int) != place) = true := by rw [bne_iff_ne]; exact hs
                    clear hp hmay hs
                    go_wp2_with (first
                      | (refine wpList_load_row_onT (by rfl) _ _ rfl wr.heap.size rfl 24 D (0, 0) _ HXA.out.2 Try.underlying24 rfl (by rw [hszD]) ?_))
                    refine (HMYX.out).mono ?_
                    rintro e7 w7 ⟨rfl, b7⟩
                    have HB7 := Lib.hid (HBX.out.trans (b7.mono HBX.out.size))
                    have HR7 : Hid (Rw w7 w.heap.size 24 N) := HRX.out.below b7 HRX.out.lt
                    have HD7 : Hid (Rw w7 wr.heap.size 24 D) := HXA.out.2.below b7 HXA.out.1
                    clear HMYX b7 HBX HRX HXA
                    have c0 : w7.cell? ⟨wr.heap.size, 0, none⟩ = some (.int .u64 (x0 : Nat)) := (HD7.out.cell 0).trans HD0.out
                    go_wp2_with (first
                      | (refine wpList_build_atT rfl 24 _ rfl N hb0 ?_)
                      | (refine wpList_store_row rfl _ _ _ rfl w.heap.size N rfl rfl 24 _ HR7.out hsz0 rfl hone0 ?_))
                    refine IsRtE.ret (y := Rt.zero) (p := 4) (u1 := 5) (g := w.heap.size) (e := 5) (x := 5) ?_ ?_ ?_ ?_ (by rw [HN0.out]; exact Rw.row HR7.out N) HE.out rfl Rt.fit_zero (below_setRow HB7.out (Nat.le_refl _) _)
                    all_goals rfl
                · rw [decide_eq_false hmay] at HMYX
                  have HE := Lib.hid (Rt.getE_bad HPL.out HGE.out HRR.out (fun h => hmay h.2.1))
                  clear hp hmay
                  go_wp2_with (first
                    | (refine wpList_load_row_onT (by rfl) _ _ rfl wr.heap.size rfl 24 D (0, 0) _ HXA.out.2 Try.underlying24 rfl (by rw [hszD]) ?_))
                  refine (HMYX.out).mono ?_
                  rintro e7 w7 ⟨rfl, b7⟩
                  have HB7 := Lib.hid (HBX.out.trans (b7.mono HBX.out.size))
                  have HR7 : Hid (Rw w7 w.heap.size 24 N) := HRX.out.below b7 HRX.out.lt
                  have HD7 : Hid (Rw w7 wr.heap.size 24 D) := HXA.out.2.below b7 HXA.out.1
                  clear HMYX b7 HBX HRX HXA
                  go_wp2_with (first
                    | (refine wpList_build_atT rfl 24 _ rfl N hb0 ?_)
                    | (refine wpList_store_row rfl _ _ _ rfl w.heap.size N rfl rfl 24 _ HR7.out hsz0 rfl hone0 ?_))
                  refine IsRtE.ret (y := Rt.zero) (p := 4) (u1 := 5) (g := w.heap.size) (e := 5) (x := 5) ?_ ?_ ?_ ?_ (by rw [HN0.out]; exact Rw.row HR7.out N) HE.out rfl Rt.fit_zero (below_setRow HB7.out (Nat.le_refl _) _)
                  all_goals rfl
              · have q6 : ((p : Int) != (c'.length : Int)) = true := by rw [bne_iff_ne]; omega
                have HE := Lib.hid (Rt.getE_bad HPL.out HGE.out HRR.out (fun h => hp h.1))
                clear hp HMYX
                go_wp2_with (first
                  | (refine wpList_build_atT rfl 24 _ rfl N hb0 ?_)
                  | (refine wpList_store_row rfl _ _ _ rfl w.heap.size N rfl rfl 24 _ HRX.out hsz0 rfl hone0 ?_))
                refine IsRtE.ret (y := Rt.zero) (p := 4) (u1 := 5) (g := w.heap.size) (e := 5) (x := 5) ?_ ?_ ?_ ?_ (by rw [HN0.out]; exact Rw.row HRX.out N) HE.out rfl Rt.fit_zero (below_setRow HBX.out (Nat.le_refl _) _)
                all_goals rfl
      · have HE := Lib.hid (Rt.getE_kind HPL.out HGE.out hk)
        have hq : ((k : Int) != 1) = true := by rw [bne_iff_ne]; omega
        rcases hpq with q0 | ⟨q0, q1⟩
        all_goals
          go_enter Try.func12, Try.ntmps12
          go_wp2_with (fail)
          refine HG.out.mono ?_
          rintro e' w1 ⟨A1, c1, rfl, o1, b1⟩
          have HB1 := Lib.hid (HB.out.trans (b1.mono HB.out.size))
          have HR1 : Hid (Rw w1 w.heap.size 24 N) := HR.out.below b1 HVZ.out
          clear HG o1 b1 hV HR
          go_wp2_with (first
            | (refine wpList_build_atT rfl 24 _ rfl N hb0 ?_)
            | (refine wpList_store_row rfl _ _ _ rfl w.heap.size N rfl rfl 24 _ HR1.out hsz0 rfl hone0 ?_))
          refine IsRtE.ret (y := Rt.zero) (p := 4) (u1 := 5) (g := w.heap.size) (e := 5) (x := 5) ?_ ?_ ?_ ?_ (by rw [HN0.out]; exact Rw.row HR1.out N) HE.out rfl Rt.fit_zero (below_setRow HB1.out (Nat.le_refl _) _)
          all_goals rfl
    · have HE := Lib.hid (Rt.getE_page HPL.out HGE.out he)
      have hq : ((e : Int) != 0) = true := by rw [bne_iff_ne]; omega
      rcases hpq with q0 | ⟨q0, q1⟩
      all_goals
        go_enter Try.func12, Try.ntmps12
        go_wp2_with (fail)
        refine HG.out.mono ?_
        rintro e' w1 ⟨A1, c1, rfl, o1, b1⟩
        have HB1 := Lib.hid (HB.out.trans (b1.mono HB.out.size))
        have HR1 : Hid (Rw w1 w.heap.size 24 N) := HR.out.below b1 HVZ.out
        clear HG o1 b1 hV HR
        go_wp2_with (first
          | (refine wpList_build_atT rfl 24 _ rfl N hb0 ?_)
          | (refine wpList_store_row rfl _ _ _ rfl w.heap.size N rfl rfl 24 _ HR1.out hsz0 rfl hone0 ?_))
        refine IsRtE.ret (y := Rt.zero) (p := 4) (u1 := 5) (g := w.heap.size) (e := e) (x := e) ?_ ?_ ?_ ?_ (by rw [HN0.out]; exact Rw.row HR1.out N) HE.out rfl Rt.fit_zero (below_setRow HB1.out (Nat.le_refl _) _)
        all_goals rfl
end Go.Proofs.Ytoefogmjekcbeaa
