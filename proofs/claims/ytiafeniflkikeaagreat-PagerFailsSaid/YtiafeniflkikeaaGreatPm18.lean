/- Parts of the proof. -/
import Derived.Test.YtiafeniflkikeaaGreatPm05
import Derived.Test.YtiafeniflkikeaaGreatPm08
import Derived.Test.YtiafeniflkikeaaGreatPm13
import Derived.Test.YtiafeniflkikeaaGreatPm09
import Derived.Test.YtiafeniflkikeaaGreatPm04
import Derived.Test.YtiafeniflkikeaaGreatPm03
import Derived.Outline
namespace Go.Proofs.YtiafeniflkikeaaGreat
open Go.RowKit
set_option linter.unusedVariables false
set_option maxHeartbeats 2000000 in
set_option maxRecDepth 100000 in
theorem prtplace_any (r : Rt.Root) (w : World) (hf : Rt.Fit r) : Calls Tryz.prog 67 #[.agg (rtC r)] w (fun e w' => e = .returned (.int .i64 ((r.seq % 2 : Nat) : Int)) ∧ Below w.heap.size w w') := by
 obtain ⟨W, hW⟩ : ∃ W, w.alloc (.cells (rtC r) 34) = W := ⟨_, rfl⟩
 obtain ⟨hx, hb⟩ := bxt_new hW
 have HB := Lib.hid hb
 have c0 : W.cell? ⟨w.heap.size, 0, none⟩ = some (.int .u64 (r.seq : Nat)) := hx.2.cell 0
 obtain ⟨m, hm⟩ : ∃ m, r.seq % 2 = m := ⟨_, rfl⟩
 have hsm : (r.seq : Int) % 2 = (m : Int) := by omega
 have hwm : IntKind.i64.wrap (m : Int) = (m : Int) := by rw [IntKind.wrap_i64]; omega
 obtain ⟨D, hD⟩ : ∃ D, rtC r = D := ⟨_, rfl⟩
 obtain ⟨s, hs⟩ : ∃ s, r.seq = s := ⟨_, rfl⟩
 rw [hs] at c0 hsm
 rw [hm]
 rw [hD] at hW ⊢
 clear hx hb hf hD hs hm
 go_enter Tryz.func67, Tryz.ntmps67
 go_wp2
 go_ret
 exact ⟨rfl, HB.out⟩
set_option maxHeartbeats 4000000 in
set_option maxRecDepth 100000 in
theorem prtmay_any (r : Rt.Root) (w : World) (hf : Rt.Fit r) : Calls Tryz.prog 89 #[.agg (rtC r)] w (IsBool (decide (Rt.May r)) w) := by
 obtain ⟨W, hW⟩ : ∃ W, w.alloc (.cells (rtC r) 34) = W := ⟨_, rfl⟩
 obtain ⟨hx, hb⟩ := bxt_new hW
 have HB := Lib.hid hb
 have c0 : W.cell? ⟨w.heap.size, 0, none⟩ = some (.int .u64 (r.seq : Nat)) := hx.2.cell 0
 have c1 : W.cell? ⟨w.heap.size, 1, none⟩ = some (.int .i64 r.page) := hx.2.cell 1
 have c2 : W.cell? ⟨w.heap.size, 2, none⟩ = some (.int .i64 r.pages) := hx.2.cell 2
 have c3 : W.cell? ⟨w.heap.size, 3, none⟩ = some (.int .u64 (r.lsn : Nat)) := hx.2.cell 3
 have c4 : W.cell? ⟨w.heap.size, 4, none⟩ = some (.int .u64 (r.next : Nat)) := hx.2.cell 4
 have c5 : W.cell? ⟨w.heap.size, 5, none⟩ = some (.int .i64 r.shard) := hx.2.cell 5
 have c6 : W.cell? ⟨w.heap.size, 6, none⟩ = some (.int .i64 r.tail) := hx.2.cell 6
 obtain ⟨D, hD⟩ : ∃ D, rtC r = D := ⟨_, rfl⟩
 rw [hD] at hW ⊢
 clear hx hb hf hD
 obtain ⟨seq, page, pages, lsn, next, shard, tail⟩ := r
 simp only at c0 c1 c2 c3 c4 c5 c6
 by_cases a2_0 : (seq : Int) < 1
 ·skip
  have HX : Hid (decide (Rt.May ⟨seq, page, pages, lsn, next, shard, tail⟩) = false) := decide_eq_false fun h => by
   obtain ⟨h1, h2, h3, h4, h5, h6, h7, h8, h9, h10, h11, h12⟩ := h
   simp only at h1 h2 h3 h4 h5 h6 h7 h8 h9 h10 h11 h12
   omega
  rw [HX.out]
  go_enter Tryz.func89, Tryz.ntmps89
  go_wp2
  go_ret
  exact ⟨rfl, HB.out⟩
 by_cases a2_1 : (4611686018427387904 : Int) < (seq : Int)
 ·skip
  have HX : Hid (decide (Rt.May ⟨seq, page, pages, lsn, next, shard, tail⟩) = false) := decide_eq_false fun h => by
   obtain ⟨h1, h2, h3, h4, h5, h6, h7, h8, h9, h10, h11, h12⟩ := h
   simp only at h1 h2 h3 h4 h5 h6 h7 h8 h9 h10 h11 h12
   omega
  rw [HX.out]
  go_enter Tryz.func89, Tryz.ntmps89
  go_wp2
  go_ret
  exact ⟨rfl, HB.out⟩
 by_cases a2_2 : pages < 2
 ·skip
  have HX : Hid (decide (Rt.May ⟨seq, page, pages, lsn, next, shard, tail⟩) = false) := decide_eq_false fun h => by
   obtain ⟨h1, h2, h3, h4, h5, h6, h7, h8, h9, h10, h11, h12⟩ := h
   simp only at h1 h2 h3 h4 h5 h6 h7 h8 h9 h10 h11 h12
   omega
  rw [HX.out]
  go_enter Tryz.func89, Tryz.ntmps89
  go_wp2
  go_ret
  exact ⟨rfl, HB.out⟩
 by_cases a2_3 : 65536 < pages
 ·skip
  have HX : Hid (decide (Rt.May ⟨seq, page, pages, lsn, next, shard, tail⟩) = false) := decide_eq_false fun h => by
   obtain ⟨h1, h2, h3, h4, h5, h6, h7, h8, h9, h10, h11, h12⟩ := h
   simp only at h1 h2 h3 h4 h5 h6 h7 h8 h9 h10 h11 h12
   omega
  rw [HX.out]
  go_enter Tryz.func89, Tryz.ntmps89
  go_wp2
  go_ret
  exact ⟨rfl, HB.out⟩
 by_cases p0 : page = 0
 ·have q0 : (page != 0) = false := by rw [bne_eq_false_iff_eq]; exact p0
  by_cases a4_0 : (4611686018427387904 : Int) < (lsn : Int)
  ·skip
   have HX : Hid (decide (Rt.May ⟨seq, page, pages, lsn, next, shard, tail⟩) = false) := decide_eq_false fun h => by
    obtain ⟨h1, h2, h3, h4, h5, h6, h7, h8, h9, h10, h11, h12⟩ := h
    simp only at h1 h2 h3 h4 h5 h6 h7 h8 h9 h10 h11 h12
    omega
   rw [HX.out]
   go_enter Tryz.func89, Tryz.ntmps89
   go_wp2
   go_ret
   exact ⟨rfl, HB.out⟩
  by_cases a4_1 : (next : Int) < 1
  ·skip
   have HX : Hid (decide (Rt.May ⟨seq, page, pages, lsn, next, shard, tail⟩) = false) := decide_eq_false fun h => by
    obtain ⟨h1, h2, h3, h4, h5, h6, h7, h8, h9, h10, h11, h12⟩ := h
    simp only at h1 h2 h3 h4 h5 h6 h7 h8 h9 h10 h11 h12
    omega
   rw [HX.out]
   go_enter Tryz.func89, Tryz.ntmps89
   go_wp2
   go_ret
   exact ⟨rfl, HB.out⟩
  by_cases a4_2 : (4294967296 : Int) < (next : Int)
  ·skip
   have HX : Hid (decide (Rt.May ⟨seq, page, pages, lsn, next, shard, tail⟩) = false) := decide_eq_false fun h => by
    obtain ⟨h1, h2, h3, h4, h5, h6, h7, h8, h9, h10, h11, h12⟩ := h
    simp only at h1 h2 h3 h4 h5 h6 h7 h8 h9 h10 h11 h12
    omega
   rw [HX.out]
   go_enter Tryz.func89, Tryz.ntmps89
   go_wp2
   go_ret
   exact ⟨rfl, HB.out⟩
  by_cases a4_3 : shard < 0
  ·skip
   have HX : Hid (decide (Rt.May ⟨seq, page, pages, lsn, next, shard, tail⟩) = false) := decide_eq_false fun h => by
    obtain ⟨h1, h2, h3, h4, h5, h6, h7, h8, h9, h10, h11, h12⟩ := h
    simp only at h1 h2 h3 h4 h5 h6 h7 h8 h9 h10 h11 h12
    omega
   rw [HX.out]
   go_enter Tryz.func89, Tryz.ntmps89
   go_wp2
   go_ret
   exact ⟨rfl, HB.out⟩
  by_cases a4_4 : 2147483647 < shard
  ·skip
   have HX : Hid (decide (Rt.May ⟨seq, page, pages, lsn, next, shard, tail⟩) = false) := decide_eq_false fun h => by
    obtain ⟨h1, h2, h3, h4, h5, h6, h7, h8, h9, h10, h11, h12⟩ := h
    simp only at h1 h2 h3 h4 h5 h6 h7 h8 h9 h10 h11 h12
    omega
   rw [HX.out]
   go_enter Tryz.func89, Tryz.ntmps89
   go_wp2
   go_ret
   exact ⟨rfl, HB.out⟩
  by_cases a4_5 : tail < 0
  ·skip
   have HX : Hid (decide (Rt.May ⟨seq, page, pages, lsn, next, shard, tail⟩) = false) := decide_eq_false fun h => by
    obtain ⟨h1, h2, h3, h4, h5, h6, h7, h8, h9, h10, h11, h12⟩ := h
    simp only at h1 h2 h3 h4 h5 h6 h7 h8 h9 h10 h11 h12
    omega
   rw [HX.out]
   go_enter Tryz.func89, Tryz.ntmps89
   go_wp2
   go_ret
   exact ⟨rfl, HB.out⟩
  by_cases a4_6 : 1048576 < tail
  ·skip
   have HX : Hid (decide (Rt.May ⟨seq, page, pages, lsn, next, shard, tail⟩) = false) := decide_eq_false fun h => by
    obtain ⟨h1, h2, h3, h4, h5, h6, h7, h8, h9, h10, h11, h12⟩ := h
    simp only at h1 h2 h3 h4 h5 h6 h7 h8 h9 h10 h11 h12
    omega
   rw [HX.out]
   go_enter Tryz.func89, Tryz.ntmps89
   go_wp2
   go_ret
   exact ⟨rfl, HB.out⟩
  have HX : Hid (decide (Rt.May ⟨seq, page, pages, lsn, next, shard, tail⟩) = true) := decide_eq_true (by unfold Rt.May; simp only; omega)
  rw [HX.out]
  go_enter Tryz.func89, Tryz.ntmps89
  go_wp2
  go_ret
  exact ⟨rfl, HB.out⟩
 ·have q0 : (page != 0) = true := by rw [bne_iff_ne]; exact p0
  by_cases a4_0 : page < 2
  ·skip
   have HX : Hid (decide (Rt.May ⟨seq, page, pages, lsn, next, shard, tail⟩) = false) := decide_eq_false fun h => by
    obtain ⟨h1, h2, h3, h4, h5, h6, h7, h8, h9, h10, h11, h12⟩ := h
    simp only at h1 h2 h3 h4 h5 h6 h7 h8 h9 h10 h11 h12
    omega
   rw [HX.out]
   go_enter Tryz.func89, Tryz.ntmps89
   go_wp2
   go_ret
   exact ⟨rfl, HB.out⟩
  by_cases a4_1 : pages ≤ page
  ·skip
   have HX : Hid (decide (Rt.May ⟨seq, page, pages, lsn, next, shard, tail⟩) = false) := decide_eq_false fun h => by
    obtain ⟨h1, h2, h3, h4, h5, h6, h7, h8, h9, h10, h11, h12⟩ := h
    simp only at h1 h2 h3 h4 h5 h6 h7 h8 h9 h10 h11 h12
    omega
   rw [HX.out]
   go_enter Tryz.func89, Tryz.ntmps89
   go_wp2
   go_ret
   exact ⟨rfl, HB.out⟩
  by_cases a4_0 : (4611686018427387904 : Int) < (lsn : Int)
  ·skip
   have HX : Hid (decide (Rt.May ⟨seq, page, pages, lsn, next, shard, tail⟩) = false) := decide_eq_false fun h => by
    obtain ⟨h1, h2, h3, h4, h5, h6, h7, h8, h9, h10, h11, h12⟩ := h
    simp only at h1 h2 h3 h4 h5 h6 h7 h8 h9 h10 h11 h12
    omega
   rw [HX.out]
   go_enter Tryz.func89, Tryz.ntmps89
   go_wp2
   go_ret
   exact ⟨rfl, HB.out⟩
  by_cases a4_1 : (next : Int) < 1
  ·skip
   have HX : Hid (decide (Rt.May ⟨seq, page, pages, lsn, next, shard, tail⟩) = false) := decide_eq_false fun h => by
    obtain ⟨h1, h2, h3, h4, h5, h6, h7, h8, h9, h10, h11, h12⟩ := h
    simp only at h1 h2 h3 h4 h5 h6 h7 h8 h9 h10 h11 h12
    omega
   rw [HX.out]
   go_enter Tryz.func89, Tryz.ntmps89
   go_wp2
   go_ret
   exact ⟨rfl, HB.out⟩
  by_cases a4_2 : (4294967296 : Int) < (next : Int)
  ·skip
   have HX : Hid (decide (Rt.May ⟨seq, page, pages, lsn, next, shard, tail⟩) = false) := decide_eq_false fun h => by
    obtain ⟨h1, h2, h3, h4, h5, h6, h7, h8, h9, h10, h11, h12⟩ := h
    simp only at h1 h2 h3 h4 h5 h6 h7 h8 h9 h10 h11 h12
    omega
   rw [HX.out]
   go_enter Tryz.func89, Tryz.ntmps89
   go_wp2
   go_ret
   exact ⟨rfl, HB.out⟩
  by_cases a4_3 : shard < 0
  ·skip
   have HX : Hid (decide (Rt.May ⟨seq, page, pages, lsn, next, shard, tail⟩) = false) := decide_eq_false fun h => by
    obtain ⟨h1, h2, h3, h4, h5, h6, h7, h8, h9, h10, h11, h12⟩ := h
    simp only at h1 h2 h3 h4 h5 h6 h7 h8 h9 h10 h11 h12
    omega
   rw [HX.out]
   go_enter Tryz.func89, Tryz.ntmps89
   go_wp2
   go_ret
   exact ⟨rfl, HB.out⟩
  by_cases a4_4 : 2147483647 < shard
  ·skip
   have HX : Hid (decide (Rt.May ⟨seq, page, pages, lsn, next, shard, tail⟩) = false) := decide_eq_false fun h => by
    obtain ⟨h1, h2, h3, h4, h5, h6, h7, h8, h9, h10, h11, h12⟩ := h
    simp only at h1 h2 h3 h4 h5 h6 h7 h8 h9 h10 h11 h12
    omega
   rw [HX.out]
   go_enter Tryz.func89, Tryz.ntmps89
   go_wp2
   go_ret
   exact ⟨rfl, HB.out⟩
  by_cases a4_5 : tail < 0
  ·skip
   have HX : Hid (decide (Rt.May ⟨seq, page, pages, lsn, next, shard, tail⟩) = false) := decide_eq_false fun h => by
    obtain ⟨h1, h2, h3, h4, h5, h6, h7, h8, h9, h10, h11, h12⟩ := h
    simp only at h1 h2 h3 h4 h5 h6 h7 h8 h9 h10 h11 h12
    omega
   rw [HX.out]
   go_enter Tryz.func89, Tryz.ntmps89
   go_wp2
   go_ret
   exact ⟨rfl, HB.out⟩
  by_cases a4_6 : 1048576 < tail
  ·skip
   have HX : Hid (decide (Rt.May ⟨seq, page, pages, lsn, next, shard, tail⟩) = false) := decide_eq_false fun h => by
    obtain ⟨h1, h2, h3, h4, h5, h6, h7, h8, h9, h10, h11, h12⟩ := h
    simp only at h1 h2 h3 h4 h5 h6 h7 h8 h9 h10 h11 h12
    omega
   rw [HX.out]
   go_enter Tryz.func89, Tryz.ntmps89
   go_wp2
   go_ret
   exact ⟨rfl, HB.out⟩
  have HX : Hid (decide (Rt.May ⟨seq, page, pages, lsn, next, shard, tail⟩) = true) := decide_eq_true (by unfold Rt.May; simp only; omega)
  rw [HX.out]
  go_enter Tryz.func89, Tryz.ntmps89
  go_wp2
  go_ret
  exact ⟨rfl, HB.out⟩
end Go.Proofs.YtiafeniflkikeaaGreat
namespace Go.Proofs.YtiafeniflkikeaaGreat
open Go.RowKit
set_option linter.unusedVariables false
def IsFresh (l : List Nat) (w : World) (e : Ending) (w' : World) : Prop :=
 ∃ A c, e = .returned (.slice A l.length c) ∧ OwnB w' w.heap.size (.slice A l.length c) l ∧ Below w.heap.size w w'
set_option maxHeartbeats 400000 in
set_option maxRecDepth 100000 in
theorem put_any (n : Nat) (hn : Mt.B64 n) (w : World) :
  Calls Tryz.prog 118 #[.int .u64 n] w (IsFresh (Mt.put n) w) := by
 have hlen := Mt.put_len_le n
 obtain ⟨i0, hi, hz0, hz1, hz2⟩ := info_parts info5
 go_enter Tryz.func118, Tryz.ntmps118
 have hb2 : i0.bytes * (Mt.put n).length ≤ 281474976710656 := by rw [hz2]; omega
 have hm3 : (Mt.put n).length ≤ maxLen := by simp only [maxLen]; omega
 clear hlen
 go_wp2_with (first | (go_at_call 135; refine (len_any _ hn _).mono ?_; rintro e w' ⟨rfl, rfl⟩) | (at_make; go_must (refine wpList_make_own _ rfl _ _ 40 rfl w.heap.size 5 i0 (.int .u8 0) 1 Tryz.underlying40 hi hz0 hz1 .i64 .i64 _ (Mt.put n).length rfl rfl rfl hb2 hm3 (Nat.le_refl _) ?_; intro w1 hown hgrow)))
 have how : OwnB w1 w.heap.size (.slice (some ⟨w.heap.size, 0, none⟩) 0 (Mt.put n).length) [] := ⟨by simp, hown⟩
 have hbel : Below w.heap.size w w1 := (Below.refl _ _).grown hgrow (Nat.le_refl _) (by intro k hk; cases hk)
 clear hown hgrow hb2 hm3
 go_loopw [0, 3] (fun m v wr => ∃ (q : Nat) (l : List Nat), m = .int .u64 q ∧ Hid (Mt.B64 q) ∧ Hid (OwnB wr w.heap.size v l) ∧ Hid (Mt.put n = l ++ Mt.put q) ∧ Below w.heap.size w wr) (fun m _ _ => (intOf m).toNat)
 case atStart => exact ⟨n, [], rfl, hn, how, rfl, hbel⟩
 case round =>
  obtain ⟨q, l, rfl, HQ, HO, HP, hbr⟩ := hrel
  clear how hbel hi hz0 hz1 hz2
  have hbase : w.heap.size ≤ wr.heap.size := hbr.size
  have hl10 : l.length ≤ 10 := by
   have h1 := Mt.put_len_le n
   rw [HP.out, List.length_append] at h1
   omega
  by_cases h : 128 ≤ q
  ·have HP2 : Hid (Mt.put n = (l ++ [q % 128 + 128]) ++ Mt.put (q / 128)) := by
    unfold Hid
    rw [HP.out, Mt.put_step h HQ.out]
    simp
   have HQ2 : Hid (Mt.B64 (q / 128)) := Mt.b64_div HQ.out
   have hown1 := HO.out.alloc_ (.cells #[.int .u8 (bits BinOp.or IntKind.u8 ((q : Int) % 256) 128)] 5)
   have hsrc := Bv.one_ wr (or128 q) (by omega)
   have hbel1 := hbr.alloc hbase (.cells #[.int .u8 (bits BinOp.or IntKind.u8 ((q : Int) % 256) 128)] 5)
   have HO1 := Lib.hid hown1
   have HS := Lib.hid hsrc
   have HB := Lib.hid hbel1
   clear hown1 hsrc hbel1 HP HO HQ hn
   go_wp2_with (at_builtin; go_must (refine wpList_append_bytes _ rfl _ _ rfl rfl w.heap.size _ rfl l HO1.out _ rfl _ [q % 128 + 128] HS.out (by simp; omega) (by simp; omega) ?_; intro A c w2 hA))
   go_roundw
   case rel => exact ⟨q / 128, l ++ [q % 128 + 128], by simp, HQ2, (by simpa [Hid] using hA.own), HP2, HB.out.grown hA.grown (by simp; omega) (fun k hk => (HO1.out.lt_ k hk).1)⟩
   case measure => simp [intOf]; omega
  ·have HP2 : Hid (Mt.put n = l ++ [q]) := by
    unfold Hid
    rw [HP.out, Mt.put_small (by omega)]
   have hown1 := HO.out.alloc_ (.cells #[.int .u8 (q : Int)] 5)
   have hsrc := Bv.one_ wr (x := (q : Int)) (c := q) rfl (by omega)
   have hbel1 := hbr.alloc hbase (.cells #[.int .u8 (q : Int)] 5)
   have HO1 := Lib.hid hown1
   have HS := Lib.hid hsrc
   have HB := Lib.hid hbel1
   clear hown1 hsrc hbel1 HP HO HQ hn
   go_wp2_with (at_builtin; go_must (refine wpList_append_bytes _ rfl _ _ rfl rfl w.heap.size _ rfl l HO1.out _ rfl _ [q] HS.out (by simp; omega) (by simp; omega) ?_; intro A c w2 hA))
   go_ret
   exact ⟨A, c, by rw [HP2.out]; simp, by rw [HP2.out]; exact hA.own, HB.out.grown hA.grown (by simp; omega) (fun k hk => (HO1.out.lt_ k hk).1)⟩
end Go.Proofs.YtiafeniflkikeaaGreat
namespace Go.Proofs.YtiafeniflkikeaaGreat
open Go.RowKit
set_option linter.unusedVariables false
theorem index7 (c : Array Value) (k : Nat) (v : Value) (hk : k < 7) (hv : c[k]? = some v) (w : World) : (Instr.index 169 (.agg c) (.int .i64 k)).run Tryz.prog w = .ok v w := by
 have h1 : (0 : Int) ≤ (k : Int) := by omega
 have h3 : (k : Int) < 7 := by omega
 simp [go_sem, Instr.index, part, hv, h1]
 intro h
 omega
def ncs (l : List Nat) : Array Value := (l.map fun n => Value.int .u64 (n : Nat)).toArray
theorem ncs_at {l : List Nat} {k x : Nat} (h : l[k]? = some x) : (ncs l)[k]? = some (.int .u64 (x : Nat)) := by simp [ncs, h]
set_option maxHeartbeats 2000000 in
set_option maxRecDepth 100000 in
theorem prtlay_any (r : Rt.Root) (w : World) (hm : Rt.May r) : Calls Tryz.prog 91 #[.agg (rtC r)] w (IsL1 yK (Rt.bys (Rt.nums r)) w) := by
 obtain ⟨W, hW⟩ : ∃ W, w.alloc (.cells (rtC r) 34) = W := ⟨_, rfl⟩
 obtain ⟨hx, hb⟩ := bxt_new hW
 have HB := Lib.hid hb
 have HB64 := Lib.hid (Rt.nums_b64 hm)
 have c0 : W.cell? ⟨w.heap.size, 0, none⟩ = some (.int .u64 (r.seq : Nat)) := hx.2.cell 0
 have c1 : W.cell? ⟨w.heap.size, 1, none⟩ = some (.int .i64 r.page) := hx.2.cell 1
 have c2 : W.cell? ⟨w.heap.size, 2, none⟩ = some (.int .i64 r.pages) := hx.2.cell 2
 have c3 : W.cell? ⟨w.heap.size, 3, none⟩ = some (.int .u64 (r.lsn : Nat)) := hx.2.cell 3
 have c4 : W.cell? ⟨w.heap.size, 4, none⟩ = some (.int .u64 (r.next : Nat)) := hx.2.cell 4
 have c5 : W.cell? ⟨w.heap.size, 5, none⟩ = some (.int .i64 r.shard) := hx.2.cell 5
 have c6 : W.cell? ⟨w.heap.size, 6, none⟩ = some (.int .i64 r.tail) := hx.2.cell 6
 obtain ⟨D, hD⟩ : ∃ D, rtC r = D := ⟨_, rfl⟩
 rw [hD] at hW ⊢
 obtain ⟨h1, h2, h3, h4, h5, h6, h7, h8, h9, h10, h11, h12⟩ := hm
 clear hx hb hD
 obtain ⟨seq, page, pages, lsn, next, shard, tail⟩ := r
 simp only at h1 h2 h3 h4 h5 h6 h7 h8 h9 h10 h11 h12 c0 c1 c2 c3 c4 c5 c6
 obtain ⟨n1, rfl⟩ := Int.eq_ofNat_of_zero_le (show 0 ≤ page by omega)
 obtain ⟨n2, rfl⟩ := Int.eq_ofNat_of_zero_le (show 0 ≤ pages by omega)
 obtain ⟨n5, rfl⟩ := Int.eq_ofNat_of_zero_le h9
 obtain ⟨n6, rfl⟩ := Int.eq_ofNat_of_zero_le h11
 have u1 : IntKind.u64.wrap (n1 : Int) = (n1 : Int) := by rw [IntKind.wrap_u64]; omega
 have u2 : IntKind.u64.wrap (n2 : Int) = (n2 : Int) := by rw [IntKind.wrap_u64]; omega
 have u5 : IntKind.u64.wrap (n5 : Int) = (n5 : Int) := by rw [IntKind.wrap_u64]; omega
 have u6 : IntKind.u64.wrap (n6 : Int) = (n6 : Int) := by rw [IntKind.wrap_u64]; omega
 have HNS : Hid (Rt.nums ⟨seq, n1, n2, lsn, next, n5, n6⟩ = [seq, n1, n2, lsn, next, n5, n6]) := by unfold Hid Rt.nums; simp
 rw [HNS.out] at HB64 ⊢
 obtain ⟨ns, hns⟩ : ∃ ns, [seq, n1, n2, lsn, next, n5, n6] = ns := ⟨_, rfl⟩
 have hn7 : ns.length = 7 := by rw [← hns]; rfl
 rw [hns] at HB64 ⊢
 have HN7 := Lib.hid hn7
 have HIX : Hid (∀ (k x : Nat), k < 7 → ns[k]? = some x → ∀ w, (Instr.index 169 (.agg #[.int .u64 (seq : Nat), .int .u64 (n1 : Nat), .int .u64 (n2 : Nat), .int .u64 (lsn : Nat), .int .u64 (next : Nat), .int .u64 (n5 : Nat), .int .u64 (n6 : Nat)]) (.int .i64 k)).run Tryz.prog w = .ok (.int .u64 (x : Nat)) w) := fun k x hk hx w => by
  have hc := ncs_at hx
  rw [← hns] at hc
  exact index7 _ k _ hk hc w
 clear hns hn7 HNS h1 h2 h3 h4 h5 h6 h7 h8 h9 h10 h11 h12
 go_enter Tryz.func91, Tryz.ntmps91
 go_wp2
 clear c0 c1 c2 c3 c4 c5 c6 u1 u2 u5 u6 hW
 have hput : Hid (∀ n w, Mt.B64 n → Calls Tryz.prog 118 #[.int .u64 (n : Nat)] w (IsFresh (Mt.put n) w)) := fun n w h => put_any n h w
 have HWY : Hid (w.heap.size ≤ W.heap.size) := HB.out.size
 go_loopw [3, 25] (fun s i wr => ∃ (k : Nat) (A5 : Option Addr) (c5 : Nat) (l : List Nat), k ≤ 7 ∧ Hid (l = Rt.bys (ns.take k)) ∧ s = .slice A5 l.length c5 ∧ i = .int .i64 (k : Nat) ∧ Hid (OwnL yK wr W.heap.size (.slice A5 l.length c5) l) ∧ Hid (Below W.heap.size W wr)) (fun _ i _ => 7 - (intOf i).toNat)
 case atStart => exact ⟨0, none, 0, [], by omega, by simp [Hid, Rt.bys], rfl, rfl, OwnL.nil_ _ _ _, Below.refl _ _⟩
 case round =>
  obtain ⟨k, A5, c5, l, hk, HLk, rfl, rfl, HO, HBr⟩ := hrel
  have HZr : Hid (W.heap.size ≤ wr.heap.size) := HBr.out.size
  by_cases hlt : k < 7
  ·have hln := HN7.out
   obtain ⟨x, hx⟩ : ∃ x, ns[k]? = some x := ⟨_, List.getElem?_eq_getElem (by omega)⟩
   have hix := HIX.out k x hlt hx
   have hB := HB64.out x (List.mem_of_getElem? hx)
   have HPx := Lib.hid (hput.out x wr hB)
   have hll : l.length ≤ 70 := by
    rw [HLk.out]
    have := Rt.bys_len (ns.take k)
    rw [List.length_take] at this
    omega
   have hpl := Mt.put_len_le x
   have HLS : Hid (l ++ Mt.put x = Rt.bys (ns.take (k + 1))) := by
    unfold Hid
    rw [HLk.out, take_snoc hx, Rt.bys_snoc]
   have HK := Lib.hid hk
   have j5 : (k : Int) < 7 := by omega
   have j6 : (0 : Int) ≤ (k : Int) := by omega
   clear hln hx HLk hk
   go_wp2_with fail
   refine HPx.out.mono ?_
   rintro e w4 ⟨A4, c4, rfl, ho4, hb4⟩
   have HO4 := Lib.hid (HO.out.below_ hb4 (Nat.le_refl _))
   have HS4 := Lib.hid (ho4.form_.lv_)
   have HB4 := Lib.hid (HBr.out.trans (hb4.mono HBr.out.size))
   have HZ4 : Hid (W.heap.size ≤ w4.heap.size) := Nat.le_trans HZr.out hb4.size
   clear ho4 hb4 HPx HO
   go_wp2_with (at_builtin; go_must (refine wpList_append_l _ yK rfl _ _ rfl W.heap.size _ rfl l HO4.out _ rfl _ (Mt.put x) HS4.out (by show _ * 1 ≤ _; omega) (by simp only [maxLen]; omega) HZ4.out ?_; intro A6 c6 w6 hA6 hG6))
   have hl6 : (l ++ Mt.put x).length = l.length + (Mt.put x).length := by simp
   go_roundw
   case rel =>
    refine ⟨k + 1, A6, c6, l ++ Mt.put x, by omega, HLS.out, by rw [hl6], by go_num, hA6, HB4.out.grown hG6 HZ4.out (fun k hk => (HO4.out.lt_ k hk).1)⟩
   case measure => simp [intOf]; omega
  ·obtain rfl : k = 7 := by omega
   have hl : l = Rt.bys ns := by rw [HLk.out, List.take_of_length_le (by have := HN7.out; omega)]
   have j5 : ¬ ((7 : Nat) : Int) < 7 := by omega
   have HBw : Hid (Below w.heap.size w wr) := HB.out.trans (HBr.out.mono HWY.out)
   have HO2 := Lib.hid (HO.out.mono_ HWY.out)
   clear HLk hlt hk HO HBr hput HB64
   subst hl
   go_wp2
   go_ret
   exact ⟨A5, c5, rfl, HO2.out, HBw.out⟩
end Go.Proofs.YtiafeniflkikeaaGreat
namespace Go.Proofs.YtiafeniflkikeaaGreat.Rt
def qn (b : List Nat) (a : Nat) : Nat := if (Mt.get b (a : Nat)).2.2 ≠ 0 then 0 else (Mt.get b (a : Nat)).1
def qa (b : List Nat) (a : Nat) : Nat := if (Mt.get b (a : Nat)).2.2 ≠ 0 then a else (Mt.get b (a : Nat)).2.1
def qs (b : List Nat) : Nat → Nat → List Nat
 | 0, _ => []
 | k + 1, a => qn b a :: qs b k (qa b a)
def sg (n : Nat) : Int := IntKind.i64.wrap (n : Int)
def ofQ (l : List Nat) : Root := ⟨l.getD 0 0, sg (l.getD 1 0), sg (l.getD 2 0), l.getD 3 0, l.getD 4 0, sg (l.getD 5 0), sg (l.getD 6 0)⟩
def rootQ (b : List Nat) : Root := ofQ (qs b 7 0)
theorem rootQ_at {b : List Nat} {p1 p2 p3 p4 p5 p6 : Nat} (h1 : qa b 0 = p1) (h2 : qa b p1 = p2) (h3 : qa b p2 = p3) (h4 : qa b p3 = p4) (h5 : qa b p4 = p5) (h6 : qa b p5 = p6) :
  rootQ b = ⟨qn b 0, sg (qn b p1), sg (qn b p2), qn b p3, qn b p4, sg (qn b p5), sg (qn b p6)⟩ := by
 simp only [rootQ, ofQ, qs, List.getD_cons_zero, List.getD_cons_succ, h1, h2, h3, h4, h5, h6]
theorem qs_len (b : List Nat) : ∀ k a, (qs b k a).length = k := by
 intro k
 induction k with
 | zero => intro a; rfl
 | succ k ih => intro a; simp [qs, ih]
theorem qn_b64 {b : List Nat} (hb : ∀ x ∈ b, x < 256) (a : Nat) : Mt.B64 (qn b a) := by
 unfold qn
 rcases Mt.get_cases hb (a : Nat) with ⟨e, h1, -, h⟩ | ⟨k, n, r, -, -, hn, -, -, h⟩
 ·rw [h, if_pos (by show e ≠ 0; omega)]; unfold Mt.B64; omega
 ·rw [h, if_neg (by simp)]; exact hn
theorem rd_qs {b : List Nat} (hb : ∀ x ∈ b, x < 256) : ∀ (k i a : Nat) (l l' : List Nat) (e : Nat), a ≤ b.length → rd b k i a l = some (l', e) →
  l' = l ++ qs b k a ∧ e ≤ b.length ∧ b.drop a = bys (qs b k a) ++ b.drop e ∧ ∀ j n, (qs b k a)[j]? = some n → ¬ Bad (i + j) n := by
 intro k
 induction k with
 | zero =>
  intro i a l l' e ha h
  simp only [rd, Option.some.injEq, Prod.mk.injEq] at h
  obtain ⟨rfl, rfl⟩ := h
  simp [qs, bys, ha]
 | succ k ih =>
  intro i a l l' e ha h
  rw [rd] at h
  rcases Mt.get_cases hb (a : Nat) with ⟨x, h1, -, hg⟩ | ⟨m, n, r, hm, hml, hn, hd, hle, hg⟩
  ·rw [hg, if_pos (.inl (by show x ≠ 0; omega))] at h
   cases h
  ·obtain rfl : a = m := by omega
   have hqn : qn b a = n := by unfold qn; rw [hg, if_neg (by simp)]
   have hqa : qa b a = a + (Mt.put n).length := by unfold qa; rw [hg, if_neg (by simp)]
   rw [hg] at h
   by_cases hbad : Bad i n
   ·rw [if_pos (.inr hbad)] at h; cases h
   ·rw [if_neg (by intro h'; rcases h' with h' | h'; exact h' rfl; exact hbad h')] at h
    obtain ⟨h1, h2, h3, h4⟩ := ih (i + 1) _ _ _ _ hle h
    rw [qs, hqn, hqa]
    refine ⟨by rw [h1]; simp, h2, ?_, ?_⟩
    ·have h5 : b.drop (a + (Mt.put n).length) = r := by
      rw [← List.drop_drop, hd, List.drop_left]
     rw [hd, bys, List.append_assoc, ← h3, h5]
    ·intro j x hx
     cases j with
     | zero => simp at hx; subst hx; exact hbad
     | succ j =>
      have := h4 j x (by simpa using hx)
      rwa [show i + 1 + j = i + (j + 1) by omega] at this
theorem sg_ok {i n : Nat} (h : ¬ Bad i n) (h0 : i ≠ 0) (h3 : i ≠ 3) : sg n = (n : Int) := by
 unfold Bad at h
 unfold sg
 rw [IntKind.wrap_i64]
 omega
theorem seven {l : List Nat} (h : l.length = 7) : ∃ a b c d e f g, l = [a, b, c, d, e, f, g] := by
 match l, h with
 | [a, b, c, d, e, f, g], _ => exact ⟨a, b, c, d, e, f, g, rfl⟩
theorem nums_ofN {l : List Nat} (h : l.length = 7) : nums (ofN l) = l := by
 obtain ⟨a, b, c, d, e, f, g, rfl⟩ := seven h
 simp [nums, ofN]
theorem getE_q {place : Int} {b c : List Nat} {k : Nat} (hp : ¬ (place ≠ 0 ∧ place ≠ 1)) (hg : Pg.getE place b = (k, c, 0)) (hc : ∀ x ∈ c, x < 256) :
  getE place b = if k = 1 ∧ (((rootQ c).seq % 2 : Nat) : Int) = place ∧ May (rootQ c) ∧ c = bys (nums (rootQ c)) then (rootQ c, 0) else (zero, 5) := by
 by_cases hk : k = 1
 ·subst hk
  by_cases hx : (1 : Nat) = 1 ∧ (((rootQ c).seq % 2 : Nat) : Int) = place ∧ May (rootQ c) ∧ c = bys (nums (rootQ c))
  ·rw [if_pos hx]
   obtain ⟨-, h1, h2, h3⟩ := hx
   have hr := rd_put (nums (rootQ c)) [] [] 0 [] (nums_b64 h2) (nums_ok h2)
   rw [List.nil_append, List.append_nil, List.nil_append, List.length_nil, Nat.zero_add, ← h3] at hr
   have hr' : rd c 7 0 0 [] = some (nums (rootQ c), c.length) := hr
   rw [getE_ok hp hg hr' ⟨rfl, by rw [ofN_nums h2]; exact h2, by rw [ofN_nums h2]; exact h1⟩, ofN_nums h2]
  ·rw [if_neg hx]
   cases hr : rd c 7 0 0 [] with
   | none => exact getE_none hp hg hr
   | some x =>
    obtain ⟨l, a⟩ := x
    refine getE_bad hp hg hr (fun h => hx ?_)
    obtain ⟨h1, h2, h3⟩ := h
    obtain ⟨q1, -, q3, q4⟩ := rd_qs hc 7 0 0 [] l a (Nat.zero_le _) hr
    rw [List.nil_append] at q1
    have hl7 : l.length = 7 := by rw [q1]; exact qs_len c 7 0
    have hroot : rootQ c = ofN l := by
     unfold rootQ
     rw [← q1]
     rw [← q1] at q4
     obtain ⟨x0, x1, x2, x3, x4, x5, x6, rfl⟩ := seven hl7
     have s1 := sg_ok (q4 1 x1 rfl) (by omega) (by omega)
     have s2 := sg_ok (q4 2 x2 rfl) (by omega) (by omega)
     have s5 := sg_ok (q4 5 x5 rfl) (by omega) (by omega)
     have s6 := sg_ok (q4 6 x6 rfl) (by omega) (by omega)
     simp [ofQ, ofN, s1, s2, s5, s6]
    rw [hroot]
    refine ⟨rfl, h3, h2, ?_⟩
    rw [nums_ofN hl7, q1]
    rw [h1, List.drop_zero, List.drop_length, List.append_nil] at q3
    exact q3
 ·rw [if_neg (fun h => hk h.1)]
  exact getE_kind hp hg hk
end Go.Proofs.YtiafeniflkikeaaGreat.Rt
