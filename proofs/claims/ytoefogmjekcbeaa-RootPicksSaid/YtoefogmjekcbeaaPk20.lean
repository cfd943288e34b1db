/-
  RRtC: stookref16.Pick.
  RtEq: Two roots are compared.
  RtpA: root.mayBe, root.Place.
-/
import Derived.Test.YtoefogmjekcbeaaPk19
import Derived.Laws.StructEq
namespace Go.Proofs.Ytoefogmjekcbeaa
open Go.RowKit
set_option linter.unusedVariables false

set_option maxHeartbeats 4000000 in
set_option maxRecDepth 100000 in
theorem rrtpick_any (u v : Value) (a b : List Nat) (B B' : Nat) (w : World) (hu : Lv yK w B u a) (hv : Lv yK w B' v b) (hB : B ≤ w.heap.size) (hB' : B' ≤ w.heap.size) :
    Calls Try.prog 16 #[u, v] w (IsRtE (Rt.pickE a b) w) := by
  have hz7 := (zero_of_info (n := 7) rt_zero).1
  have hb0 := rt_built0
  have HN0 : Hid (rtC Rt.zero = none7) := rfl
  have hsz0 : (Try.prog.info? 24).map (·.size) = some none7.size := rt_size
  have hone0 : none7.all (·.oneCell') = true := rtC_one _
  have HNS : Hid (none7.size = 7) := rfl
  obtain ⟨N, hN⟩ : ∃ N, none7 = N := ⟨_, rfl⟩
  rw [hN] at hz7 hb0 HN0 hsz0 hone0 HNS
  clear hN
  obtain ⟨V, hV⟩ : ∃ V, w.alloc (.cells N 24) = V := ⟨_, rfl⟩
  obtain ⟨hx, hb⟩ := bxt_new hV
  have HR : Hid (Rw V w.heap.size 24 N) := hx.2
  have HB := Lib.hid hb
  have HVZ : Hid (w.heap.size < V.heap.size) := hx.1
  have HU := Lib.hid (hu.below_ hb hB)
  have HV := Lib.hid (hv.below_ hb hB')
  have HBB : Hid (B ≤ V.heap.size ∧ B' ≤ V.heap.size) := ⟨Nat.le_trans hB hb.size, Nat.le_trans hB' hb.size⟩
  have HG := Lib.hid (rrtget_any 0 u a B V HU.out HBB.out.1)
  obtain ⟨⟨r, e⟩, hr⟩ : ∃ x, Rt.getE 0 a = x := ⟨_, rfl⟩
  obtain ⟨⟨s, f⟩, hs⟩ : ∃ x, Rt.getE 1 b = x := ⟨_, rfl⟩
  rw [hr] at HG
  have HE0 : Hid (Rt.pickE a b = if e ≠ 0 ∧ f ≠ 0 then (Rt.zero, 7) else if e = 0 ∧ (f ≠ 0 ∨ s.seq < r.seq) then (r, 0) else (s, 0)) := by unfold Hid Rt.pickE; rw [hr, hs]
  have HS := Lib.hid hs
  have hways : ∃ y k, Rt.pickE a b = (y, k) ∧ ((y = Rt.zero ∧ k = 7 ∧ ((e : Int) != 0) = true ∧ ((f : Int) != 0) = true) ∨
      (y = r ∧ k = 0 ∧ ((e : Int) != 0) = false ∧ ((e : Int) == 0) = true ∧ ((f : Int) != 0) = true) ∨
      (y = r ∧ k = 0 ∧ ((e : Int) != 0) = false ∧ ((e : Int) == 0) = true ∧ ((f : Int) != 0) = false ∧ ((s.seq : Nat) : Int) < ((r.seq : Nat) : Int)) ∨
      (y = s ∧ k = 0 ∧ ((e : Int) != 0) = false ∧ ((e : Int) == 0) = true ∧ ((f : Int) != 0) = false ∧ ¬ ((s.seq : Nat) : Int) < ((r.seq : Nat) : Int)) ∨
      (y = s ∧ k = 0 ∧ ((e : Int) != 0) = true ∧ ((e : Int) == 0) = false ∧ ((f : Int) != 0) = false)) := by
    rw [HE0.out]
    simp only [bne_iff_ne, bne_eq_false_iff_eq, beq_iff_eq, beq_eq_false_iff_ne]
    by_cases h1 : e = 0
    · by_cases h2 : f = 0
      · by_cases h3 : s.seq < r.seq
        · exact ⟨r, 0, by rw [if_neg (by omega), if_pos (by omega)], by right; right; left; exact ⟨rfl, rfl, by omega⟩⟩
        · exact ⟨s, 0, by rw [if_neg (by omega), if_neg (by omega)], by right; right; right; left; exact ⟨rfl, rfl, by omega⟩⟩
      · exact ⟨r, 0, by rw [if_neg (by omega), if_pos (by omega)], by right; left; exact ⟨rfl, rfl, by omega⟩⟩
    · by_cases h2 : f = 0
      · exact ⟨s, 0, by rw [if_neg (by omega), if_neg (by omega)], by right; right; right; right; exact ⟨rfl, rfl, by omega⟩⟩
      · exact ⟨Rt.zero, 7, by rw [if_pos (by omega)], by left; exact ⟨rfl, rfl, by omega⟩⟩
  obtain ⟨y, k, hE, hcase⟩ := hways
  have HE := Lib.hid hE
  obtain ⟨A1, c1, rfl, -, -, -, -, -⟩ := hu
  obtain ⟨A2, c2, rfl, -, -, -, -, -⟩ := hv
  obtain ⟨C, hC⟩ : ∃ C, rtC r = C := ⟨_, rfl⟩
  obtain ⟨D, hD⟩ : ∃ D, rtC s = D := ⟨_, rfl⟩
  have HC := Lib.hid hC
  have HD := Lib.hid hD
  have vsC : (Try.prog.info? 24).map (·.size) = some C.size := by rw [← hC]; exact rt_size
  have vsD : (Try.prog.info? 24).map (·.size) = some D.size := by rw [← hD]; exact rt_size
  have voC : C.all (·.oneCell') = true := by rw [← hC]; exact rtC_one _
  have voD : D.all (·.oneCell') = true := by rw [← hD]; exact rtC_one _
  have hNC : N.size = C.size := by rw [HNS.out, ← hC]; rfl
  have hND : N.size = D.size := by rw [HNS.out, ← hD]; rfl
  have HC0 : Hid (C[0]? = some (.int .u64 (r.seq : Nat))) := by unfold Hid; rw [← hC]; rfl
  have HD0 : Hid (D[0]? = some (.int .u64 (s.seq : Nat))) := by unfold Hid; rw [← hD]; rfl
  clear hx hb hr hs hE HE0 hC hD hB hB'
  rcases hcase with ⟨rfl, rfl, q1, q2⟩ | ⟨rfl, rfl, q1, q1', q2⟩ | ⟨rfl, rfl, q1, q1', q2, q3⟩ | ⟨rfl, rfl, q1, q1', q2, q3⟩ | ⟨rfl, rfl, q1, q1', q2⟩
  all_goals
    go_enter Try.func16, Try.ntmps16
    go_wp2_with (fail)
    refine HG.out.mono ?_
    rintro e1 w1 ⟨rfl, f1, b1⟩
    have HF1 := Lib.hid f1
    obtain ⟨X, hX⟩ : ∃ X, (w1.alloc (.cells N 24)).setRow w1.heap.size C = X := ⟨_, rfl⟩
    obtain ⟨hxa, hxb⟩ := bxt_stored hX
    have hbx := b1.trans (hxb.mono b1.size)
    have HXA := Lib.hid hxa
    have HBX := Lib.hid (HB.out.trans (hbx.mono HB.out.size))
    have HRX : Hid (Rw X w.heap.size 24 N) := HR.out.below hbx HVZ.out
    have HGX := Lib.hid (rrtget_any 1 _ b B' X (HV.out.below_ hbx HBB.out.2) (Nat.le_trans HBB.out.2 hbx.size))
    rw [HS.out] at HGX
    have HXZ : Hid (w.heap.size < X.heap.size) := HRX.out.lt
    rw [HC.out]
    clear hxa hxb hbx b1 f1 HG hV
    go_wp2_with (first
      | (refine wpList_store_row rfl _ _ _ rfl w1.heap.size C rfl rfl 24 N (Rw.new w1 _ _) vsC hNC voC ?_; rw [hX]))
    refine HGX.out.mono ?_
    rintro e2 w2 ⟨rfl, f2, b2⟩
    have HF2 := Lib.hid f2
    obtain ⟨Y, hY⟩ : ∃ X, (w2.alloc (.cells N 24)).setRow w2.heap.size D = X := ⟨_, rfl⟩
    obtain ⟨hya, hyb⟩ := bxt_stored hY
    have hby := b2.trans (hyb.mono b2.size)
    have HYA := Lib.hid hya
    have HXY := Lib.hid (HXA.out.below_ hby (Nat.le_refl _))
    have HBY := Lib.hid (HBX.out.trans (hby.mono HBX.out.size))
    have HRY : Hid (Rw Y w.heap.size 24 N) := HRX.out.below hby HXZ.out
    have d0 := (HXY.out.2.cell 0).trans HC0.out
    have d1 := (HYA.out.2.cell 0).trans HD0.out
    rw [HD.out]
    clear hya hyb hby b2 f2 HGX hX HXA HBX HRX
    go_wp2_with (first
      | (refine wpList_build_atT rfl 24 _ rfl N hb0 ?_)
      | (refine wpList_store_row rfl _ _ _ rfl w2.heap.size D rfl rfl 24 N (Rw.new w2 _ _) vsD hND voD ?_; rw [hY])
      | (refine wpList_load_row rfl _ _ rfl w1.heap.size rfl 24 C (0, 0) _ HXY.out.2 Try.underlying24 rfl (by rw [vsC]) ?_)
      | (refine wpList_load_row rfl _ _ rfl w2.heap.size rfl 24 D (0, 0) _ HYA.out.2 Try.underlying24 rfl (by rw [vsD]) ?_)
      | (refine wpList_store_row rfl _ _ _ rfl w.heap.size N rfl rfl 24 _ HRY.out hsz0 rfl hone0 ?_)
      | (refine wpList_store_row rfl _ _ _ rfl w.heap.size C rfl rfl 24 _ HRY.out vsC hNC voC ?_)
      | (refine wpList_store_row rfl _ _ _ rfl w.heap.size D rfl rfl 24 _ HRY.out vsD hND voD ?_))
  · refine IsRtE.ret (y := Rt.zero) (p := 4) (u1 := 5) (g := w.heap.size) (e := 7) (x := 7) ?_ ?_ ?_ ?_ (by rw [HN0.out]; exact Rw.row HRY.out N) HE.out rfl Rt.fit_zero (below_setRow HBY.out (Nat.le_refl _) _)
    all_goals rfl
  · refine IsRtE.ret (p := 4) (u1 := 5) (g := w.heap.size) (e := 0) (x := 0) ?_ ?_ ?_ ?_ (by rw [HC.out]; exact Rw.row HRY.out C) HE.out rfl HF1.out (below_setRow HBY.out (Nat.le_refl _) _)
    all_goals rfl
  · refine IsRtE.ret (p := 4) (u1 := 5) (g := w.heap.size) (e := 0) (x := 0) ?_ ?_ ?_ ?_ (by rw [HC.out]; exact Rw.row HRY.out C) HE.out rfl HF1.out (below_setRow HBY.out (Nat.le_refl _) _)
    all_goals rfl
  · refine IsRtE.ret (p := 4) (u1 := 5) (g := w.heap.size) (e := 0) (x := 0) ?_ ?_ ?_ ?_ (by rw [HD.out]; exact Rw.row HRY.out D) HE.out rfl HF2.out (below_setRow HBY.out (Nat.le_refl _) _)
    all_goals rfl
  · refine IsRtE.ret (p := 4) (u1 := 5) (g := w.heap.size) (e := 0) (x := 0) ?_ ?_ ?_ ?_ (by rw [HD.out]; exact Rw.row HRY.out D) HE.out rfl HF2.out (below_setRow HBY.out (Nat.le_refl _) _)
    all_goals rfl
end Go.Proofs.Ytoefogmjekcbeaa
namespace Go.Proofs.Ytoefogmjekcbeaa
open Go.RowKit
set_option linter.unusedVariables false
theorem rt_equalIn (r s : Rt.Root) (w : World) : (Op.equalIn 10000 24 (.agg (rtC r)) (.agg (rtC s))).run Try.prog w = .ok (decide (r = s)) w := by
  have hS : Try.prog.underlying 24 = some (.struct (Try.prog.fieldsOf 24)) := by kernel_rfl
  obtain ⟨a, b, c, d, e, f, g⟩ := r
  obtain ⟨a', b', c', d', e', f', g'⟩ := s
  unfold rtC
  rw [show (10000 : Nat) = 9999 + 1 from rfl, run_equalIn_agg w 9999 _ _ _ hS (by kernel_rfl)]
  simp only [Program.fieldsOf, Try.underlying24]
  go_simp
  have ha : ((a : Int) = a') ↔ a = a' := by omega
  have hd : ((d : Int) = d') ↔ d = d' := by omega
  have he : ((e : Int) = e') ↔ e = e' := by omega
  simp only [ha, hd, he]
  by_cases h1 : a = a' <;> by_cases h2 : b = b' <;> by_cases h3 : c = c' <;> by_cases h4 : d = d' <;> by_cases h5 : e = e' <;> by_cases h6 : f = f' <;> by_cases h7 : g = g' <;> simp [h1, h2, h3, h4, h5, h6, h7]
end Go.Proofs.Ytoefogmjekcbeaa
namespace Go.Proofs.Ytoefogmjekcbeaa
open Go.RowKit
set_option linter.unusedVariables false
set_option maxHeartbeats 2000000 in
set_option maxRecDepth 100000 in
theorem prtplace_any (r : Rt.Root) (w : World) (hf : Rt.Fit r) : Calls Try.prog 9 #[.agg (rtC r)] w (fun e w' => e = .returned (.int .i64 ((r.seq % 2 : Nat) : Int)) ∧ Below w.heap.size w w') := by
  obtain ⟨W, hW⟩ : ∃ W, w.alloc (.cells (rtC r) 24) = W := ⟨_, rfl⟩
  obtain ⟨hx, hb⟩ := bxt_new hW
  have HB := Lib.hid hb
  have c0 : W.cell? ⟨w.heap.size, 0, none⟩ = some (.int .u64 (r.seq : Nat)) := hx.2.cell 0
  obtain ⟨m, hm⟩ : ∃ m, r.seq % 2 = m := ⟨_, rfl⟩
  have hsm : (r.seq : Int) % 2 = (m : Int) := by omega
  have hwm : IntKind.i64.wrap (m : Int) = (m : Int) := by rw [IntKind.wrap_i64]; omega
  obtain ⟨D, hD⟩ : ∃ D, rtC r = D := ⟨_, rfl⟩
  obtain ⟨s, hs⟩ : ∃ s, r.seq = s := ⟨_, rfl⟩
  rw [hs] at c0 hsm
  rw [hm]
  rw [hD] at hW ⊢
  clear hx hb hf hD hs hm
  go_enter Try.func9, Try.ntmps9
  go_wp2
  go_ret
  exact ⟨rfl, HB.out⟩
set_option maxHeartbeats 4000000 in
set_option maxRecDepth 100000 in
theorem prtmay_any (r : Rt.Root) (w : World) (hf : Rt.Fit r) : Calls Try.prog 17 #[.agg (rtC r)] w (IsBool (decide (Rt.May r)) w) := by
  obtain ⟨W, hW⟩ : ∃ W, w.alloc (.cells (rtC r) 24) = W := ⟨_, rfl⟩
  obtain ⟨hx, hb⟩ := bxt_new hW
  have HB := Lib.hid hb
  have c0 : W.cell? ⟨w.heap.size, 0, none⟩ = some (.int .u64 (r.seq : Nat)) := hx.2.cell 0
  have c1 : W.cell? ⟨w.heap.size, 1, none⟩ = some (.int .i64 r.page) := hx.2.cell 1
  have c2 : W.cell? ⟨w.heap.size, 2, none⟩ = some (.int .i64 r.pages) := hx.2.cell 2
  have c3 : W.cell? ⟨w.heap.size, 3, none⟩ = some (.int .u64 (r.lsn : Nat)) := hx.2.cell 3
  have c4 : W.cell? ⟨w.heap.size, 4, none⟩ = some (.int .u64 (r.next : Nat)) := hx.2.cell 4
  have c5 : W.cell? ⟨w.heap.size, 5, none⟩ = some (.int .i64 r.shard) := hx.2.cell 5
  have c6 : W.cell? ⟨w.heap.size, 6, none⟩ = some (.int .i64 r.tail) := hx.2.cell 6
  obtain ⟨D, hD⟩ : ∃ D, rtC r = D := ⟨_, rfl⟩
  rw [hD] at hW ⊢
  clear hx hb hf hD
  obtain ⟨seq, page, pages, lsn, next, shard, tail⟩ := r
  simp only at c0 c1 c2 c3 c4 c5 c6
  by_cases a2_0 : (seq : Int) < 1
  · skip
    have HX : Hid (decide (Rt.May ⟨seq, page, pages, lsn, next, shard, tail⟩) = false) := decide_eq_false fun h => by
      obtain ⟨h1, h2, h3, h4, h5, h6, h7, h8, h9, h10, h11, h12⟩ := h
      simp only at h1 h2 h3 h4 h5 h6 h7 h8 h9 h10 h11 h12
      omega
    rw [HX.out]
    go_enter Try.func17, Try.ntmps17
    go_wp2
    go_ret
    exact ⟨rfl, HB.out⟩
  by_cases a2_1 : (4611686018427387904 : Int) < (seq : Int)
  · skip
    have HX : Hid (decide (Rt.May ⟨seq, page, pages, lsn, next, shard, tail⟩) = false) := decide_eq_false fun h => by
      obtain ⟨h1, h2, h3, h4, h5, h6, h7, h8, h9, h10, h11, h12⟩ := h
      simp only at h1 h2 h3 h4 h5 h6 h7 h8 h9 h10 h11 h12
      omega
    rw [HX.out]
    go_enter Try.func17, Try.ntmps17
    go_wp2
    go_ret
    exact ⟨rfl, HB.out⟩
  by_cases a2_2 : pages < 2
  · skip
    have HX : Hid (decide (Rt.May ⟨seq, page, pages, lsn, next, shard, tail⟩) = false) := decide_eq_false fun h => by
      obtain ⟨h1, h2, h3, h4, h5, h6, h7, h8, h9, h10, h11, h12⟩ := h
      simp only at h1 h2 h3 h4 h5 h6 h7 h8 h9 h10 h11 h12
      omega
    rw [HX.out]
    go_enter Try.func17, Try.ntmps17
    go_wp2
    go_ret
    exact ⟨rfl, HB.out⟩
  by_cases a2_3 : 65536 < pages
  · skip
    have HX : Hid (decide (Rt.May ⟨seq, page, pages, lsn, next, shard, tail⟩) = false) := decide_eq_false fun h => by
      obtain ⟨h1, h2, h3, h4, h5, h6, h7, h8, h9, h10, h11, h12⟩ := h
      simp only at h1 h2 h3 h4 h5 h6 h7 h8 h9 h10 h11 h12
      omega
    rw [HX.out]
    go_enter Try.func17, Try.ntmps17
    go_wp2
    go_ret
    exact ⟨rfl, HB.out⟩
  by_cases p0 : page = 0
  · have q0 : (page != 0) = false := by rw [bne_eq_false_iff_eq]; exact p0
    by_cases a4_0 : (4611686018427387904 : Int) < (lsn : Int)
    · skip
      have HX : Hid (decide (Rt.May ⟨seq, page, pages, lsn, next, shard, tail⟩) = false) := decide_eq_false fun h => by
        obtain ⟨h1, h2, h3, h4, h5, h6, h7, h8, h9, h10, h11, h12⟩ := h
        simp only at h1 h2 h3 h4 h5 h6 h7 h8 h9 h10 h11 h12
        omega
      rw [HX.out]
      go_enter Try.func17, Try.ntmps17
      go_wp2
      go_ret
      exact ⟨rfl, HB.out⟩
    by_cases a4_1 : (next : Int) < 1
    · skip
      have HX : Hid (decide (Rt.May ⟨seq, page, pages, lsn, next, shard, tail⟩) = false) := decide_eq_false fun h => by
        obtain ⟨h1, h2, h3, h4, h5, h6, h7, h8, h9, h10, h11, h12⟩ := h
        simp only at h1 h2 h3 h4 h5 h6 h7 h8 h9 h10 h11 h12
        omega
      rw [HX.out]
      go_enter Try.func17, Try.ntmps17
      go_wp2
      go_ret
      exact ⟨rfl, HB.out⟩
    by_cases a4_2 : (4294967296 : Int) < (next : Int)
    · skip
      have HX : Hid (decide (Rt.May ⟨seq, page, pages, lsn, next, shard, tail⟩) = false) := decide_eq_false fun h => by
        obtain ⟨h1, h2, h3, h4, h5, h6, h7, h8, h9, h10, h11, h12⟩ := h
        simp only at h1 h2 h3 h4 h5 h6 h7 h8 h9 h10 h11 h12
        omega
      rw [HX.out]
      go_enter Try.func17, Try.ntmps17
      go_wp2
      go_ret
      exact ⟨rfl, HB.out⟩
    by_cases a4_3 : shard < 0
    · skip
      have HX : Hid (decide (Rt.May ⟨seq, page, pages, lsn, next, shard, tail⟩) = false) := decide_eq_false fun h => by
        obtain ⟨h1, h2, h3, h4, h5, h6, h7, h8, h9, h10, h11, h12⟩ := h
        simp only at h1 h2 h3 h4 h5 h6 h7 h8 h9 h10 h11 h12
        omega
      rw [HX.out]
      go_enter Try.func17, Try.ntmps17
      go_wp2
      go_ret
      exact ⟨rfl, HB.out⟩
    by_cases a4_4 : 2147483647 < shard
    · skip
      have HX : Hid (decide (Rt.May ⟨seq, page, pages, lsn, next, shard, tail⟩) = false) := decide_eq_false fun h => by
        obtain ⟨h1, h2, h3, h4, h5, h6, h7, h8, h9, h10, h11, h12⟩ := h
        simp only at h1 h2 h3 h4 h5 h6 h7 h8 h9 h10 h11 h12
        omega
      rw [HX.out]
      go_enter Try.func17, Try.ntmps17
      go_wp2
      go_ret
      exact ⟨rfl, HB.out⟩
    by_cases a4_5 : tail < 0
    · skip
      have HX : Hid (decide (Rt.May ⟨seq, page, pages, lsn, next, shard, tail⟩) = false) := decide_eq_false fun h => by
        obtain ⟨h1, h2, h3, h4, h5, h6, h7, h8, h9, h10, h11, h12⟩ := h
        simp only at h1 h2 h3 h4 h5 h6 h7 h8 h9 h10 h11 h12
        omega
      rw [HX.out]
      go_enter Try.func17, Try.ntmps17
      go_wp2
      go_ret
      exact ⟨rfl, HB.out⟩
    by_cases a4_6 : 1048576 < tail
    · skip
      have HX : Hid (decide (Rt.May ⟨seq, page, pages, lsn, next, shard, tail⟩) = false) := decide_eq_false fun h => by
        obtain ⟨h1, h2, h3, h4, h5, h6, h7, h8, h9, h10, h11, h12⟩ := h
        simp only at h1 h2 h3 h4 h5 h6 h7 h8 h9 h10 h11 h12
        omega
      rw [HX.out]
      go_enter Try.func17, Try.ntmps17
      go_wp2
      go_ret
      exact ⟨rfl, HB.out⟩
    have HX : Hid (decide (Rt.May ⟨seq, page, pages, lsn, next, shard, tail⟩) = true) := decide_eq_true (by unfold Rt.May; simp only; omega)
    rw [HX.out]
    go_enter Try.func17, Try.ntmps17
    go_wp2
    go_ret
    exact ⟨rfl, HB.out⟩
  · have q0 : (page != 0) = true := by rw [bne_iff_ne]; exact p0
    by_cases a4_0 : page < 2
    · skip
      have HX : Hid (decide (Rt.May ⟨seq, page, pages, lsn, next, shard, tail⟩) = false) := decide_eq_false fun h => by
        obtain ⟨h1, h2, h3, h4, h5, h6, h7, h8, h9, h10, h11, h12⟩ := h
        simp only at h1 h2 h3 h4 h5 h6 h7 h8 h9 h10 h11 h12
        omega
      rw [HX.out]
      go_enter Try.func17, Try.ntmps17
      go_wp2
      go_ret
      exact ⟨rfl, HB.out⟩
    by_cases a4_1 : pages ≤ page
    · skip
      have HX : Hid (decide (Rt.May ⟨seq, page, pages, lsn, next, shard, tail⟩) = false) := decide_eq_false fun h => by
        obtain ⟨h1, h2, h3, h4, h5, h6, h7, h8, h9, h10, h11, h12⟩ := h
        simp only at h1 h2 h3 h4 h5 h6 h7 h8 h9 h10 h11 h12
        omega
      rw [HX.out]
      go_enter Try.func17, Try.ntmps17
      go_wp2
      go_ret
      exact ⟨rfl, HB.out⟩
    by_cases a4_0 : (4611686018427387904 : Int) < (lsn : Int)
    · skip
      have HX : Hid (decide (Rt.May ⟨seq, page, pages, lsn, next, shard, tail⟩) = false) := decide_eq_false fun h => by
        obtain ⟨h1, h2, h3, h4, h5, h6, h7, h8, h9, h10, h11, h12⟩ := h
        simp only at h1 h2 h3 h4 h5 h6 h7 h8 h9 h10 h11 h12
        omega
      rw [HX.out]
      go_enter Try.func17, Try.ntmps17
      go_wp2
      go_ret
      exact ⟨rfl, HB.out⟩
    by_cases a4_1 : (next : Int) < 1
    · skip
      have HX : Hid (decide (Rt.May ⟨seq, page, pages, lsn, next, shard, tail⟩) = false) := decide_eq_false fun h => by
        obtain ⟨h1, h2, h3, h4, h5, h6, h7, h8, h9, h10, h11, h12⟩ := h
        simp only at h1 h2 h3 h4 h5 h6 h7 h8 h9 h10 h11 h12
        omega
      rw [HX.out]
      go_enter Try.func17, Try.ntmps17
      go_wp2
      go_ret
      exact ⟨rfl, HB.out⟩
    by_cases a4_2 : (4294967296 : Int) < (next : Int)
    · skip
      have HX : Hid (decide (Rt.May ⟨seq, page, pages, lsn, next, shard, tail⟩) = false) := decide_eq_false fun h => by
        obtain ⟨h1, h2, h3, h4, h5, h6, h7, h8, h9, h10, h11, h12⟩ := h
        simp only at h1 h2 h3 h4 h5 h6 h7 h8 h9 h10 h11 h12
        omega
      rw [HX.out]
      go_enter Try.func17, Try.ntmps17
      go_wp2
      go_ret
      exact ⟨rfl, HB.out⟩
    by_cases a4_3 : shard < 0
    · skip
      have HX : Hid (decide (Rt.May ⟨seq, page, pages, lsn, next, shard, tail⟩) = false) := decide_eq_false fun h => by
        obtain ⟨h1, h2, h3, h4, h5, h6, h7, h8, h9, h10, h11, h12⟩ := h
        simp only at h1 h2 h3 h4 h5 h6 h7 h8 h9 h10 h11 h12
        omega
      rw [HX.out]
      go_enter Try.func17, Try.ntmps17
      go_wp2
      go_ret
      exact ⟨rfl, HB.out⟩
    by_cases a4_4 : 2147483647 < shard
    · skip
      have HX : Hid (decide (Rt.May ⟨seq, page, pages, lsn, next, shard, tail⟩) = false) := decide_eq_false fun h => by
        obtain ⟨h1, h2, h3, h4, h5, h6, h7, h8, h9, h10, h11, h12⟩ := h
        simp only at h1 h2 h3 h4 h5 h6 h7 h8 h9 h10 h11 h12
        omega
      rw [HX.out]
      go_enter Try.func17, Try.ntmps17
      go_wp2
      go_ret
      exact ⟨rfl, HB.out⟩
    by_cases a4_5 : tail < 0
    · skip
      have HX : Hid (decide (Rt.May ⟨seq, page, pages, lsn, next, shard, tail⟩) = false) := decide_eq_false fun h => by
        obtain ⟨h1, h2, h3, h4, h5, h6, h7, h8, h9, h10, h11, h12⟩ := h
        simp only at h1 h2 h3 h4 h5 h6 h7 h8 h9 h10 h11 h12
        omega
      rw [HX.out]
      go_enter Try.func17, Try.ntmps17
      go_wp2
      go_ret
      exact ⟨rfl, HB.out⟩
    by_cases a4_6 : 1048576 < tail
    · skip
      have HX : Hid (decide (Rt.May ⟨seq, page, pages, lsn, next, shard, tail⟩) = false) := decide_eq_false fun h => by
        obtain ⟨h1, h2, h3, h4, h5, h6, h7, h8, h9, h10, h11, h12⟩ := h
        simp only at h1 h2 h3 h4 h5 h6 h7 h8 h9 h10 h11 h12
        omega
      rw [HX.out]
      go_enter Try.func17, Try.ntmps17
      go_wp2
      go_ret
      exact ⟨rfl, HB.out⟩
    have HX : Hid (decide (Rt.May ⟨seq, page, pages, lsn, next, shard, tail⟩) = true) := decide_eq_true (by unfold Rt.May; simp only; omega)
    rw [HX.out]
    go_enter Try.func17, Try.ntmps17
    go_wp2
    go_ret
    exact ⟨rfl, HB.out⟩
end Go.Proofs.Ytoefogmjekcbeaa
