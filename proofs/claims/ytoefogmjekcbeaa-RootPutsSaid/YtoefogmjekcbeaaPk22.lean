/-
  RtpC: root.read: its closure, which takes a number off the body; the root that is read.
  RtpD: root.Put, root.Get.
  RtpE: root.Get.
-/
import Derived.Test.YtoefogmjekcbeaaPk21
import Derived.Test.YtoefogmjekcbeaaPk19
import Derived.Test.YtoefogmjekcbeaaPk09
import Derived.Test.YtoefogmjekcbeaaPk04
import Derived.Test.YtoefogmjekcbeaaPk10
import Derived.Test.YtoefogmjekcbeaaPk20
import Derived.Test.YtoefogmjekcbeaaPk16
import Derived.Test.YtoefogmjekcbeaaPk08
import Derived.Test.YtoefogmjekcbeaaPk03
import Derived.Deep.RegionHeld3
namespace Go.Proofs.Ytoefogmjekcbeaa
open Go.RowKit
set_option linter.unusedVariables false
theorem Rt.sg_i64 (n : Nat) : I64 (Rt.sg n) := by unfold Rt.sg I64; rw [IntKind.wrap_i64]; omega
theorem Rt.qn_u64 {c : List Nat} (hc : ∀ x ∈ c, x < 256) (a : Nat) : Rt.qn c a < 18446744073709551616 := by
  have := Rt.qn_b64 hc a
  unfold Mt.B64 at this
  omega
theorem Rt.fit_of {a d e : Nat} {b c f g : Int} (ha : a < 18446744073709551616) (hb : I64 b) (hc : I64 c) (hd : d < 18446744073709551616) (he : e < 18446744073709551616) (hf : I64 f) (hg : I64 g) : Rt.Fit ⟨a, b, c, d, e, f, g⟩ := ⟨ha, hb, hc, hd, he, hf, hg⟩
theorem Rt.fit_q {c : List Nat} (hc : ∀ x ∈ c, x < 256) : Rt.Fit (Rt.rootQ c) := by
  obtain ⟨p1, h1⟩ : ∃ p, Rt.qa c 0 = p := ⟨_, rfl⟩
  obtain ⟨p2, h2⟩ : ∃ p, Rt.qa c p1 = p := ⟨_, rfl⟩
  obtain ⟨p3, h3⟩ : ∃ p, Rt.qa c p2 = p := ⟨_, rfl⟩
  obtain ⟨p4, h4⟩ : ∃ p, Rt.qa c p3 = p := ⟨_, rfl⟩
  obtain ⟨p5, h5⟩ : ∃ p, Rt.qa c p4 = p := ⟨_, rfl⟩
  obtain ⟨p6, h6⟩ : ∃ p, Rt.qa c p5 = p := ⟨_, rfl⟩
  rw [Rt.rootQ_at h1 h2 h3 h4 h5 h6]
  exact Rt.fit_of (Rt.qn_u64 hc _) (Rt.sg_i64 _) (Rt.sg_i64 _) (Rt.qn_u64 hc _) (Rt.qn_u64 hc _) (Rt.sg_i64 _) (Rt.sg_i64 _)
theorem turned_b {w w' : World} {B g : Nat} (hb : Below B w w') (hB : w.heap.size ≤ B) : Turned (fun k => k = g) w w' :=
  Turned.mono (Turned.of_below hb) (fun k hk h => by omega)
set_option maxHeartbeats 1000000 in
set_option maxRecDepth 100000 in
theorem ptake_any (g1 g2 : Nat) (v : Value) (b : List Nat) (B a : Nat) (w : World) (hv : Lv yK w B v b) (c1 : Rw w g1 25 #[v]) (c2 : Rw w g2 3 #[.int .i64 (a : Nat)]) :
    Calls Try.prog 37 #[.pointer (some ⟨g1, 0, none⟩), .pointer (some ⟨g2, 0, none⟩)] w (fun e w' => e = .returned (.int .u64 (Rt.qn b a : Nat)) ∧ Rw w' g2 3 #[.int .i64 (Rt.qa b a : Nat)] ∧ Turned (fun k => k = g2) w w') := by
  have k1 : w.cell? ⟨g1, 0, none⟩ = some v := c1.cell 0
  have k2 : w.cell? ⟨g2, 0, none⟩ = some (.int .i64 (a : Nat)) := c2.cell 0
  have HC := Lib.hid (get_any v b B (a : Nat) w hv.bv_)
  have H2 := Lib.hid c2
  have hb8 := hv.ok_
  obtain ⟨A, c, rfl, -, -, -, -, -⟩ := hv
  rcases Mt.get_cases hb8 (a : Nat) with ⟨e, he, he5, hg⟩ | ⟨k, n, r, -, -, -, -, -, hg⟩
  · have hqn : Rt.qn b a = 0 := by unfold Rt.qn; rw [hg, if_pos (by show e ≠ 0; omega)]
    have hqa : Rt.qa b a = a := by unfold Rt.qa; rw [hg, if_pos (by show e ≠ 0; omega)]
    rw [hg] at HC
    rw [hqn, hqa]
    have q1 : ((e : Int) != 0) = true := by rw [bne_iff_ne]; omega
    clear hb8 hg hqn hqa he he5 c1 c2
    go_enter Try.func37, Try.ntmps37
    go_wp2_with fail
    refine HC.out.mono ?_
    rintro e' w1 ⟨rfl, b1⟩
    have HB := Lib.hid b1
    clear HC k1 k2 b1
    go_wp2
    go_ret
    exact ⟨rfl, H2.out.below HB.out H2.out.lt, turned_b HB.out (Nat.le_refl _)⟩
  · obtain ⟨y, hy⟩ : ∃ y, k + (Mt.put n).length = y := ⟨_, rfl⟩
    rw [hy] at hg
    have hqn : Rt.qn b a = n := by unfold Rt.qn; rw [hg, if_neg (by simp)]
    have hqa : Rt.qa b a = y := by unfold Rt.qa; rw [hg, if_neg (by simp)]
    rw [hg] at HC
    rw [hqn, hqa]
    clear hb8 hg hqn hqa c1 c2 hy
    go_enter Try.func37, Try.ntmps37
    go_wp2_with fail
    refine HC.out.mono ?_
    rintro e' w1 ⟨rfl, b1⟩
    have HB := Lib.hid b1
    have hr1 : Rw w1 g2 3 #[.int .i64 (a : Nat)] := H2.out.below b1 H2.out.lt
    have HR1 := Lib.hid hr1
    have k2 : w1.cell? ⟨g2, 0, none⟩ = some (.int .i64 (a : Nat)) := hr1.cell 0
    have kf : w1.frozen? ⟨g2, 0, none⟩ = false := frozen_of_row w1 g2 0 _ _ hr1
    clear HC k1 b1 hr1
    go_wp2
    go_ret
    refine ⟨rfl, ?_, (turned_b HB.out (Nat.le_refl _)).setCell (p := ⟨g2, 0, none⟩) (fun _ => rfl) _⟩
    unfold Rw
    rw [heap_setCell_same w1 g2 0 _ _ _ HR1.out]
    rfl
/-- The reading's boxes: the body, the root that is to be told, the place. -/
structure RtSt (z : Nat) (N : Array Value) (v : Value) (b : List Nat) (B : Nat) (w0 w : World) (p : Nat) : Prop where
  v_ : Rw w z 25 #[v]
  r_ : Rw w (z + 1) 24 N
  p_ : Rw w (z + 2) 3 #[.int .i64 (p : Nat)]
  l_ : Lv yK w B v b
  b_ : Below z w0 w
theorem RtSt.take {z B p : Nat} {N : Array Value} {v : Value} {b : List Nat} {w0 w : World} (h : RtSt z N v b B w0 w p) (hB : B ≤ z) (hz : w0.heap.size = z) :
    Calls Try.prog 37 #[.pointer (some ⟨z, 0, none⟩), .pointer (some ⟨z + 2, 0, none⟩)] w (fun e w' => e = .returned (.int .u64 (Rt.qn b p : Nat)) ∧ RtSt z N v b B w0 w' (Rt.qa b p)) := by
  refine (ptake_any z (z + 2) v b B p w h.l_ h.v_ h.p_).mono ?_
  rintro e w' ⟨he, hr, ht⟩
  refine ⟨he, (ht.block _ h.v_.lt (by omega)).trans h.v_, (ht.block _ h.r_.lt (by omega)).trans h.r_, hr, h.l_.turned_ ht (by intro k hk; omega), h.b_.trans (ht.below (by have := h.b_.size; omega) (by intro k hk; omega))⟩
set_option maxHeartbeats 800000 in
set_option maxRecDepth 100000 in
theorem prtread_any (v : Value) (b : List Nat) (B : Nat) (w : World) (hv : Lv yK w B v b) (hB : B ≤ w.heap.size) :
    Calls Try.prog 24 #[v] w (fun e w' => e = .returned (.agg (rtC (Rt.rootQ b))) ∧ Below w.heap.size w w') := by
  have hmf : ∀ (fn : Fn) (first cap : Array Value) (w : World), (Instr.makeFunc fn first cap).run Try.prog w = .ok (.func fn first cap) w := fun _ _ _ _ => rfl
  have hz7 := (zero_of_info (n := 7) rt_zero).1
  have HNS : Hid (none7.size = 7) := rfl
  obtain ⟨N, hN⟩ : ∃ N, none7 = N := ⟨_, rfl⟩
  rw [hN] at hz7 HNS
  clear hN
  obtain ⟨z, hz⟩ : ∃ z, w.heap.size = z := ⟨_, rfl⟩
  obtain ⟨V, hV⟩ : ∃ V, ((w.alloc (.cells #[v] 25)).alloc (.cells N 24)).alloc (.cells #[.int .i64 0] 3) = V := ⟨_, rfl⟩
  have hx2 : Rw V (z + 2) 3 #[.int .i64 0] := by rw [← hV]; exact Rw.at_ (by simp [hz]) _ _
  have hx1 : Rw V (z + 1) 24 N := by rw [← hV]; exact (Rw.at_ (by simp [hz]) _ _).old _
  have hx0 : Rw V z 25 #[v] := by rw [← hV]; exact ((Rw.at_ hz.symm _ _).old _).old _
  have hbv : Below z w V := by rw [← hV, ← hz]; exact (((Below.refl _ _).alloc (Nat.le_refl _) _).alloc (by simp) _).alloc (by simp; omega) _
  have k2 : V.cell? ⟨z + 2, 0, none⟩ = some (.int .i64 0) := hx2.cell 0
  have kf : V.frozen? ⟨z + 2, 0, none⟩ = false := frozen_of_row V (z + 2) 0 _ _ hx2
  obtain ⟨W, hW⟩ : ∃ W, V.setCell ⟨z + 2, 0, none⟩ (.int .i64 0) = W := ⟨_, rfl⟩
  have hs0 : RtSt z N v b B w W 0 := by
    subst hW
    have hb' : Below z w (V.setCell ⟨z + 2, 0, none⟩ (.int .i64 0)) := hbv.setCell (p := ⟨z + 2, 0, none⟩) (by show z ≤ z + 2; omega) _
    exact ⟨hx0.setOther (by omega) _ _, hx1.setOther (by omega) _ _, hx2.set 0 _, hv.below_ hb' (by omega), hb'⟩
  have hB' : B ≤ z := by omega
  have HT : Hid (∀ p w', RtSt z N v b B w w' p → Calls Try.prog 37 #[.pointer (some ⟨z, 0, none⟩), .pointer (some ⟨z + 2, 0, none⟩)] w' (fun e w'' => e = .returned (.int .u64 (Rt.qn b p : Nat)) ∧ RtSt z N v b B w w'' (Rt.qa b p))) := fun p w' h => h.take hB' hz
  obtain ⟨p1, h1⟩ : ∃ p, Rt.qa b 0 = p := ⟨_, rfl⟩
  obtain ⟨p2, h2⟩ : ∃ p, Rt.qa b p1 = p := ⟨_, rfl⟩
  obtain ⟨p3, h3⟩ : ∃ p, Rt.qa b p2 = p := ⟨_, rfl⟩
  obtain ⟨p4, h4⟩ : ∃ p, Rt.qa b p3 = p := ⟨_, rfl⟩
  obtain ⟨p5, h5⟩ : ∃ p, Rt.qa b p4 = p := ⟨_, rfl⟩
  obtain ⟨p6, h6⟩ : ∃ p, Rt.qa b p5 = p := ⟨_, rfl⟩
  have HQ := Lib.hid (Rt.rootQ_at h1 h2 h3 h4 h5 h6)
  have T0 := Lib.hid (HT.out 0 W hs0)
  have T1 := Lib.hid (HT.out p1)
  have T2 := Lib.hid (HT.out p2)
  have T3 := Lib.hid (HT.out p3)
  have T4 := Lib.hid (HT.out p4)
  have T5 := Lib.hid (HT.out p5)
  have T6 := Lib.hid (HT.out p6)
  rw [h1] at T0
  rw [h2] at T1
  rw [h3] at T2
  rw [h4] at T3
  rw [h5] at T4
  rw [h6] at T5
  rw [HQ.out]
  obtain ⟨n0, hn0⟩ : ∃ n, Rt.qn b 0 = n := ⟨_, rfl⟩
  obtain ⟨n1, hn1⟩ : ∃ n, Rt.qn b p1 = n := ⟨_, rfl⟩
  obtain ⟨n2, hn2⟩ : ∃ n, Rt.qn b p2 = n := ⟨_, rfl⟩
  obtain ⟨n3, hn3⟩ : ∃ n, Rt.qn b p3 = n := ⟨_, rfl⟩
  obtain ⟨n4, hn4⟩ : ∃ n, Rt.qn b p4 = n := ⟨_, rfl⟩
  obtain ⟨n5, hn5⟩ : ∃ n, Rt.qn b p5 = n := ⟨_, rfl⟩
  obtain ⟨n6, hn6⟩ : ∃ n, Rt.qn b p6 = n := ⟨_, rfl⟩
  rw [hn0] at T0 ⊢
  rw [hn1] at T1 ⊢
  rw [hn2] at T2 ⊢
  rw [hn3] at T3 ⊢
  rw [hn4] at T4 ⊢
  rw [hn5] at T5 ⊢
  rw [hn6] at T6 ⊢
  unfold Rt.sg
  obtain ⟨y1, hy1⟩ : ∃ y, IntKind.i64.wrap (n1 : Int) = y := ⟨_, rfl⟩
  obtain ⟨y2, hy2⟩ : ∃ y, IntKind.i64.wrap (n2 : Int) = y := ⟨_, rfl⟩
  obtain ⟨y5, hy5⟩ : ∃ y, IntKind.i64.wrap (n5 : Int) = y := ⟨_, rfl⟩
  obtain ⟨y6, hy6⟩ : ∃ y, IntKind.i64.wrap (n6 : Int) = y := ⟨_, rfl⟩
  rw [hy1, hy2, hy5, hy6]
  have hbt := rt_built ⟨n0, y1, y2, n3, n4, y5, y6⟩
  simp only at hbt
  obtain ⟨D, hD⟩ : ∃ D, rtC ⟨n0, y1, y2, n3, n4, y5, y6⟩ = D := ⟨_, rfl⟩
  have hszD : (Try.prog.info? 24).map (·.size) = some D.size := by rw [← hD]; exact rt_size
  have honeD : D.all (·.oneCell') = true := by rw [← hD]; exact rtC_one _
  have hND : N.size = D.size := by rw [HNS.out, ← hD]; rfl
  rw [hD] at hbt ⊢
  obtain ⟨A, c, rfl, -, -, -, -, -⟩ := id hv
  clear HT HQ h1 h2 h3 h4 h5 h6 hn0 hn1 hn2 hn3 hn4 hn5 hn6 hD hx0 hx1 hx2 hbv hs0 hv hB hB'
  subst hz
  go_enter Try.func24, Try.ntmps24
  go_wp2_with fail
  refine T0.out.mono ?_
  rintro e w1 ⟨rfl, s1⟩
  have R1 := Lib.hid (T1.out w1 s1)
  clear s1 T0 T1 hV hW
  go_wp2_with fail
  refine R1.out.mono ?_
  rintro e w2 ⟨rfl, s2⟩
  have R2 := Lib.hid (T2.out w2 s2)
  clear s2 R1 T2
  go_wp2_with fail
  refine R2.out.mono ?_
  rintro e w3 ⟨rfl, s3⟩
  have R3 := Lib.hid (T3.out w3 s3)
  clear s3 R2 T3
  go_wp2_with fail
  refine R3.out.mono ?_
  rintro e w4 ⟨rfl, s4⟩
  have R4 := Lib.hid (T4.out w4 s4)
  clear s4 R3 T4
  go_wp2_with fail
  refine R4.out.mono ?_
  rintro e w5 ⟨rfl, s5⟩
  have R5 := Lib.hid (T5.out w5 s5)
  clear s5 R4 T5
  go_wp2_with fail
  refine R5.out.mono ?_
  rintro e w6 ⟨rfl, s6⟩
  have R6 := Lib.hid (T6.out w6 s6)
  clear s6 R5 T6
  go_wp2_with fail
  refine R6.out.mono ?_
  rintro e w7 ⟨rfl, s7⟩
  have HB7 : Hid (Below w.heap.size w w7) := s7.b_
  have HR7 : Hid (Rw w7 (w.heap.size + 1) 24 N) := s7.r_
  clear s7 R6 k2 kf
  go_wp2_with (first
    | ((show wpList _ _ _ [_, _] _ _); go_must (refine wpList_build_atT rfl 24 _ rfl D (by simp only [List.map_toArray]; exact hbt) ?_))
    | ((show wpList _ _ _ [_] _ _); go_must (refine wpList_store_row rfl _ _ _ rfl (w.heap.size + 1) D rfl rfl 24 N HR7.out hszD hND honeD ?_)))
  refine bodyPost_ret (v := .agg D) (results_cell_row rfl _ _ (w.heap.size + 1) 24 D (0, 0) _ rfl (Rw.row HR7.out D) Try.underlying24 rfl hszD) rfl ⟨rfl, below_setRow HB7.out (by omega) _⟩
end Go.Proofs.Ytoefogmjekcbeaa
namespace Go.Proofs.Ytoefogmjekcbeaa
open Go.RowKit
set_option linter.unusedVariables false
set_option maxHeartbeats 1000000 in
set_option maxRecDepth 100000 in
theorem prtput_any (r : Rt.Root) (w : World) (hf : Rt.Fit r) : Calls Try.prog 6 #[.agg (rtC r)] w (IsVE (Rt.putE r) w) := by
  obtain ⟨W, hW⟩ : ∃ W, w.alloc (.cells (rtC r) 24) = W := ⟨_, rfl⟩
  obtain ⟨hx, hb⟩ := bxt_new hW
  have HB := Lib.hid hb
  have HX1 := Lib.hid hx
  have HM := Lib.hid (prtmay_any r W hf)
  have hsz : (Try.prog.info? 24).map (·.size) = some (rtC r).size := rt_size
  by_cases hm : Rt.May r
  · have HDM : Hid (decide (Rt.May r) = true) := decide_eq_true hm
    rw [HDM.out] at HM
    have HE : Hid (Rt.putE r = Pg.putE ((r.seq % 2 : Nat) : Int) 1 (Rt.bys (Rt.nums r))) := by unfold Hid Rt.putE; rw [if_pos hm]
    have HPL : Hid (∀ w', Calls Try.prog 9 #[.agg (rtC r)] w' (fun e w'' => e = .returned (.int .i64 ((r.seq % 2 : Nat) : Int)) ∧ Below w'.heap.size w' w'')) := fun w' => prtplace_any r w' hf
    have HLY : Hid (∀ w', Calls Try.prog 19 #[.agg (rtC r)] w' (IsL1 yK (Rt.bys (Rt.nums r)) w')) := fun w' => prtlay_any r w' hm
    obtain ⟨m, hmm⟩ : ∃ m : Int, ((r.seq % 2 : Nat) : Int) = m := ⟨_, rfl⟩
    obtain ⟨l, hl⟩ : ∃ l, Rt.bys (Rt.nums r) = l := ⟨_, rfl⟩
    obtain ⟨D, hD⟩ : ∃ D, rtC r = D := ⟨_, rfl⟩
    rw [hmm, hl] at HE
    rw [hmm, hD] at HPL
    rw [hl, hD] at HLY
    rw [HE.out]
    rw [hD] at HM hW HX1 hsz ⊢
    obtain ⟨⟨P, q⟩, hP⟩ : ∃ x, Pg.putE m 1 l = x := ⟨_, rfl⟩
    have HPG : Hid (∀ v w', Lv yK w' w'.heap.size v l → Calls Try.prog 18 #[.int .i64 m, .int .u8 1, v] w' (IsVE (P, q) w')) := fun v w' h => by rw [← hP]; exact ppgput_any m 1 v l w'.heap.size w' (by omega) h (Nat.le_refl _)
    rw [hP]
    clear hx hb hf hD hm HDM hmm hl hP HE
    go_enter Try.func6, Try.ntmps6
    go_wp2_with (first
      | (refine wpList_load_row rfl _ _ rfl w.heap.size rfl 24 D (0, 0) _ HX1.out.2 Try.underlying24 rfl (by rw [hsz]) ?_))
    refine (HM.out).mono ?_
    rintro e w1 ⟨rfl, b1⟩
    have HB1 := Lib.hid (HB.out.trans (b1.mono HB.out.size))
    have HX2 : Hid (Rw w1 w.heap.size 24 D) := HX1.out.2.below b1 HX1.out.1
    clear HM b1 hW HX1 HB
    go_wp2
    refine wp_region_held_drew (S := fun x => Rw x w.heap.size 24 D ∧ Below w1.heap.size w1 x) (by kernel_rfl) ⟨HX2.out.drew, (Below.refl _ _).drew⟩ (fun hH => ?_)
    refine wpAnyH_take (i := 0) (v := .agg D) rfl (by kernel_rfl) (by kernel_rfl) (by kernel_rfl) (fun _ _ _ h => h) (Or.inl ⟨by rfl, fun w' hSw => exec_load_row _ _ rfl w.heap.size rfl 24 D (0, 0) _ w' hSw.1 Try.underlying24 rfl (by rw [hsz])⟩) hH ?_
    try simp only [Act.put, List.getElem_toArray, List.getElem_cons_zero, List.setIfInBounds_toArray, List.set_cons_zero, List.set_cons_succ]
    refine wpAnyH_take (i := 2) (v := .agg D) rfl (by kernel_rfl) (by kernel_rfl) (by kernel_rfl) (fun _ _ _ h => h) (Or.inl ⟨by rfl, fun w' hSw => exec_load_row _ _ rfl w.heap.size rfl 24 D (0, 0) _ w' hSw.1 Try.underlying24 rfl (by rw [hsz])⟩) hH ?_
    try simp only [Act.put, List.getElem_toArray, List.getElem_cons_succ, List.getElem_cons_zero, List.setIfInBounds_toArray, List.set_cons_zero, List.set_cons_succ]
    refine wpAnyH_ready (rs := [1]) (by kernel_rfl) (by simp) ?_
    refine AllReadyH.cons rfl (fun K hK => ?_) AllReadyH.nil
    go_simp
    refine (HPL.out _).mono ?_
    rintro e w2 ⟨rfl, b2⟩
    have HC2 : Hid (Below w1.heap.size w1 w2) := (Below.refl w1.heap.size w1).drew.trans b2
    have s2 : Rw w2 w.heap.size 24 D ∧ Below w1.heap.size w1 w2 := ⟨HX2.out.below HC2.out HX2.out.lt, HC2.out⟩
    clear b2 HPL
    refine hK.out _ _ s2 (fun hH => ?_)
    clear hK K s2
    try simp only [Act.put, List.getElem_toArray, List.getElem_cons_succ, List.getElem_cons_zero, List.setIfInBounds_toArray, List.set_cons_zero, List.set_cons_succ]
    refine wpAnyH_ready (rs := [3]) (by kernel_rfl) (by simp) ?_
    refine AllReadyH.cons rfl (fun K hK => ?_) AllReadyH.nil
    go_simp
    refine (HLY.out _).mono ?_
    rintro e w3 ⟨A3, c3, rfl, o3, b3⟩
    have HC3 : Hid (Below w1.heap.size w1 w3) := HC2.out.trans (b3.mono HC2.out.size)
    have s3 : Rw w3 w.heap.size 24 D ∧ Below w1.heap.size w1 w3 := ⟨HX2.out.below HC3.out HX2.out.lt, HC3.out⟩
    have HPG3 := Lib.hid (HPG.out _ w3 o3.form_)
    clear b3 o3 HLY HPG
    refine hK.out _ _ s3 (fun hH => ?_)
    clear hK K s3
    try simp only [Act.put, List.getElem_toArray, List.getElem_cons_succ, List.getElem_cons_zero, List.setIfInBounds_toArray, List.set_cons_zero, List.set_cons_succ]
    refine wpAnyH_ready (rs := [4]) (by kernel_rfl) (by simp) ?_
    refine AllReadyH.cons rfl (fun K hK => ?_) AllReadyH.nil
    go_simp
    refine HPG3.out.mono ?_
    rintro e w4 ⟨A4, c4, rfl, o4, b4⟩
    have HC4 : Hid (Below w1.heap.size w1 w4) := HC3.out.trans (b4.mono HC3.out.size)
    have s4 : Rw w4 w.heap.size 24 D ∧ Below w1.heap.size w1 w4 := ⟨HX2.out.below HC4.out HX2.out.lt, HC4.out⟩
    have HO4 : Hid (OwnV w4 w.heap.size (.slice A4 P.length c4) P) := o4.mono_ (Nat.le_trans HB1.out.size HC3.out.size)
    clear b4 o4 HPG3
    refine hK.out _ _ s4 (fun hH => ?_)
    clear hK K s4
    try simp only []
    refine wpAnyH_take (i := 5) (v := ?_) rfl (by kernel_rfl) (by kernel_rfl) (by kernel_rfl) (fun _ _ _ h => h) (Or.inl ⟨by rfl, (by intro w' hSw; go_simp; first | done | with_reducible rfl)⟩) hH ?_
    try simp only [Act.put, List.getElem_toArray, List.getElem_cons_succ, List.getElem_cons_zero, List.setIfInBounds_toArray, List.set_cons_zero, List.set_cons_succ]
    refine wpAnyH_take (i := 6) (v := ?_) rfl (by kernel_rfl) (by kernel_rfl) (by kernel_rfl) (fun _ _ _ h => h) (Or.inl ⟨by rfl, (by intro w' hSw; go_simp; first | done | with_reducible rfl)⟩) hH ?_
    try simp only [Act.put, List.getElem_toArray, List.getElem_cons_succ, List.getElem_cons_zero, List.setIfInBounds_toArray, List.set_cons_zero, List.set_cons_succ]
    refine wpAnyH_take (i := 7) (v := ?_) rfl (by kernel_rfl) (by kernel_rfl) (by kernel_rfl) (fun _ _ _ h => h) (Or.inl ⟨by rfl, (by intro w' hSw; go_simp; first | done | with_reducible rfl)⟩) hH ?_
    try simp only [Act.put, List.getElem_toArray, List.getElem_cons_succ, List.getElem_cons_zero, List.setIfInBounds_toArray, List.set_cons_zero, List.set_cons_succ]
    refine wpAnyH_take (i := 8) (v := ?_) rfl (by kernel_rfl) (by kernel_rfl) (by kernel_rfl) (fun _ _ _ h => h) (Or.inl ⟨by rfl, (by intro w' hSw; go_simp; first | done | with_reducible rfl)⟩) hH ?_
    try simp only [Act.put, List.getElem_toArray, List.getElem_cons_succ, List.getElem_cons_zero, List.setIfInBounds_toArray, List.set_cons_zero, List.set_cons_succ]
    refine wpAnyH_done (by kernel_rfl) ?_ _
    clear hH
    go_wp2
    go_ret2
    exact ⟨A4, c4, rfl, HO4.out, HB1.out.trans (HC4.out.mono HB1.out.size)⟩
  · have HDM : Hid (decide (Rt.May r) = false) := decide_eq_false hm
    rw [HDM.out] at HM
    have HE := Lib.hid (Rt.putE_no hm)
    obtain ⟨D, hD⟩ : ∃ D, rtC r = D := ⟨_, rfl⟩
    rw [hD] at HM hW HX1 hsz ⊢
    clear hx hb hf hD hm HDM
    go_enter Try.func6, Try.ntmps6
    go_wp2_with (first
      | (refine wpList_load_row rfl _ _ rfl w.heap.size rfl 24 D (0, 0) _ HX1.out.2 Try.underlying24 rfl (by rw [hsz]) ?_))
    refine (HM.out).mono ?_
    rintro e w1 ⟨rfl, b1⟩
    have HB1 := Lib.hid (HB.out.trans (b1.mono HB.out.size))
    clear HM b1 hW
    go_wp2
    go_ret2
    exact IsVE.none_b HE.out rfl HB1.out
end Go.Proofs.Ytoefogmjekcbeaa
namespace Go.Proofs.Ytoefogmjekcbeaa
open Go.RowKit
set_option linter.unusedVariables false
/-- Get's boxes: the root that is to be told, the root that was read; and the body. -/
structure RtGt (z g : Nat) (N D : Array Value) (v : Value) (b : List Nat) (w0 w : World) : Prop where
  r_ : Rw w z 24 N
  x_ : Rw w g 24 D
  l_ : Lv yK w w.heap.size v b
  b_ : Below z w0 w
theorem RtGt.below {z g : Nat} {N D : Array Value} {v : Value} {b : List Nat} {w0 w w' : World} (h : RtGt z g N D v b w0 w) (hb : Below w.heap.size w w') (hz : w0.heap.size = z) : RtGt z g N D v b w0 w' :=
  ⟨h.r_.below hb h.r_.lt, h.x_.below hb h.x_.lt, (h.l_.below_ hb (Nat.le_refl _)).mono_ hb.size, h.b_.trans (hb.mono (by have := h.b_.size; omega))⟩
theorem Rt.bys_pos {r : Rt.Root} : 0 < (Rt.bys (Rt.nums r)).length := by
  show 0 < (Mt.put _ ++ _).length
  rw [List.length_append]
  have := Mt.put_len_pos r.seq
  omega
theorem Rt.may_pos {c : List Nat} (h : Rt.May (Rt.rootQ c)) : 0 < c.length := by
  rcases c with _ | ⟨x, c⟩
  · exfalso
    obtain ⟨h1, -⟩ := h
    rw [Rt.rootQ_at rfl rfl rfl rfl rfl rfl] at h1
    have h2 : Rt.qn [] 0 = 0 := by
      unfold Rt.qn
      rcases Mt.get_cases (l := []) (by simp) ((0 : Nat) : Int) with ⟨e, he, -, hg⟩ | ⟨k, n, r, -, hk, -⟩
      · rw [hg, if_pos (by show e ≠ 0; omega)]
      · simp at hk
    simp only [h2] at h1
    omega
  · simp
set_option maxHeartbeats 2000000 in
set_option maxRecDepth 100000 in
theorem prtget_any (place : Int) (v : Value) (b : List Nat) (B : Nat) (w : World) (hv : Lv yK w B v b) (hB : B ≤ w.heap.size) :
    Calls Try.prog 11 #[.int .i64 place, v] w (IsRtE (Rt.getE place b) w) := by
  have hz7 := (zero_of_info (n := 7) rt_zero).1
  have hb0 := rt_built0
  have HN0 : Hid (rtC Rt.zero = none7) := rfl
  have hsz0 : (Try.prog.info? 24).map (·.size) = some none7.size := rt_size
  have hone0 : none7.all (·.oneCell') = true := rtC_one _
  have HNS : Hid (none7.size = 7) := rfl
  obtain ⟨N, hN⟩ : ∃ N, none7 = N := ⟨_, rfl⟩
  rw [hN] at hz7 hb0 HN0 hsz0 hone0 HNS
  clear hN
  obtain ⟨V, hV⟩ : ∃ V, w.alloc (.cells N 24) = V := ⟨_, rfl⟩
  obtain ⟨hx, hb⟩ := bxt_new hV
  have HR : Hid (Rw V w.heap.size 24 N) := hx.2
  have HB := Lib.hid hb
  have HVZ : Hid (w.heap.size < V.heap.size) := hx.1
  have HBB := Lib.hid hB
  have HV := Lib.hid hv
  obtain ⟨A, c, rfl, k1, k2, -, -, -⟩ := hv
  clear hx hb k1 k2 hB
  by_cases hpl : place ≠ 0 ∧ place ≠ 1
  · have HE := Lib.hid (Rt.getE_arg (b := b) hpl)
    have hways : place < 0 ∨ (¬ place < 0 ∧ 2 ≤ place) := by omega
    clear hpl
    rcases hways with q0 | ⟨q0, q1⟩
    all_goals
      go_enter Try.func11, Try.ntmps11
      go_wp2_with (first
        | (refine wpList_build_atT rfl 24 _ rfl N hb0 ?_)
        | (refine wpList_store_row rfl _ _ _ rfl w.heap.size N rfl rfl 24 _ HR.out hsz0 rfl hone0 ?_))
      refine IsRtE.ret (y := Rt.zero) (p := 4) (u1 := 5) (g := w.heap.size) (e := 2) (x := 2) ?_ ?_ ?_ ?_ (by rw [HN0.out]; exact Rw.row HR.out N) HE.out rfl Rt.fit_zero (below_setRow HB.out (Nat.le_refl _) _)
      all_goals rfl
  · have HPL : Hid (¬ (place ≠ 0 ∧ place ≠ 1)) := hpl
    have hp0 : ¬ place < 0 := by omega
    have hp1 : ¬ 2 ≤ place := by omega
    obtain ⟨⟨k, c', e⟩, hg⟩ : ∃ r, Pg.getE place b = r := ⟨_, rfl⟩
    have HG := Lib.hid (ppgget_any place _ b B V (HV.out.below_ HB.out HBB.out) (Nat.le_trans HBB.out HB.out.size))
    rw [hg] at HG
    have HGE := Lib.hid hg
    clear hg hpl
    by_cases he : e = 0
    · subst he
      go_enter Try.func11, Try.ntmps11
      go_wp2_with (fail)
      refine HG.out.mono ?_
      rintro e w1 ⟨A1, c1, rfl, o1, b1⟩
      have hlv1 := o1.form_
      have hc8 : ∀ x ∈ c', x < 256 := fun x hx => hlv1.ok_ x hx
      have HGQ := Lib.hid (Rt.getE_q HPL.out HGE.out hc8)
      have HFT := Lib.hid (Rt.fit_q hc8)
      have HMP : Hid (Rt.May (Rt.rootQ c') → 0 < c'.length) := Rt.may_pos
      have HC1 := Lib.hid hlv1
      have HB1 := Lib.hid (HB.out.trans (b1.mono HB.out.size))
      have HR1 : Hid (Rw w1 w.heap.size 24 N) := HR.out.below b1 HVZ.out
      have HRD := Lib.hid (prtread_any _ c' w1.heap.size w1 hlv1 (Nat.le_refl _))
      obtain ⟨r, hr⟩ : ∃ r, Rt.rootQ c' = r := ⟨_, rfl⟩
      rw [hr] at HGQ HFT HMP HRD
      obtain ⟨D, hD⟩ : ∃ D, rtC r = D := ⟨_, rfl⟩
      have HDD := Lib.hid hD
      rw [hD] at HRD
      have hszD : (Try.prog.info? 24).map (·.size) = some D.size := by rw [← hD]; exact rt_size
      have honeD : D.all (·.oneCell') = true := by rw [← hD]; exact rtC_one _
      have hND : N.size = D.size := by rw [HNS.out, ← hD]; rfl
      obtain ⟨m, hm⟩ : ∃ m : Int, ((r.seq % 2 : Nat) : Int) = m := ⟨_, rfl⟩
      rw [hm] at HGQ
      have HMM := Lib.hid hm
      clear HG o1 b1 hV HR hlv1 hc8 hr hD hm HV HB HVZ
      simp only [Int.natCast_zero]
      go_wp2_with fail
      refine HRD.out.mono ?_
      rintro e w2 ⟨rfl, b2⟩
      obtain ⟨X, hX⟩ : ∃ X, (w2.alloc (.cells N 24)).setRow w2.heap.size D = X := ⟨_, rfl⟩
      obtain ⟨hxa, hxb⟩ := bxt_stored hX
      have hbx : Below w1.heap.size w1 X := b2.trans (hxb.mono b2.size)
      have s0 : RtGt w.heap.size w2.heap.size N D (.slice A1 c'.length c1) c' w X := ⟨HR1.out.below hbx HR1.out.lt, hxa.2, (HC1.out.below_ hbx (Nat.le_refl _)).mono_ hbx.size, HB1.out.trans (hbx.mono HB1.out.size)⟩
      have S0 := Lib.hid s0
      clear HRD b2 hxa hxb hbx s0 HR1 HC1 HB1
      by_cases hk : k = 1
      · subst hk
        have HPP : Hid (∀ w', Calls Try.prog 9 #[.agg D] w' (fun e w'' => e = .returned (.int .i64 m) ∧ Below w'.heap.size w' w'')) := fun w' => by
          have := prtplace_any r w' HFT.out
          rwa [HDD.out, HMM.out] at this
        have HMY : Hid (∀ w', Calls Try.prog 17 #[.agg D] w' (IsBool (decide (Rt.May r)) w')) := fun w' => by
          have := prtmay_any r w' HFT.out
          rwa [HDD.out] at this
        by_cases hpm : m = place
        · have q7 : (m != place) = false := by rw [bne_eq_false_iff_eq]; exact hpm
          by_cases hmay : Rt.May r
          · have HM : Hid (decide (Rt.May r) = true) := decide_eq_true hmay
            rw [HM.out] at HMY
            have HLY : Hid (∀ w', Calls Try.prog 19 #[.agg D] w' (IsL1 yK (Rt.bys (Rt.nums r)) w')) := fun w' => by
              have := prtlay_any r w' hmay
              rwa [HDD.out] at this
            have hpos := HMP.out hmay
            have hlp : 0 < (Rt.bys (Rt.nums r)).length := Rt.bys_pos
            obtain ⟨l, hl⟩ : ∃ l, Rt.bys (Rt.nums r) = l := ⟨_, rfl⟩
            rw [hl] at HLY HGQ hlp
            have HEQ : Hid (∀ v w', Lv yK w' w'.heap.size v l → Lv yK w' w'.heap.size (.slice A1 c'.length c1) c' → Calls Try.prog 25 #[.slice A1 c'.length c1, v] w' (fun e w'' => e = .returned (.bool (decide (c' = l))) ∧ w'' = w')) := fun v w' h1 h2 => pbequal_any _ v c' l w'.heap.size w' h2 h1 hpos hlp
            obtain ⟨q, hq⟩ : ∃ q, decide (c' = l) = q := ⟨_, rfl⟩
            rw [hq] at HEQ
            have HEE : Hid (Rt.getE place b = if q = true then (r, 0) else (Rt.zero, 5)) := by
              unfold Hid
              rw [HGQ.out, ← hq]
              by_cases h : c' = l
              · rw [if_pos ⟨rfl, hpm, hmay, h⟩, if_pos (decide_eq_true h)]
              · rw [if_neg (fun hh => h hh.2.2.2), if_neg (by rw [decide_eq_false h]; simp)]
            have HQ := Lib.hid HEE.out
            clear hpm hmay hpos hlp hl hq HGQ HMP HM
            go_wp2_with (first
              | (refine wpList_store_row rfl _ _ _ rfl w2.heap.size D rfl rfl 24 N (Rw.new w2 _ _) hszD hND honeD ?_; rw [hX])
              | (refine wpList_load_row_onT (by rfl) _ _ rfl w2.heap.size rfl 24 D (0, 0) _ S0.out.x_ Try.underlying24 rfl (by rw [hszD]) ?_))
            refine (HPP.out _).mono ?_
            rintro e w3 ⟨rfl, b3⟩
            have S3 := Lib.hid (S0.out.below b3 rfl)
            clear b3 S0 HPP hX
            go_wp2_with (first
              | (refine wpList_load_row_onT (by rfl) _ _ rfl w2.heap.size rfl 24 D (0, 0) _ S3.out.x_ Try.underlying24 rfl (by rw [hszD]) ?_))
            refine (HMY.out _).mono ?_
            rintro e w4 ⟨rfl, b4⟩
            have S4 := Lib.hid (S3.out.below b4 rfl)
            clear b4 S3 HMY
            go_wp2_with (first
              | (refine wpList_load_row_onT (by rfl) _ _ rfl w2.heap.size rfl 24 D (0, 0) _ S4.out.x_ Try.underlying24 rfl (by rw [hszD]) ?_))
            refine (HLY.out _).mono ?_
            rintro e w5 ⟨A5, c5, rfl, o5, b5⟩
            have S5 := Lib.hid (S4.out.below b5 rfl)
            have HE5 := Lib.hid (HEQ.out _ w5 o5.form_ S5.out.l_)
            clear b5 o5 S4 HLY HEQ
            go_wp2_with fail
            refine HE5.out.mono ?_
            rintro e w6 ⟨rfl, rfl⟩
            clear HE5
            cases q with
            | true =>
              have HE : Hid (Rt.getE place b = (r, 0)) := HEE.out.trans (if_pos rfl)
              go_wp2_with (first
                | (refine wpList_load_row rfl _ _ rfl w2.heap.size rfl 24 D (0, 0) _ S5.out.x_ Try.underlying24 rfl (by rw [hszD]) ?_)
                | (refine wpList_store_row rfl _ _ _ rfl w.heap.size D rfl rfl 24 _ S5.out.r_ hszD hND honeD ?_))
              refine IsRtE.ret (y := r) (p := 4) (u1 := 5) (g := w.heap.size) (e := 0) (x := 0) ?_ ?_ ?_ ?_ (by rw [HDD.out]; exact Rw.row S5.out.r_ D) HE.out rfl HFT.out (below_setRow S5.out.b_ (Nat.le_refl _) _)
              all_goals rfl
            | false =>
              have HE : Hid (Rt.getE place b = (Rt.zero, 5)) := HEE.out.trans (if_neg (by simp))
              go_wp2_with (first
                | (refine wpList_build_atT rfl 24 _ rfl N hb0 ?_)
                | (refine wpList_store_row rfl _ _ _ rfl w.heap.size N rfl rfl 24 _ S5.out.r_ hsz0 rfl hone0 ?_))
              refine IsRtE.ret (y := Rt.zero) (p := 4) (u1 := 5) (g := w.heap.size) (e := 5) (x := 5) ?_ ?_ ?_ ?_ (by rw [HN0.out]; exact Rw.row S5.out.r_ N) HE.out rfl Rt.fit_zero (below_setRow S5.out.b_ (Nat.le_refl _) _)
              all_goals rfl
          · have HM : Hid (decide (Rt.May r) = false) := decide_eq_false hmay
            rw [HM.out] at HMY
            have HE : Hid (Rt.getE place b = (Rt.zero, 5)) := HGQ.out.trans (if_neg (fun h => hmay h.2.2.1))
            clear hpm hmay HGQ HMP HM
            go_wp2_with (first
              | (refine wpList_store_row rfl _ _ _ rfl w2.heap.size D rfl rfl 24 N (Rw.new w2 _ _) hszD hND honeD ?_; rw [hX])
              | (refine wpList_load_row_onT (by rfl) _ _ rfl w2.heap.size rfl 24 D (0, 0) _ S0.out.x_ Try.underlying24 rfl (by rw [hszD]) ?_))
            refine (HPP.out _).mono ?_
            rintro e w3 ⟨rfl, b3⟩
            have S3 := Lib.hid (S0.out.below b3 rfl)
            clear b3 S0 HPP hX
            go_wp2_with (first
              | (refine wpList_load_row_onT (by rfl) _ _ rfl w2.heap.size rfl 24 D (0, 0) _ S3.out.x_ Try.underlying24 rfl (by rw [hszD]) ?_))
            refine (HMY.out _).mono ?_
            rintro e w4 ⟨rfl, b4⟩
            have S4 := Lib.hid (S3.out.below b4 rfl)
            clear b4 S3 HMY
            go_wp2_with (first
              | (refine wpList_build_atT rfl 24 _ rfl N hb0 ?_)
              | (refine wpList_store_row rfl _ _ _ rfl w.heap.size N rfl rfl 24 _ S4.out.r_ hsz0 rfl hone0 ?_))
            refine IsRtE.ret (y := Rt.zero) (p := 4) (u1 := 5) (g := w.heap.size) (e := 5) (x := 5) ?_ ?_ ?_ ?_ (by rw [HN0.out]; exact Rw.row S4.out.r_ N) HE.out rfl Rt.fit_zero (below_setRow S4.out.b_ (Nat.le_refl _) _)
            all_goals rfl
        · have q7 : (m != place) = true := by rw [bne_iff_ne]; exact hpm
          have HE : Hid (Rt.getE place b = (Rt.zero, 5)) := HGQ.out.trans (if_neg (fun h => hpm h.2.1))
          clear hpm HGQ HMP HMY
          go_wp2_with (first
            | (refine wpList_store_row rfl _ _ _ rfl w2.heap.size D rfl rfl 24 N (Rw.new w2 _ _) hszD hND honeD ?_; rw [hX])
            | (refine wpList_load_row_onT (by rfl) _ _ rfl w2.heap.size rfl 24 D (0, 0) _ S0.out.x_ Try.underlying24 rfl (by rw [hszD]) ?_))
          refine (HPP.out _).mono ?_
          rintro e w3 ⟨rfl, b3⟩
          have S3 := Lib.hid (S0.out.below b3 rfl)
          clear b3 S0 HPP hX
          go_wp2_with (first
            | (refine wpList_build_atT rfl 24 _ rfl N hb0 ?_)
            | (refine wpList_store_row rfl _ _ _ rfl w.heap.size N rfl rfl 24 _ S3.out.r_ hsz0 rfl hone0 ?_))
          refine IsRtE.ret (y := Rt.zero) (p := 4) (u1 := 5) (g := w.heap.size) (e := 5) (x := 5) ?_ ?_ ?_ ?_ (by rw [HN0.out]; exact Rw.row S3.out.r_ N) HE.out rfl Rt.fit_zero (below_setRow S3.out.b_ (Nat.le_refl _) _)
          all_goals rfl
      · have HE : Hid (Rt.getE place b = (Rt.zero, 5)) := HGQ.out.trans (if_neg (fun h => hk h.1))
        have hq : ((k : Int) != 1) = true := by rw [bne_iff_ne]; omega
        clear hk HGQ HMP
        go_wp2_with (first
          | (refine wpList_store_row rfl _ _ _ rfl w2.heap.size D rfl rfl 24 N (Rw.new w2 _ _) hszD hND honeD ?_; rw [hX])
          | (refine wpList_build_atT rfl 24 _ rfl N hb0 ?_)
          | (refine wpList_store_row rfl _ _ _ rfl w.heap.size N rfl rfl 24 _ S0.out.r_ hsz0 rfl hone0 ?_))
        refine IsRtE.ret (y := Rt.zero) (p := 4) (u1 := 5) (g := w.heap.size) (e := 5) (x := 5) ?_ ?_ ?_ ?_ (by rw [HN0.out]; exact Rw.row S0.out.r_ N) HE.out rfl Rt.fit_zero (below_setRow S0.out.b_ (Nat.le_refl _) _)
        all_goals rfl
    · have HE := Lib.hid (Rt.getE_page HPL.out HGE.out he)
      have hq : ((e : Int) != 0) = true := by rw [bne_iff_ne]; omega
      go_enter Try.func11, Try.ntmps11
      go_wp2_with (fail)
      refine HG.out.mono ?_
      rintro e' w1 ⟨A1, c1, rfl, o1, b1⟩
      have HB1 := Lib.hid (HB.out.trans (b1.mono HB.out.size))
      have HR1 : Hid (Rw w1 w.heap.size 24 N) := HR.out.below b1 HVZ.out
      clear HG o1 b1 hV HR
      go_wp2_with (first
        | (refine wpList_build_atT rfl 24 _ rfl N hb0 ?_)
        | (refine wpList_store_row rfl _ _ _ rfl w.heap.size N rfl rfl 24 _ HR1.out hsz0 rfl hone0 ?_))
      refine IsRtE.ret (y := Rt.zero) (p := 4) (u1 := 5) (g := w.heap.size) (e := e) (x := e) ?_ ?_ ?_ ?_ (by rw [HN0.out]; exact Rw.row HR1.out N) HE.out rfl Rt.fit_zero (below_setRow HB1.out (Nat.le_refl _) _)
      all_goals rfl
end Go.Proofs.Ytoefogmjekcbeaa
