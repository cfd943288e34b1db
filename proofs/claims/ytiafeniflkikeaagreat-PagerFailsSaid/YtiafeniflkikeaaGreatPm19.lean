/- Parts of the proof. -/
import Derived.Test.YtiafeniflkikeaaGreatPm18
import Derived.Test.YtiafeniflkikeaaGreatPm05
import Derived.Test.YtiafeniflkikeaaGreatPm11
import Derived.Test.YtiafeniflkikeaaGreatPm09
import Derived.Test.YtiafeniflkikeaaGreatPm04
import Derived.Test.YtiafeniflkikeaaGreatPm03
import Derived.Laws.CopyOwn
import Derived.Test.YtiafeniflkikeaaGreatPm01
import Derived.Deep.RegionHeld3
import Derived.Deep.WholeRow
namespace Go.Proofs.YtiafeniflkikeaaGreat
open Go.RowKit
set_option linter.unusedVariables false
theorem Rt.sg_i64 (n : Nat) : I64 (Rt.sg n) := by unfold Rt.sg I64; rw [IntKind.wrap_i64]; omega
theorem Rt.qn_u64 {c : List Nat} (hc : ∀ x ∈ c, x < 256) (a : Nat) : Rt.qn c a < 18446744073709551616 := by
 have := Rt.qn_b64 hc a
 unfold Mt.B64 at this
 omega
theorem Rt.fit_of {a d e : Nat} {b c f g : Int} (ha : a < 18446744073709551616) (hb : I64 b) (hc : I64 c) (hd : d < 18446744073709551616) (he : e < 18446744073709551616) (hf : I64 f) (hg : I64 g) : Rt.Fit ⟨a, b, c, d, e, f, g⟩ := ⟨ha, hb, hc, hd, he, hf, hg⟩
theorem Rt.fit_q {c : List Nat} (hc : ∀ x ∈ c, x < 256) : Rt.Fit (Rt.rootQ c) := by
 obtain ⟨p1, h1⟩ : ∃ p, Rt.qa c 0 = p := ⟨_, rfl⟩
 obtain ⟨p2, h2⟩ : ∃ p, Rt.qa c p1 = p := ⟨_, rfl⟩
 obtain ⟨p3, h3⟩ : ∃ p, Rt.qa c p2 = p := ⟨_, rfl⟩
 obtain ⟨p4, h4⟩ : ∃ p, Rt.qa c p3 = p := ⟨_, rfl⟩
 obtain ⟨p5, h5⟩ : ∃ p, Rt.qa c p4 = p := ⟨_, rfl⟩
 obtain ⟨p6, h6⟩ : ∃ p, Rt.qa c p5 = p := ⟨_, rfl⟩
 rw [Rt.rootQ_at h1 h2 h3 h4 h5 h6]
 exact Rt.fit_of (Rt.qn_u64 hc _) (Rt.sg_i64 _) (Rt.sg_i64 _) (Rt.qn_u64 hc _) (Rt.qn_u64 hc _) (Rt.sg_i64 _) (Rt.sg_i64 _)
theorem turned_b {w w' : World} {B g : Nat} (hb : Below B w w') (hB : w.heap.size ≤ B) : Turned (fun k => k = g) w w' :=
 Turned.mono (Turned.of_below hb) (fun k hk h => by omega)
set_option maxHeartbeats 1000000 in
set_option maxRecDepth 100000 in
theorem ptake_any (g1 g2 : Nat) (v : Value) (b : List Nat) (B a : Nat) (w : World) (hv : Lv yK w B v b) (c1 : Rw w g1 40 #[v]) (c2 : Rw w g2 3 #[.int .i64 (a : Nat)]) :
  Calls Tryz.prog 130 #[.pointer (some ⟨g1, 0, none⟩), .pointer (some ⟨g2, 0, none⟩)] w (fun e w' => e = .returned (.int .u64 (Rt.qn b a : Nat)) ∧ Rw w' g2 3 #[.int .i64 (Rt.qa b a : Nat)] ∧ Turned (fun k => k = g2) w w') := by
 have k1 : w.cell? ⟨g1, 0, none⟩ = some v := c1.cell 0
 have k2 : w.cell? ⟨g2, 0, none⟩ = some (.int .i64 (a : Nat)) := c2.cell 0
 have HC := Lib.hid (get_any v b B (a : Nat) w hv.bv_)
 have H2 := Lib.hid c2
 have hb8 := hv.ok_
 obtain ⟨A, c, rfl, -, -, -, -, -⟩ := hv
 rcases Mt.get_cases hb8 (a : Nat) with ⟨e, he, he5, hg⟩ | ⟨k, n, r, -, -, -, -, -, hg⟩
 ·have hqn : Rt.qn b a = 0 := by unfold Rt.qn; rw [hg, if_pos (by show e ≠ 0; omega)]
  have hqa : Rt.qa b a = a := by unfold Rt.qa; rw [hg, if_pos (by show e ≠ 0; omega)]
  rw [hg] at HC
  rw [hqn, hqa]
  have q1 : ((e : Int) != 0) = true := by rw [bne_iff_ne]; omega
  clear hb8 hg hqn hqa he he5 c1 c2
  go_enter Tryz.func130, Tryz.ntmps130
  go_wp2_with fail
  refine HC.out.mono ?_
  rintro e' w1 ⟨rfl, b1⟩
  have HB := Lib.hid b1
  clear HC k1 k2 b1
  go_wp2
  go_ret
  exact ⟨rfl, H2.out.below HB.out H2.out.lt, turned_b HB.out (Nat.le_refl _)⟩
 ·obtain ⟨y, hy⟩ : ∃ y, k + (Mt.put n).length = y := ⟨_, rfl⟩
  rw [hy] at hg
  have hqn : Rt.qn b a = n := by unfold Rt.qn; rw [hg, if_neg (by simp)]
  have hqa : Rt.qa b a = y := by unfold Rt.qa; rw [hg, if_neg (by simp)]
  rw [hg] at HC
  rw [hqn, hqa]
  clear hb8 hg hqn hqa c1 c2 hy
  go_enter Tryz.func130, Tryz.ntmps130
  go_wp2_with fail
  refine HC.out.mono ?_
  rintro e' w1 ⟨rfl, b1⟩
  have HB := Lib.hid b1
  have hr1 : Rw w1 g2 3 #[.int .i64 (a : Nat)] := H2.out.below b1 H2.out.lt
  have HR1 := Lib.hid hr1
  have k2 : w1.cell? ⟨g2, 0, none⟩ = some (.int .i64 (a : Nat)) := hr1.cell 0
  have kf : w1.frozen? ⟨g2, 0, none⟩ = false := frozen_of_row w1 g2 0 _ _ hr1
  clear HC k1 b1 hr1
  go_wp2
  go_ret
  refine ⟨rfl, ?_, (turned_b HB.out (Nat.le_refl _)).setCell (p := ⟨g2, 0, none⟩) (fun _ => rfl) _⟩
  unfold Rw
  rw [heap_setCell_same w1 g2 0 _ _ _ HR1.out]
  rfl
structure RtSt (z : Nat) (N : Array Value) (v : Value) (b : List Nat) (B : Nat) (w0 w : World) (p : Nat) : Prop where
 v_ : Rw w z 40 #[v]
 r_ : Rw w (z + 1) 34 N
 p_ : Rw w (z + 2) 3 #[.int .i64 (p : Nat)]
 l_ : Lv yK w B v b
 b_ : Below z w0 w
theorem RtSt.take {z B p : Nat} {N : Array Value} {v : Value} {b : List Nat} {w0 w : World} (h : RtSt z N v b B w0 w p) (hB : B ≤ z) (hz : w0.heap.size = z) :
  Calls Tryz.prog 130 #[.pointer (some ⟨z, 0, none⟩), .pointer (some ⟨z + 2, 0, none⟩)] w (fun e w' => e = .returned (.int .u64 (Rt.qn b p : Nat)) ∧ RtSt z N v b B w0 w' (Rt.qa b p)) := by
 refine (ptake_any z (z + 2) v b B p w h.l_ h.v_ h.p_).mono ?_
 rintro e w' ⟨he, hr, ht⟩
 refine ⟨he, (ht.block _ h.v_.lt (by omega)).trans h.v_, (ht.block _ h.r_.lt (by omega)).trans h.r_, hr, h.l_.turned_ ht (by intro k hk; omega), h.b_.trans (ht.below (by have := h.b_.size; omega) (by intro k hk; omega))⟩
set_option maxHeartbeats 800000 in
set_option maxRecDepth 100000 in
theorem prtread_any (v : Value) (b : List Nat) (B : Nat) (w : World) (hv : Lv yK w B v b) (hB : B ≤ w.heap.size) :
  Calls Tryz.prog 110 #[v] w (fun e w' => e = .returned (.agg (rtC (Rt.rootQ b))) ∧ Below w.heap.size w w') := by
 have hmf : ∀ (fn : Fn) (first cap : Array Value) (w : World), (Instr.makeFunc fn first cap).run Tryz.prog w = .ok (.func fn first cap) w := fun _ _ _ _ => rfl
 have hz7 := (zero_of_info (n := 7) rt_zero).1
 have HNS : Hid (none7.size = 7) := rfl
 obtain ⟨N, hN⟩ : ∃ N, none7 = N := ⟨_, rfl⟩
 rw [hN] at hz7 HNS
 clear hN
 obtain ⟨z, hz⟩ : ∃ z, w.heap.size = z := ⟨_, rfl⟩
 obtain ⟨V, hV⟩ : ∃ V, ((w.alloc (.cells #[v] 40)).alloc (.cells N 34)).alloc (.cells #[.int .i64 0] 3) = V := ⟨_, rfl⟩
 have hx2 : Rw V (z + 2) 3 #[.int .i64 0] := by rw [← hV]; exact Rw.at_ (by simp [hz]) _ _
 have hx1 : Rw V (z + 1) 34 N := by rw [← hV]; exact (Rw.at_ (by simp [hz]) _ _).old _
 have hx0 : Rw V z 40 #[v] := by rw [← hV]; exact ((Rw.at_ hz.symm _ _).old _).old _
 have hbv : Below z w V := by rw [← hV, ← hz]; exact (((Below.refl _ _).alloc (Nat.le_refl _) _).alloc (by simp) _).alloc (by simp; omega) _
 have k2 : V.cell? ⟨z + 2, 0, none⟩ = some (.int .i64 0) := hx2.cell 0
 have kf : V.frozen? ⟨z + 2, 0, none⟩ = false := frozen_of_row V (z + 2) 0 _ _ hx2
 obtain ⟨W, hW⟩ : ∃ W, V.setCell ⟨z + 2, 0, none⟩ (.int .i64 0) = W := ⟨_, rfl⟩
 have hs0 : RtSt z N v b B w W 0 := by
  subst hW
  have hb' : Below z w (V.setCell ⟨z + 2, 0, none⟩ (.int .i64 0)) := hbv.setCell (p := ⟨z + 2, 0, none⟩) (by show z ≤ z + 2; omega) _
  exact ⟨hx0.setOther (by omega) _ _, hx1.setOther (by omega) _ _, hx2.set 0 _, hv.below_ hb' (by omega), hb'⟩
 have hB' : B ≤ z := by omega
 have HT : Hid (∀ p w', RtSt z N v b B w w' p → Calls Tryz.prog 130 #[.pointer (some ⟨z, 0, none⟩), .pointer (some ⟨z + 2, 0, none⟩)] w' (fun e w'' => e = .returned (.int .u64 (Rt.qn b p : Nat)) ∧ RtSt z N v b B w w'' (Rt.qa b p))) := fun p w' h => h.take hB' hz
 obtain ⟨p1, h1⟩ : ∃ p, Rt.qa b 0 = p := ⟨_, rfl⟩
 obtain ⟨p2, h2⟩ : ∃ p, Rt.qa b p1 = p := ⟨_, rfl⟩
 obtain ⟨p3, h3⟩ : ∃ p, Rt.qa b p2 = p := ⟨_, rfl⟩
 obtain ⟨p4, h4⟩ : ∃ p, Rt.qa b p3 = p := ⟨_, rfl⟩
 obtain ⟨p5, h5⟩ : ∃ p, Rt.qa b p4 = p := ⟨_, rfl⟩
 obtain ⟨p6, h6⟩ : ∃ p, Rt.qa b p5 = p := ⟨_, rfl⟩
 have HQ := Lib.hid (Rt.rootQ_at h1 h2 h3 h4 h5 h6)
 have T0 := Lib.hid (HT.out 0 W hs0)
 have T1 := Lib.hid (HT.out p1)
 have T2 := Lib.hid (HT.out p2)
 have T3 := Lib.hid (HT.out p3)
 have T4 := Lib.hid (HT.out p4)
 have T5 := Lib.hid (HT.out p5)
 have T6 := Lib.hid (HT.out p6)
 rw [h1] at T0
 rw [h2] at T1
 rw [h3] at T2
 rw [h4] at T3
 rw [h5] at T4
 rw [h6] at T5
 rw [HQ.out]
 obtain ⟨n0, hn0⟩ : ∃ n, Rt.qn b 0 = n := ⟨_, rfl⟩
 obtain ⟨n1, hn1⟩ : ∃ n, Rt.qn b p1 = n := ⟨_, rfl⟩
 obtain ⟨n2, hn2⟩ : ∃ n, Rt.qn b p2 = n := ⟨_, rfl⟩
 obtain ⟨n3, hn3⟩ : ∃ n, Rt.qn b p3 = n := ⟨_, rfl⟩
 obtain ⟨n4, hn4⟩ : ∃ n, Rt.qn b p4 = n := ⟨_, rfl⟩
 obtain ⟨n5, hn5⟩ : ∃ n, Rt.qn b p5 = n := ⟨_, rfl⟩
 obtain ⟨n6, hn6⟩ : ∃ n, Rt.qn b p6 = n := ⟨_, rfl⟩
 rw [hn0] at T0 ⊢
 rw [hn1] at T1 ⊢
 rw [hn2] at T2 ⊢
 rw [hn3] at T3 ⊢
 rw [hn4] at T4 ⊢
 rw [hn5] at T5 ⊢
 rw [hn6] at T6 ⊢
 unfold Rt.sg
 obtain ⟨y1, hy1⟩ : ∃ y, IntKind.i64.wrap (n1 : Int) = y := ⟨_, rfl⟩
 obtain ⟨y2, hy2⟩ : ∃ y, IntKind.i64.wrap (n2 : Int) = y := ⟨_, rfl⟩
 obtain ⟨y5, hy5⟩ : ∃ y, IntKind.i64.wrap (n5 : Int) = y := ⟨_, rfl⟩
 obtain ⟨y6, hy6⟩ : ∃ y, IntKind.i64.wrap (n6 : Int) = y := ⟨_, rfl⟩
 rw [hy1, hy2, hy5, hy6]
 have hbt := rt_built ⟨n0, y1, y2, n3, n4, y5, y6⟩
 simp only at hbt
 obtain ⟨D, hD⟩ : ∃ D, rtC ⟨n0, y1, y2, n3, n4, y5, y6⟩ = D := ⟨_, rfl⟩
 have hszD : (Tryz.prog.info? 34).map (·.size) = some D.size := by rw [← hD]; exact rt_size
 have honeD : D.all (·.oneCell') = true := by rw [← hD]; exact rtC_one _
 have hND : N.size = D.size := by rw [HNS.out, ← hD]; rfl
 rw [hD] at hbt ⊢
 obtain ⟨A, c, rfl, -, -, -, -, -⟩ := id hv
 clear HT HQ h1 h2 h3 h4 h5 h6 hn0 hn1 hn2 hn3 hn4 hn5 hn6 hD hx0 hx1 hx2 hbv hs0 hv hB hB'
 subst hz
 go_enter Tryz.func110, Tryz.ntmps110
 go_wp2_with fail
 refine T0.out.mono ?_
 rintro e w1 ⟨rfl, s1⟩
 have R1 := Lib.hid (T1.out w1 s1)
 clear s1 T0 T1 hV hW
 go_wp2_with fail
 refine R1.out.mono ?_
 rintro e w2 ⟨rfl, s2⟩
 have R2 := Lib.hid (T2.out w2 s2)
 clear s2 R1 T2
 go_wp2_with fail
 refine R2.out.mono ?_
 rintro e w3 ⟨rfl, s3⟩
 have R3 := Lib.hid (T3.out w3 s3)
 clear s3 R2 T3
 go_wp2_with fail
 refine R3.out.mono ?_
 rintro e w4 ⟨rfl, s4⟩
 have R4 := Lib.hid (T4.out w4 s4)
 clear s4 R3 T4
 go_wp2_with fail
 refine R4.out.mono ?_
 rintro e w5 ⟨rfl, s5⟩
 have R5 := Lib.hid (T5.out w5 s5)
 clear s5 R4 T5
 go_wp2_with fail
 refine R5.out.mono ?_
 rintro e w6 ⟨rfl, s6⟩
 have R6 := Lib.hid (T6.out w6 s6)
 clear s6 R5 T6
 go_wp2_with fail
 refine R6.out.mono ?_
 rintro e w7 ⟨rfl, s7⟩
 have HB7 : Hid (Below w.heap.size w w7) := s7.b_
 have HR7 : Hid (Rw w7 (w.heap.size + 1) 34 N) := s7.r_
 clear s7 R6 k2 kf
 go_wp2_with (first
  | ((show wpList _ _ _ [_, _] _ _); go_must (refine wpList_build_atT rfl 34 _ rfl D (by simp only [List.map_toArray]; exact hbt) ?_))
  | ((show wpList _ _ _ [_] _ _); go_must (refine wpList_store_row rfl _ _ _ rfl (w.heap.size + 1) D rfl rfl 34 N HR7.out hszD hND honeD ?_)))
 refine bodyPost_ret (v := .agg D) (results_cell_row rfl _ _ (w.heap.size + 1) 34 D (0, 0) _ rfl (Rw.row HR7.out D) Tryz.underlying34 rfl hszD) rfl ⟨rfl, below_setRow HB7.out (by omega) _⟩
end Go.Proofs.YtiafeniflkikeaaGreat
namespace Go.Proofs.YtiafeniflkikeaaGreat
open Go.RowKit
set_option linter.unusedVariables false
def pu (z : List Nat) (k : Nat) (m : List Nat) : List Nat := z.take k ++ m ++ z.drop (k + m.length)
theorem pu_len {z m : List Nat} {k : Nat} (h : k + m.length ≤ z.length) : (pu z k m).length = z.length := by simp [pu]; omega
theorem pu_nil (z : List Nat) (k : Nat) : pu z k [] = z := by simp [pu]
theorem pu_mid {a b c l : List Nat} {k : Nat} (hk : k = a.length) (h : l.length = b.length) : pu (a ++ (b ++ c)) k l = a ++ (l ++ c) := by
 subst hk
 unfold pu
 rw [List.take_left, h, List.append_assoc, ← List.drop_drop, List.drop_left, List.drop_left]
theorem pu_front {b c l : List Nat} (h : l.length = b.length) : pu (b ++ c) 0 l = l ++ c := pu_mid (a := []) rfl h
theorem pu_lt {z m : List Nat} {k : Nat} (hz : ∀ x ∈ z, x < 256) (hm : ∀ x ∈ m, x < 256) : ∀ x ∈ pu z k m, x < 256 := by
 intro x hx
 rcases List.mem_append.1 hx with hx | hx
 ·rcases List.mem_append.1 hx with hx | hx
  ·exact hz x (List.mem_of_mem_take hx)
  ·exact hm x hx
 ·exact hz x (List.mem_of_mem_drop hx)
theorem pu_snoc {z m : List Nat} {k x : Nat} (h : k + m.length < z.length) : (pu z k m).set (k + m.length) x = pu z k (m ++ [x]) := by
 unfold pu
 have h1 : (z.take k ++ m).length = k + m.length := by rw [List.length_append, List.length_take]; omega
 rw [List.set_append_right _ _ (by omega), h1, Nat.sub_self]
 rw [show z.drop (k + m.length) = z[k + m.length] :: z.drop (k + m.length + 1) from List.drop_eq_getElem_cons h, List.set_cons_zero]
 simp [List.append_assoc, Nat.add_assoc]
theorem bvs_set (l : List Nat) (k x : Nat) : (bvs l).setIfInBounds k (.int .u8 (x : Nat)) = bvs (l.set k x) := by
 simp [bvs, u8, List.map_set]
theorem Rw.byte {w : World} {g : Nat} {t : TypeId} {l : List Nat} (h : Rw w g t (bvs l)) {k x : Nat} (hx : l[k]? = some x) : w.cell? ⟨g, k, none⟩ = some (.int .u8 (x : Nat)) := (h.cell k).trans (bvs_some hx)
theorem Rw.setByte {w : World} {g : Nat} {t : TypeId} {l : List Nat} (h : Rw w g t (bvs l)) (k x : Nat) : Rw (w.setCell ⟨g, k, none⟩ (.int .u8 (x : Nat))) g t (bvs (l.set k x)) := by
 have := h.set k (.int .u8 (x : Nat))
 rwa [bvs_set] at this
theorem Rw.bv_ {w : World} {g : Nat} {t : TypeId} {l : List Nat} (h : Rw w g t (bvs l)) (h8 : ∀ x ∈ l, x < 256) {k m c B : Nat} (hk : k + m ≤ l.length) (hmc : m ≤ c) (hc : c ≤ maxLen) (hB : g < B) : Bv w B (.slice (some ⟨g, k, none⟩) m c) ((l.drop k).take m) := by
 have hl : ((l.drop k).take m).length = m := by rw [List.length_take, List.length_drop]; omega
 refine ⟨some ⟨g, k, none⟩, c, by rw [hl], by omega, hc, by simp, fun x hx => h8 x (List.mem_of_mem_drop (List.mem_of_mem_take hx)), fun hp => ⟨g, k, rfl, hB, fun j x hj => ?_⟩⟩
 rw [List.getElem?_take] at hj
 split at hj
 ·rw [List.getElem?_drop] at hj; exact h.byte hj
 ·cases hj
theorem size5b : (Tryz.prog.info? 5).map (·.size) = some 1 := by kernel_rfl
theorem copy_arr {w : World} {g : Nat} {t : TypeId} {z m : List Nat} {B k dl dc : Nat} {x : Value} (h : Rw w g t (bvs z)) (hx : Bv w B x m) (hfit : k + m.length ≤ z.length) (hd : m.length ≤ dl) :
  ∃ w2, (Builtin.copy_ #[40, 40] 3 #[.slice (some ⟨g, k, none⟩) dl dc, x]).run Tryz.prog w = .ok (.int .i64 (m.length : Nat)) w2 ∧ Rw w2 g t (bvs (pu z k m)) ∧ w.grownBy w2 (some g) := by
 obtain ⟨A, c, rfl, _, _, _, hb⟩ := hx
 by_cases h0 : 0 < m.length
 ·obtain ⟨b, off, rfl, _, hc⟩ := hb.2 h0
  have hsrc : ∀ j v, (m.map u8)[j]? = some v → w.cell? ((⟨b, off, none⟩ : Addr).add j) = some v := by
   intro j v hv
   rw [List.getElem?_map] at hv
   cases hj : m[j]? with
   | none => rw [hj] at hv; cases hv
   | some y =>
    rw [hj] at hv
    have ea : (⟨b, off, none⟩ : Addr).add j = ⟨b, off + j, none⟩ := by unfold Addr.add; split <;> simp_all
    rw [ea, hc j y hj]
    simpa [u8] using hv
  have hrun := run_copy_row (P := Tryz.prog) w 40 40 3 5 g k dl dc ⟨b, off, none⟩ m.length c _ t (m.map u8) Tryz.underlying40 size5b h
   (by rw [List.length_map]; exact (Nat.min_eq_left hd).symm) hsrc (by simpa [bvs] using hfit) (by intro u hu; obtain ⟨_, _, rfl⟩ := List.mem_map.1 hu; rfl)
  have e : ((bvs z).toList.take k ++ m.map u8 ++ (bvs z).toList.drop (k + (m.map u8).length)).toArray = bvs (pu z k m) := by
   simp [bvs, pu, List.map_take, List.map_drop]
  rw [e] at hrun
  refine ⟨w.setRow g (bvs (pu z k m)), ?_, Rw.row h _, ⟨rfl, rfl, rfl, by simp, fun i _ hi => setRow_other w g i _ (fun e => hi (by rw [e]))⟩⟩
  rw [hrun, List.length_map]; rfl
 ·obtain rfl : m = [] := List.eq_nil_of_length_eq_zero (by omega)
  have hrun := run_copy_none (P := Tryz.prog) w 40 40 3 5 (some ⟨g, k, none⟩) A dl dc 0 c Tryz.underlying40 size5b (by simp)
  exact ⟨w, by simpa [goInt] using hrun, by rw [pu_nil]; exact h, ⟨rfl, rfl, rfl, Nat.le_refl _, fun _ _ _ => rfl⟩⟩
def OwnV (w : World) (base : Nat) (v : Value) (l : List Nat) : Prop :=
 (∀ x ∈ l, x < 256) ∧ ((v = .slice none 0 0 ∧ l = []) ∨ ∃ g t, v = .slice (some ⟨g, 0, none⟩) l.length l.length ∧ base ≤ g ∧ l.length ≤ maxLen ∧ Rw w g t (bvs l))
section
variable {w w' : World} {base B : Nat} {v : Value} {l : List Nat}
theorem OwnV.nil_ (w : World) (base : Nat) : OwnV w base (.slice none 0 0) [] := ⟨by simp, .inl ⟨rfl, rfl⟩⟩
theorem OwnV.form_ (h : OwnV w base v l) : Lv yK w w.heap.size v l := by
 obtain ⟨h8, ⟨rfl, rfl⟩ | ⟨g, t, rfl, hb, hm, hr⟩⟩ := h
 ·exact Lv.nil_ _ _ _
 ·have h := (hr.bv_ h8 (k := 0) (m := l.length) (c := l.length) (B := w.heap.size) (by omega) (Nat.le_refl _) hm hr.lt).lv_
  rwa [List.drop_zero, List.take_length] at h
theorem OwnV.lt_ (h : OwnV w base v l) : ∀ k, v.ownBlock = some k → base ≤ k ∧ k < w.heap.size := by
 intro k hk
 obtain ⟨h8, ⟨rfl, rfl⟩ | ⟨g, t, rfl, hb, hm, hr⟩⟩ := h
 ·simp [Value.ownBlock] at hk
 ·simp [Value.ownBlock] at hk
  subst hk
  exact ⟨hb, hr.lt⟩
theorem OwnV.mono_ (h : OwnV w base v l) {base' : Nat} (hb : base' ≤ base) : OwnV w base' v l := by
 obtain ⟨h8, hn | ⟨g, t, rfl, hb', hm, hr⟩⟩ := h
 ·exact ⟨h8, .inl hn⟩
 ·exact ⟨h8, .inr ⟨g, t, rfl, by omega, hm, hr⟩⟩
theorem OwnV.below_ (h : OwnV w base v l) (hb : Below B w w') (hB : w.heap.size ≤ B) : OwnV w' base v l := by
 obtain ⟨h8, hn | ⟨g, t, rfl, hb', hm, hr⟩⟩ := h
 ·exact ⟨h8, .inl hn⟩
 ·exact ⟨h8, .inr ⟨g, t, rfl, hb', hm, hr.below hb (Nat.lt_of_lt_of_le hr.lt hB)⟩⟩
end
def IsVE (r : List Nat × Nat) (w : World) (e : Ending) (w' : World) : Prop :=
 ∃ A c, e = .returned (.tuple #[.slice A r.1.length c, .int .i64 r.2]) ∧ OwnV w' w.heap.size (.slice A r.1.length c) r.1 ∧ Below w.heap.size w w'
theorem IsVE.none_b {w w' : World} {r : List Nat × Nat} {e : Nat} {x : Int} (h : r = ([], e)) (hx : x = (e : Nat)) (hb : Below w.heap.size w w') : IsVE r w (.returned (.tuple #[.slice none 0 0, .int .i64 x])) w' := by
 subst h hx; exact ⟨none, 0, rfl, OwnV.nil_ _ _, hb⟩
theorem IsVE.of {w w' : World} {r : List Nat × Nat} {y : List Nat} {e c n : Nat} {x : Int} {A : Option Addr} (h : r = (y, e)) (hn : n = y.length) (hx : x = (e : Nat)) (ho : OwnV w' w.heap.size (.slice A n c) y) (hb : Below w.heap.size w w') :
  IsVE r w (.returned (.tuple #[.slice A n c, .int .i64 x])) w' := by subst h hx hn; exact ⟨A, c, rfl, ho, hb⟩
end Go.Proofs.YtiafeniflkikeaaGreat
namespace Go.Proofs.YtiafeniflkikeaaGreat
open Go.RowKit
set_option linter.unusedVariables false
def bts (n m : Nat) : List Nat := (List.range m).map (Cr.byt n)
theorem bts_len (n m : Nat) : (bts n m).length = m := by simp [bts]
theorem bts_succ (n m : Nat) : bts n (m + 1) = bts n m ++ [Cr.byt n m] := by simp [bts, List.range_succ]
theorem bts_lt (n m : Nat) : ∀ x ∈ bts n m, x < 256 := fun x hx => by
 obtain ⟨i, _, rfl⟩ := List.mem_map.1 hx
 exact Cr.byt_lt n i
set_option maxHeartbeats 1000000 in
theorem pmaybe_any (n : Int) (w : World) : Calls Tryz.prog 114 #[.int .i64 n] w (fun e w' => e = .returned (.bool (decide (0 ≤ n ∧ n < 65536))) ∧ w' = w) := by
 by_cases h0 : 0 ≤ n
 ·by_cases h1 : n < 65536
  ·go_enter Tryz.func114, Tryz.ntmps114
   go_wp2
   go_ret
   exact ⟨by simp [h0, h1], rfl⟩
  ·go_enter Tryz.func114, Tryz.ntmps114
   go_wp2
   go_ret
   exact ⟨by simp [h1], rfl⟩
 ·go_enter Tryz.func114, Tryz.ntmps114
  go_wp2
  go_ret
  exact ⟨by simp; omega, rfl⟩
set_option maxHeartbeats 1000000 in
set_option maxRecDepth 100000 in
theorem play_any (g k m c n : Nat) (t : TypeId) (z : List Nat) (w : World) (hn : n < 4294967296) (h : Rw w g t (bvs z)) (h8 : ∀ x ∈ z, x < 256) (hk : k + m ≤ z.length) (hm : m ≤ 4) :
  Calls Tryz.prog 133 #[.slice (some ⟨g, k, none⟩) m c, .int .u32 (n : Nat)] w (fun e w' => (∃ x, e = .returned x) ∧ Rw w' g t (bvs (pu z k (bts n m))) ∧ w.grownBy w' (some g)) := by
 have H0 := Lib.hid h
 have HK := Lib.hid hk
 clear h hk
 go_enter Tryz.func133, Tryz.ntmps133
 go_wp2
 go_loopw [7] (fun i wr => ∃ j : Nat, j ≤ m ∧ i = .int .i64 j ∧ Hid (Rw wr g t (bvs (pu z k (bts n j)))) ∧ Hid (w.grownBy wr (some g))) (fun i _ => m - (intOf i).toNat)
 case atStart => exact ⟨0, by omega, rfl, by unfold Hid; rw [show bts n 0 = [] from rfl, pu_nil]; exact H0.out, World.grownBy.refl _ _⟩
 case round =>
  obtain ⟨j, hj, rfl, HR, HG⟩ := hrel
  by_cases hlt : j < m
  ·have hk := HK.out
   have hx : (n : Int) / 2 ^ (8 * j) % 256 = ((Cr.byt n j : Nat) : Int) := by unfold Cr.byt; simp
   have hlen : (pu z k (bts n j)).length = z.length := pu_len (by rw [bts_len]; omega)
   obtain ⟨x0, hx0⟩ : ∃ x, (pu z k (bts n j))[k + j]? = some x := ⟨_, List.getElem?_eq_getElem (by omega)⟩
   have hc0 := HR.out.byte hx0
   have hf0 := HR.out.frozen (k + j)
   have hs := HR.out.setByte (k + j) (Cr.byt n j)
   have e := pu_snoc (z := z) (m := bts n j) (k := k) (x := Cr.byt n j) (by rw [bts_len]; omega)
   rw [bts_len, ← bts_succ] at e
   rw [e] at hs
   have HS := Lib.hid hs
   have hg : wr.grownBy (wr.setCell ⟨g, k + j, none⟩ (.int .u8 (Cr.byt n j : Nat))) (some g) := ⟨rfl, rfl, rfl, by simp [World.setCell], fun k _ hk => Below.heap_setCell _ _ _ k (fun e => hk (by rw [e]))⟩
   have HG2 := Lib.hid (grownBy_trans HG.out hg)
   clear hs e hx0 hlen hg
   go_wp2
   exact ⟨⟨j + 1, by omega, by go_num, HS.out, HG2.out⟩, by simp [intOf]; omega⟩
  ·have h0 : j = m := by omega
   subst h0
   go_wp2
   go_end0
   exact ⟨⟨_, rfl⟩, HR.out, HG.out⟩
end Go.Proofs.YtiafeniflkikeaaGreat
namespace Go.Proofs.YtiafeniflkikeaaGreat
open Go.RowKit
set_option linter.unusedVariables false
theorem bts_four (n : Nat) : bts n 4 = four n := rfl
set_option maxRecDepth 100000 in
theorem size512 : (Tryz.prog.info? 164).map (·.size) = some 512 := by kernel_rfl
theorem size512l {l : List Nat} (h : l.length = 512) : (Tryz.prog.info? 164).map (·.size) = some (bvs l).size := by rw [bvs_size, h]; exact size512
theorem size4a : (Tryz.prog.info? 167).map (·.size) = some 4 := by kernel_rfl
theorem size4l {l : List Nat} (h : l.length = 4) : (Tryz.prog.info? 167).map (·.size) = some (bvs l).size := by rw [bvs_size, h]; exact size4a
set_option maxHeartbeats 1000000 in
set_option maxRecDepth 100000 in
theorem pgsum_any (p : List Nat) (hl : p.length = 512) (h8 : ∀ x ∈ p, x < 256) (w : World) :
  Calls Tryz.prog 117 #[.agg (bvs p)] w (fun e w' => e = .returned (.agg (bvs (four (Cr.of (p.drop 4))))) ∧ Below w.heap.size w w') := by
 obtain ⟨n, hn⟩ : ∃ n, Cr.of (p.drop 4) = n := ⟨_, rfl⟩
 have hn32 : n < 4294967296 := by rw [← hn]; exact Cr.of_b32 (fun x hx => h8 x (List.mem_of_mem_drop hx))
 obtain ⟨D, hD⟩ : ∃ D, bvs p = D := ⟨_, rfl⟩
 obtain ⟨W, hW⟩ : ∃ W, ((w.alloc (.cells D 164)).alloc (.cells #[.int .u8 0, .int .u8 0, .int .u8 0, .int .u8 0] 167)).alloc (.cells #[.int .u8 0, .int .u8 0, .int .u8 0, .int .u8 0] 167) = W := ⟨_, rfl⟩
 have hD0 : Rw W w.heap.size 164 (bvs p) := by rw [← hW, hD]; exact ((Rw.new w _ _).old _).old _
 have HB1 : Hid (Rw W (w.heap.size + 1) 167 (bvs [0, 0, 0, 0])) := by unfold Hid; rw [← hW]; exact (Rw.at_ (by simp) _ _).old _
 have hB2 : Rw W (w.heap.size + 2) 167 (bvs [0, 0, 0, 0]) := by rw [← hW]; exact Rw.at_ (by simp) _ _
 have HBW : Hid (Below w.heap.size w W) := by unfold Hid; rw [← hW]; exact (((Below.refl _ _).alloc (Nat.le_refl _) _).alloc (by simp) _).alloc (by simp; omega) _
 have hbv := hD0.bv_ h8 (k := 4) (m := 508) (c := 508) (B := W.heap.size) (by omega) (Nat.le_refl _) (by simp [maxLen]) hD0.lt
 rw [List.take_of_length_le (by rw [List.length_drop]; omega)] at hbv
 have HC := Lib.hid (of_any _ _ W.heap.size W.drew hbv)
 rw [hn] at HC ⊢
 have HL := Lib.hid (play_any (w.heap.size + 2) 0 4 4 n _ [0, 0, 0, 0] W.drew hn32 hB2.drew (by decide) (by simp) (by omega))
 rw [bts_four] at HL
 rw [hD]
 have HS4 := Lib.hid (size4l (four_len n))
 have HO4 := Lib.hid (bvs_one (four n))
 have HP4 : Hid (pu [0, 0, 0, 0] 0 (four n) = four n) := pu_front (b := [0, 0, 0, 0]) (c := []) (by rfl)
 obtain ⟨C, hC⟩ : ∃ C, bvs (four n) = C := ⟨_, rfl⟩
 have HCS : Hid ((bvs [0, 0, 0, 0]).size = C.size) := by unfold Hid; rw [← hC, bvs_size, bvs_size]; rfl
 rw [hC] at HS4 HO4 ⊢
 have HC4 : Hid (bvs (pu [0, 0, 0, 0] 0 (four n)) = C) := by unfold Hid; rw [HP4.out]; exact hC
 clear hD0 hB2 hbv hD hn hn32 h8 hl hC HP4
 go_enter Tryz.func117, Tryz.ntmps117
 go_wp2
 go_region_held3 (fun _ => True) (trivial) (first
  | (go_at_call 134; (with_reducible refine HC.out.mono ?_); rintro e x1 ⟨rfl, rfl⟩)
  | (go_at_call 133; (with_reducible refine HL.out.mono ?_); rintro e x2 ⟨⟨y, rfl⟩, hr2, hg2⟩; have HR2 := Lib.hid hr2; have HG2 := Lib.hid hg2; clear hr2 hg2))
 have hr := HR2.out
 rw [HC4.out] at hr
 have hb1 : Rw x2 (w.heap.size + 1) 167 (bvs [0, 0, 0, 0]) := (HG2.out.block _ (by have := HB1.out.lt; simpa using this) (by intro e; injection e with e; omega)).trans HB1.out
 have HBX : Hid (Below w.heap.size w x2) := HBW.out.drew.grown HG2.out (by have := HBW.out.size; simpa using this) (fun k hk => by injection hk with hk; omega)
 have HR := Lib.hid hr
 have HB := Lib.hid hb1
 clear HR2 HG2 HL HC hW HB1 HBW hr hb1 HC4
 go_wp2_with (first
  | (refine wpList_load_row rfl _ _ rfl (w.heap.size + 2) rfl 167 C (0, 0) _ HR.out Tryz.underlying167 rfl HS4.out ?_)
  | (refine wpList_store_row rfl _ _ _ rfl (w.heap.size + 1) C rfl rfl 167 _ HB.out HS4.out HCS.out HO4.out ?_))
 refine bodyPost_ret (v := .agg C) (results_cell_row rfl _ _ (w.heap.size + 1) 167 C (0, 0) _ rfl (Rw.row HB.out C) Tryz.underlying167 rfl HS4.out) rfl ⟨rfl, below_setRow HBX.out (by omega) _⟩
end Go.Proofs.YtiafeniflkikeaaGreat
