/-
  RtpF: root.Pick.
  RtPro: The program's root: Put, Get, Place, Pick; and the document's.
  RtLaw: stooklaw16.lives.
-/
import Derived.Test.YtoefogmjekcbeaaPk22
import Derived.Test.YtoefogmjekcbeaaPk20
import Derived.Test.YtoefogmjekcbeaaPk19
namespace Go.Proofs.Ytoefogmjekcbeaa
open Go.RowKit
set_option linter.unusedVariables false
namespace Rt
theorem getE_seq {place : Int} {b : List Nat} {r : Root} (h : getE place b = (r, 0)) : ((r.seq % 2 : Nat) : Int) = place := by
  unfold getE at h
  split at h
  · simp at h
  · split at h
    · rename_i h1 h2; simp only [Prod.mk.injEq] at h; exact absurd h.2 h2
    · split at h
      · simp at h
      · split at h
        · simp at h
        · split at h
          · rename_i h3; simp only [Prod.mk.injEq, and_true] at h; subst h; exact h3.2.2
          · simp at h
theorem pick_ways (a b : List Nat) : ∃ y k, pickE a b = (y, k) ∧
    ((¬ (getE 0 a).1.seq < (getE 1 b).1.seq ∧ (getE 0 a).1 = zero ∧ y = zero ∧ k = 7) ∨
     (¬ (getE 0 a).1.seq < (getE 1 b).1.seq ∧ (getE 0 a).1 ≠ zero ∧ y = (getE 0 a).1 ∧ k = 0) ∨
     ((getE 0 a).1.seq < (getE 1 b).1.seq ∧ (getE 1 b).1 ≠ zero ∧ y = (getE 1 b).1 ∧ k = 0)) := by
  obtain ⟨⟨r, e⟩, hr⟩ : ∃ x, getE 0 a = x := ⟨_, rfl⟩
  obtain ⟨⟨s, f⟩, hs⟩ : ∃ x, getE 1 b = x := ⟨_, rfl⟩
  have h1 : e ≠ 0 → r = zero := fun h => getE_zero hr h
  have h2 : f ≠ 0 → s = zero := fun h => getE_zero hs h
  have h3 : e = 0 → 1 ≤ r.seq ∧ ((r.seq % 2 : Nat) : Int) = 0 := fun h => by subst h; exact ⟨(getE_may hr).1, getE_seq hr⟩
  have h4 : f = 0 → 1 ≤ s.seq ∧ ((s.seq % 2 : Nat) : Int) = 1 := fun h => by subst h; exact ⟨(getE_may hs).1, getE_seq hs⟩
  have hz : zero.seq = 0 := rfl
  have hnz : ∀ t : Root, 1 ≤ t.seq → t ≠ zero := fun t h e => by rw [e, hz] at h; omega
  unfold pickE
  rw [hr, hs]
  simp only
  by_cases he : e = 0
  · obtain ⟨h5, h6⟩ := h3 he
    by_cases hf : f = 0
    · obtain ⟨h7, h8⟩ := h4 hf
      by_cases hq : s.seq < r.seq
      · exact ⟨r, 0, by rw [if_neg (by omega), if_pos (by omega)], by right; left; exact ⟨by omega, hnz r h5, rfl, rfl⟩⟩
      · exact ⟨s, 0, by rw [if_neg (by omega), if_neg (by omega)], by right; right; exact ⟨by omega, hnz s h7, rfl, rfl⟩⟩
    · have hsz := h2 hf
      exact ⟨r, 0, by rw [if_neg (by omega), if_pos (by omega)], by right; left; exact ⟨by rw [hsz, hz]; omega, hnz r h5, rfl, rfl⟩⟩
  · have hrz := h1 he
    by_cases hf : f = 0
    · obtain ⟨h7, h8⟩ := h4 hf
      exact ⟨s, 0, by rw [if_neg (by omega), if_neg (by omega)], by right; right; exact ⟨by rw [hrz, hz]; omega, hnz s h7, rfl, rfl⟩⟩
    · have hsz := h2 hf
      exact ⟨zero, 7, by rw [if_pos (by omega)], by left; exact ⟨by rw [hrz, hsz, hz]; omega, hrz, rfl, rfl⟩⟩
end Rt
set_option maxHeartbeats 2000000 in
set_option maxRecDepth 100000 in
theorem prtpick_any (u v : Value) (a b : List Nat) (B B' : Nat) (w : World) (hu : Lv yK w B u a) (hv : Lv yK w B' v b) (hB : B ≤ w.heap.size) (hB' : B' ≤ w.heap.size) :
    Calls Try.prog 15 #[u, v] w (IsRtE (Rt.pickE a b) w) := by
  have hz7 := (zero_of_info (n := 7) rt_zero).1
  have hb0 := rt_built0
  have HN0 : Hid (rtC Rt.zero = none7) := rfl
  have hsz0 : (Try.prog.info? 24).map (·.size) = some none7.size := rt_size
  have hone0 : none7.all (·.oneCell') = true := rtC_one _
  have HNS : Hid (none7.size = 7) := rfl
  obtain ⟨N, hN⟩ : ∃ N, none7 = N := ⟨_, rfl⟩
  rw [hN] at hz7 hb0 HN0 hsz0 hone0 HNS
  clear hN
  obtain ⟨V, hV⟩ : ∃ V, w.alloc (.cells N 24) = V := ⟨_, rfl⟩
  obtain ⟨hx, hb⟩ := bxt_new hV
  have HR : Hid (Rw V w.heap.size 24 N) := hx.2
  have HB := Lib.hid hb
  have HVZ : Hid (w.heap.size < V.heap.size) := hx.1
  have HU := Lib.hid (hu.below_ hb hB)
  have HV := Lib.hid (hv.below_ hb hB')
  have HBB : Hid (B ≤ V.heap.size ∧ B' ≤ V.heap.size) := ⟨Nat.le_trans hB hb.size, Nat.le_trans hB' hb.size⟩
  have HG := Lib.hid (prtget_any 0 u a B V HU.out HBB.out.1)
  have HG' : Hid (∀ w', Below V.heap.size V w' → Calls Try.prog 11 #[.int .i64 1, v] w' (IsRtE (Rt.getE 1 b) w')) := fun w' h => prtget_any 1 _ b B' w' (HV.out.below_ h HBB.out.2) (Nat.le_trans HBB.out.2 h.size)
  obtain ⟨y, k, hE, hcase⟩ := Rt.pick_ways a b
  have HE := Lib.hid hE
  obtain ⟨⟨r, e⟩, hr⟩ : ∃ x, Rt.getE 0 a = x := ⟨_, rfl⟩
  obtain ⟨⟨s, f⟩, hs⟩ : ∃ x, Rt.getE 1 b = x := ⟨_, rfl⟩
  rw [hr] at HG hcase
  rw [hs] at HG' hcase
  simp only at hcase
  have hcase' : (¬ ((r.seq : Nat) : Int) < ((s.seq : Nat) : Int) ∧ decide (r = Rt.zero) = true ∧ y = Rt.zero ∧ k = 7) ∨ (¬ ((r.seq : Nat) : Int) < ((s.seq : Nat) : Int) ∧ decide (r = Rt.zero) = false ∧ y = r ∧ k = 0) ∨ (((r.seq : Nat) : Int) < ((s.seq : Nat) : Int) ∧ decide (s = Rt.zero) = false ∧ y = s ∧ k = 0) := by
    rcases hcase with ⟨h1, h2, h3, h4⟩ | ⟨h1, h2, h3, h4⟩ | ⟨h1, h2, h3, h4⟩
    · exact .inl ⟨by omega, decide_eq_true h2, h3, h4⟩
    · exact .inr (.inl ⟨by omega, decide_eq_false h2, h3, h4⟩)
    · exact .inr (.inr ⟨by omega, decide_eq_false h2, h3, h4⟩)
  obtain ⟨A1, c1, rfl, -, -, -, -, -⟩ := hu
  obtain ⟨A2, c2, rfl, -, -, -, -, -⟩ := hv
  have heqC := fun w' => rt_equalIn r Rt.zero w'
  have heqD := fun w' => rt_equalIn s Rt.zero w'
  rw [HN0.out] at heqC heqD
  obtain ⟨C, hC⟩ : ∃ C, rtC r = C := ⟨_, rfl⟩
  obtain ⟨D, hD⟩ : ∃ D, rtC s = D := ⟨_, rfl⟩
  rw [hC] at heqC
  rw [hD] at heqD
  have HC := Lib.hid hC
  have HD := Lib.hid hD
  have vsC : (Try.prog.info? 24).map (·.size) = some C.size := by rw [← hC]; exact rt_size
  have vsD : (Try.prog.info? 24).map (·.size) = some D.size := by rw [← hD]; exact rt_size
  have voC : C.all (·.oneCell') = true := by rw [← hC]; exact rtC_one _
  have voD : D.all (·.oneCell') = true := by rw [← hD]; exact rtC_one _
  have hNC : N.size = C.size := by rw [HNS.out, ← hC]; rfl
  have hND : N.size = D.size := by rw [HNS.out, ← hD]; rfl
  have hCD : C.size = D.size := hNC.symm.trans hND
  have HC0 : Hid (C[0]? = some (.int .u64 (r.seq : Nat))) := by unfold Hid; rw [← hC]; rfl
  have HD0 : Hid (D[0]? = some (.int .u64 (s.seq : Nat))) := by unfold Hid; rw [← hD]; rfl
  clear hx hb hr hs hE hC hD hB hB' hcase HU HV
  rcases hcase' with ⟨q1, q2, rfl, rfl⟩ | ⟨q1, q2, rfl, rfl⟩ | ⟨q1, q2, rfl, rfl⟩
  all_goals
    simp only [q2] at heqC heqD
    clear q2
    go_enter Try.func15, Try.ntmps15
    go_wp2_with (fail)
    refine HG.out.mono ?_
    rintro e1 w1 ⟨rfl, f1, b1⟩
    have HF1 := Lib.hid f1
    obtain ⟨X, hX⟩ : ∃ X, (w1.alloc (.cells N 24)).setRow w1.heap.size C = X := ⟨_, rfl⟩
    obtain ⟨hxa, hxb⟩ := bxt_stored hX
    have hbx := b1.trans (hxb.mono b1.size)
    have HXA := Lib.hid hxa
    have HBX := Lib.hid (HB.out.trans (hbx.mono HB.out.size))
    have HRX : Hid (Rw X w.heap.size 24 N) := HR.out.below hbx HVZ.out
    have HGX := Lib.hid (HG'.out X hbx)
    have HXZ : Hid (w.heap.size < X.heap.size) := HRX.out.lt
    have HWX : Hid (w.heap.size < w1.heap.size) := Nat.lt_of_lt_of_le HVZ.out b1.size
    rw [HC.out]
    clear hxa hxb hbx b1 f1 HG hV HG'
    go_wp2_with (first
      | (refine wpList_store_row rfl _ _ _ rfl w1.heap.size C rfl rfl 24 N (Rw.new w1 _ _) vsC hNC voC ?_; rw [hX]))
    refine HGX.out.mono ?_
    rintro e2 w2 ⟨rfl, f2, b2⟩
    have HF2 := Lib.hid f2
    obtain ⟨Y, hY⟩ : ∃ X, (w2.alloc (.cells N 24)).setRow w2.heap.size D = X := ⟨_, rfl⟩
    obtain ⟨hya, hyb⟩ := bxt_stored hY
    have hby := b2.trans (hyb.mono b2.size)
    have HYA := Lib.hid hya
    have HXY := Lib.hid (HXA.out.below_ hby (Nat.le_refl _))
    have HBY := Lib.hid (HBX.out.trans (hby.mono HBX.out.size))
    have HRY : Hid (Rw Y w.heap.size 24 N) := HRX.out.below hby HXZ.out
    have d0 := (HXY.out.2.cell 0).trans HC0.out
    have d1 := (HYA.out.2.cell 0).trans HD0.out
    obtain ⟨Z, hZ⟩ : ∃ Z, Y.setRow w1.heap.size D = Z := ⟨_, rfl⟩
    have HZX : Hid (Rw Z w1.heap.size 24 D) := by unfold Hid; rw [← hZ]; exact HXY.out.2.row D
    have HZR : Hid (Rw Z w.heap.size 24 N) := by unfold Hid; rw [← hZ]; exact HRY.out.rowOther (by have := HWX.out; omega) _
    have HZB : Hid (Below w.heap.size w Z) := by unfold Hid; rw [← hZ]; exact below_setRow HBY.out (Nat.le_of_lt HWX.out) _
    rw [HD.out]
    clear hya hyb hby b2 f2 HGX hX HXA HBX HRX
    go_wp2_with (first
      | (refine wpList_build_atT rfl 24 _ rfl N hb0 ?_)
      | (refine wpList_store_row rfl _ _ _ rfl w2.heap.size D rfl rfl 24 N (Rw.new w2 _ _) vsD hND voD ?_; rw [hY])
      | (refine wpList_load_row rfl _ _ rfl w1.heap.size rfl 24 C (0, 0) _ HXY.out.2 Try.underlying24 rfl (by rw [vsC]) ?_)
      | (refine wpList_load_row rfl _ _ rfl w2.heap.size rfl 24 D (0, 0) _ HYA.out.2 Try.underlying24 rfl (by rw [vsD]) ?_)
      | (refine wpList_store_row rfl _ _ _ rfl w1.heap.size D rfl rfl 24 C HXY.out.2 vsD hCD voD ?_; rw [hZ])
      | (refine wpList_load_row rfl _ _ rfl w1.heap.size rfl 24 D (0, 0) _ HZX.out Try.underlying24 rfl (by rw [vsD]) ?_)
      | (refine wpList_store_row rfl _ _ _ rfl w.heap.size N rfl rfl 24 _ HRY.out hsz0 rfl hone0 ?_)
      | (refine wpList_store_row rfl _ _ _ rfl w.heap.size C rfl rfl 24 _ HRY.out vsC hNC voC ?_)
      | (refine wpList_store_row rfl _ _ _ rfl w.heap.size D rfl rfl 24 _ HZR.out vsD hND voD ?_))
  · refine IsRtE.ret (y := Rt.zero) (p := 4) (u1 := 5) (g := w.heap.size) (e := 7) (x := 7) ?_ ?_ ?_ ?_ (by rw [HN0.out]; exact Rw.row HRY.out N) HE.out rfl Rt.fit_zero (below_setRow HBY.out (Nat.le_refl _) _)
    all_goals rfl
  · refine IsRtE.ret (p := 4) (u1 := 5) (g := w.heap.size) (e := 0) (x := 0) ?_ ?_ ?_ ?_ (by rw [HC.out]; exact Rw.row HRY.out C) HE.out rfl HF1.out (below_setRow HBY.out (Nat.le_refl _) _)
    all_goals rfl
  · refine IsRtE.ret (p := 4) (u1 := 5) (g := w.heap.size) (e := 0) (x := 0) ?_ ?_ ?_ ?_ (by rw [HD.out]; exact Rw.row HZR.out D) HE.out rfl HF2.out (below_setRow HZB.out (Nat.le_refl _) _)
    all_goals rfl
end Go.Proofs.Ytoefogmjekcbeaa

namespace Go.Proofs.Ytoefogmjekcbeaa
open Go.RowKit
set_option linter.unusedVariables false
namespace Pg
/-- A page of one number is none of another one. -/
theorem other {n m k : Nat} {b : List Nat} (hn : n < 65536) (hm : m < 65536) (hne : n ≠ m) (hb : b.length ≤ 496) : getE (n : Nat) (page m k b) = (0, [], 5) := by
  have hl := page_len (n := m) (k := k) hb
  have hsz := page_size (n := m) (k := k) hb
  refine getE_form (by omega) (by omega) (by omega) (by rw [page_take, page_drop]) (by omega) (fun h => hne ?_)
  rw [Int.toNat_natCast] at h
  have h4 := page_at n (List.getD (page m k b) 8 0) (body (page m k b)) (i := 0) (by omega)
  have h5 := page_at n (List.getD (page m k b) 8 0) (body (page m k b)) (i := 1) (by omega)
  rw [h, page_at _ _ _ (by omega)] at h4 h5
  simp only [head] at h4 h5
  simp at h4 h5
  omega
end Pg
namespace Rt
def ex : Root := ⟨5, 7, 9, 3, 4, 0, 20⟩
theorem may_ex : May ex := by decide
theorem ex_other {P : List Nat} (h : putE ex = (P, 0)) : getE 0 P = (zero, 5) := by
  unfold putE at h
  rw [if_pos may_ex] at h
  obtain ⟨-, hP, hb, -, -⟩ := Pg.getE_put h
  have h1 := Pg.other (n := 0) (m := 1) (k := 1) (by omega) (by omega) (by omega) hb
  refine getE_page (k := 0) (c := []) (by omega) ?_ (by omega)
  rw [hP]
  exact h1
end Rt
theorem rt_builtX :
    Try.prog.built 24 [(0, .int .u64 5), (1, .int .i64 7), (2, .int .i64 9), (3, .int .u64 3), (4, .int .u64 4), (6, .int .i64 20)] = some (rtC Rt.ex) := by kernel_rfl
set_option maxRecDepth 100000 in
set_option maxHeartbeats 4000000 in
theorem lives_rt (w : World) : Calls Try.prog 14 #[] w (IsBool true w) := by
  have hz7 := (zero_of_info (n := 7) rt_zero).1
  have HNS : Hid (none7.size = 7) := rfl
  have HZC : Hid (rtC Rt.zero = none7) := rfl
  obtain ⟨N, hN⟩ : ∃ N, none7 = N := ⟨_, rfl⟩
  rw [hN] at hz7 HNS HZC
  clear hN
  have hbt := rt_builtX
  have hfx := Rt.fit_may Rt.may_ex
  obtain ⟨P, -, hput, hget⟩ := Rt.put_page Rt.may_ex
  have hoth := Rt.ex_other hput
  have hget1 : Rt.getE 1 P = (Rt.ex, 0) := hget
  have heq := fun w' => rt_equalIn Rt.ex Rt.ex w'
  obtain ⟨R, hR⟩ : ∃ R, Rt.ex = R := ⟨_, rfl⟩
  have hsq : R.seq % 2 = 1 := by rw [← hR]; rfl
  rw [hR] at hbt hfx hput hget1 heq
  obtain ⟨D, hD⟩ : ∃ D, rtC R = D := ⟨_, rfl⟩
  have vsD : (Try.prog.info? 24).map (·.size) = some D.size := by rw [← hD]; exact rt_size
  have voD : D.all (·.oneCell') = true := by rw [← hD]; exact rtC_one _
  have hND : N.size = D.size := by rw [HNS.out, ← hD]; rfl
  have vsN : (Try.prog.info? 24).map (·.size) = some N.size := by rw [HNS.out]; exact rt_size
  have voN : N.all (·.oneCell') = true := by rw [← HZC.out]; exact rtC_one _
  rw [hD] at hbt heq
  simp only [decide_true] at heq
  obtain ⟨X, hX⟩ : ∃ X, (w.alloc (.cells N 24)).setRow w.heap.size D = X := ⟨_, rfl⟩
  obtain ⟨hxa, hxb⟩ := bxt_stored hX
  have HXA := Lib.hid hxa
  have HBX := Lib.hid hxb
  have HP := Lib.hid (prtput_any R X hfx)
  rw [hput, hD] at HP
  have HDD := Lib.hid hD
  have HFX := Lib.hid hfx
  have HG1 := Lib.hid hget1
  have HG0 := Lib.hid hoth
  have HSQ := Lib.hid hsq
  clear hxa hxb hget hget1 hoth hput hR hD hfx hsq
  go_enter Try.func14, Try.ntmps14
  go_wp2_with (first
    | (refine wpList_build_atT rfl 24 _ rfl D (by simp only [List.map_toArray]; exact hbt) ?_)
    | (refine wpList_store_row rfl _ _ _ rfl w.heap.size D rfl rfl 24 N (Rw.new w _ _) vsD hND voD ?_; rw [hX])
    | (refine wpList_load_row rfl _ _ rfl w.heap.size rfl 24 D (0, 0) _ HXA.out.2 Try.underlying24 rfl (by rw [vsD]) ?_))
  refine HP.out.mono ?_
  rintro e w1 ⟨A1, c1, rfl, o1, b1⟩
  have HB1 := Lib.hid (HBX.out.trans (b1.mono HBX.out.size))
  have HX1 := Lib.hid ((HXA.out.below_ b1 (Nat.le_refl _)).mono_ b1.size)
  have HF1 := Lib.hid o1.form_
  have HG := Lib.hid (prtget_any 1 _ P w1.heap.size w1 HF1.out (Nat.le_refl _))
  rw [HG1.out] at HG
  clear HP o1 b1 hX HBX HXA hbt
  go_wp2_with (fail)
  refine HG.out.mono ?_
  rintro e w2 ⟨rfl, f2, b2⟩
  obtain ⟨Y, hY⟩ : ∃ X, (w2.alloc (.cells N 24)).setRow w2.heap.size D = X := ⟨_, rfl⟩
  obtain ⟨hya, hyb⟩ := bxt_stored hY
  have hby := b2.trans (hyb.mono b2.size)
  have HYA := Lib.hid hya
  have HB2 := Lib.hid (HB1.out.trans (hby.mono HB1.out.size))
  have HX2 := Lib.hid ((HX1.out.below_ hby (Nat.le_refl _)).mono_ hby.size)
  have HF2 := Lib.hid (HF1.out.below_ hby (Nat.le_refl _))
  have HH := Lib.hid (prtget_any 0 _ P w1.heap.size Y HF2.out hby.size)
  rw [HG0.out] at HH
  rw [HDD.out]
  clear HG b2 hya hyb hby f2 HF1 HX1 HB1
  go_wp2_with (first
    | (refine wpList_store_row rfl _ _ _ rfl w2.heap.size D rfl rfl 24 N (Rw.new w2 _ _) vsD hND voD ?_; rw [hY]))
  refine HH.out.mono ?_
  rintro e w3 ⟨rfl, f3, b3⟩
  obtain ⟨Z, hZ⟩ : ∃ X, (w3.alloc (.cells N 24)).setRow w3.heap.size N = X := ⟨_, rfl⟩
  obtain ⟨hza, hzb⟩ := bxt_stored hZ
  have hbz := b3.trans (hzb.mono b3.size)
  have HB3 := Lib.hid (HB2.out.trans (hbz.mono HB2.out.size))
  have HX3 := Lib.hid ((HX2.out.below_ hbz (Nat.le_refl _)).mono_ hbz.size)
  have HY3 := Lib.hid ((HYA.out.below_ hbz (Nat.le_refl _)).mono_ hbz.size)
  have HPL := Lib.hid (prtplace_any R Z HFX.out)
  rw [HDD.out, HSQ.out] at HPL
  rw [HZC.out]
  clear HH b3 hza hzb hbz f3 HF2 HX2 HYA HB2 hY
  go_wp2_with (first
    | (refine wpList_store_row rfl _ _ _ rfl w3.heap.size N rfl rfl 24 N (Rw.new w3 _ _) vsN rfl voN ?_; rw [hZ])
    | (refine wpList_load_row_onT (by rfl) _ _ rfl w2.heap.size rfl 24 D (0, 0) _ HY3.out.2 Try.underlying24 rfl (by rw [vsD]) ?_)
    | (refine wpList_load_row_onT (by rfl) _ _ rfl w.heap.size rfl 24 D (0, 0) _ HX3.out.2 Try.underlying24 rfl (by rw [vsD]) ?_))
  refine HPL.out.mono ?_
  rintro e w4 ⟨rfl, b4⟩
  have HB4 := Lib.hid (HB3.out.trans (b4.mono HB3.out.size))
  clear HPL b4 hZ
  go_wp2
  go_ret
  exact ⟨rfl, HB4.out⟩
end Go.Proofs.Ytoefogmjekcbeaa
