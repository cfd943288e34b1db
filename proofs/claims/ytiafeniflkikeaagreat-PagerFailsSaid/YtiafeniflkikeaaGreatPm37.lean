/- Parts of the proof. -/
import Derived.Test.YtiafeniflkikeaaGreatPm17
import Derived.Test.YtiafeniflkikeaaGreatPm11
import Derived.Test.YtiafeniflkikeaaGreatPm03
import Derived.Deep.WholeRow
import Derived.Test.YtiafeniflkikeaaGreatPm21
import Derived.Test.YtiafeniflkikeaaGreatPm05
import Derived.Laws.StructEq
namespace Go.Proofs.YtiafeniflkikeaaGreat
open Go.RowKit
set_option linter.unusedVariables false
theorem ca_size : (Tryz.prog.info? 77).map (·.size) = some 3 := by kernel_rfl
theorem ca_built (n : Int) (H : Nat) : Tryz.prog.built 77 [(0, .int .i64 n), (1, .map (some H))] = some #[.int .i64 n, .map (some H), .int .i64 0] := by kernel_rfl
set_option maxHeartbeats 2000000 in
set_option maxRecDepth 100000 in
theorem pyempty_any (n : Int) (w : World) : Calls Tryz.prog 39 #[.int .i64 n] w (fun e w' => ∃ H, e = .returned (.agg #[.int .i64 n, .map (some H), .int .i64 0]) ∧ IsMp haM w' H 0 (fun _ => none) ∧ w.heap.size ≤ H ∧ Below w.heap.size w w') := by
 have hmk : ∀ (t : TypeId) (w : World), (Instr.makeMap t none).run Tryz.prog w = .ok (.map (some w.heap.size)) (w.alloc (.map #[] 0)) := fun t w => rfl
 have HR0 : Hid (Rw (w.alloc (.cells #[.int .i64 0, .map none, .int .i64 0] 77)) w.heap.size 77 #[.int .i64 0, .map none, .int .i64 0]) := Rw.new w _ _
 have HB0 := Lib.hid ((Below.refl w.heap.size w).alloc (Nat.le_refl _) (.cells #[.int .i64 0, .map none, .int .i64 0] 77))
 obtain ⟨W, hW⟩ : ∃ W, w.alloc (.cells #[.int .i64 0, .map none, .int .i64 0] 77) = W := ⟨_, rfl⟩
 rw [hW] at HR0 HB0
 have HM1 := Lib.hid (IsMp.made haM W)
 have HR1 : Hid (Rw (W.alloc (.map #[] 0)) w.heap.size 77 #[.int .i64 0, .map none, .int .i64 0]) := HR0.out.old _
 have HB1 : Hid (Below w.heap.size w (W.alloc (.map #[] 0))) := HB0.out.alloc HB0.out.size _
 have hbt := ca_built n W.heap.size
 have hct : (Tryz.prog.info? 77).map (·.size) = some (#[.int .i64 n, .map (some W.heap.size), .int .i64 0] : Array Value).size := ca_size
 have hone : (#[.int .i64 n, .map (some W.heap.size), .int .i64 0] : Array Value).all (·.oneCell') = true := by simp [Value.oneCell']
 have hsz : (#[.int .i64 0, .map none, .int .i64 0] : Array Value).size = (#[.int .i64 n, .map (some W.heap.size), .int .i64 0] : Array Value).size := rfl
 have HS := Lib.hid HB0.out.size
 go_enter Tryz.func39, Tryz.ntmps39
 go_wp2_with (first
  | ((with_reducible refine gate_build 77 ?_); refine wpList_build_atT rfl _ _ rfl _ hbt ?_)
  | ((with_reducible refine gate_store 77 ?_); refine wpList_store_row rfl 77 _ _ rfl w.heap.size #[.int .i64 n, .map (some W.heap.size), .int .i64 0] rfl rfl 77 #[.int .i64 0, .map none, .int .i64 0] HR1.out hct hsz hone ?_))
 have HR2 := Lib.hid (Rw.row HR1.out #[.int .i64 n, .map (some W.heap.size), .int .i64 0])
 have HB2 := Lib.hid (below_setRow HB1.out (Nat.le_refl w.heap.size) #[.int .i64 n, .map (some W.heap.size), .int .i64 0])
 have HM2 : Hid (IsMp haM ((W.alloc (.map #[] 0)).setRow w.heap.size #[.int .i64 n, .map (some W.heap.size), .int .i64 0]) W.heap.size 0 (fun _ => none)) := HM1.out.of_block (setRow_other _ _ _ _ (by have := HR0.out.lt; omega))
 generalize (W.alloc (.map #[] 0)).setRow w.heap.size #[.int .i64 n, .map (some W.heap.size), .int .i64 0] = X2 at *
 try go_wp2
 refine bodyPost_ret (v := .agg #[.int .i64 n, .map (some W.heap.size), .int .i64 0]) (results_cell_row rfl _ _ w.heap.size 77 #[.int .i64 n, .map (some W.heap.size), .int .i64 0] (0, 0) _ rfl HR2.out Tryz.underlying77 rfl ca_size) rfl ⟨W.heap.size, rfl, HM2.out, HS.out, HB2.out⟩
end Go.Proofs.YtiafeniflkikeaaGreat
namespace Go.Proofs.YtiafeniflkikeaaGreat
open Go.RowKit
set_option linter.unusedVariables false
structure RtGt (z g : Nat) (N D : Array Value) (v : Value) (b : List Nat) (w0 w : World) : Prop where
 r_ : Rw w z 34 N
 x_ : Rw w g 34 D
 l_ : Lv yK w w.heap.size v b
 b_ : Below z w0 w
theorem RtGt.below {z g : Nat} {N D : Array Value} {v : Value} {b : List Nat} {w0 w w' : World} (h : RtGt z g N D v b w0 w) (hb : Below w.heap.size w w') (hz : w0.heap.size = z) : RtGt z g N D v b w0 w' :=
 ⟨h.r_.below hb h.r_.lt, h.x_.below hb h.x_.lt, (h.l_.below_ hb (Nat.le_refl _)).mono_ hb.size, h.b_.trans (hb.mono (by have := h.b_.size; omega))⟩
theorem Rt.bys_pos {r : Rt.Root} : 0 < (Rt.bys (Rt.nums r)).length := by
 show 0 < (Mt.put _ ++ _).length
 rw [List.length_append]
 have := Mt.put_len_pos r.seq
 omega
theorem Rt.may_pos {c : List Nat} (h : Rt.May (Rt.rootQ c)) : 0 < c.length := by
 rcases c with _ | ⟨x, c⟩
 ·exfalso
  obtain ⟨h1, -⟩ := h
  rw [Rt.rootQ_at rfl rfl rfl rfl rfl rfl] at h1
  have h2 : Rt.qn [] 0 = 0 := by
   unfold Rt.qn
   rcases Mt.get_cases (l := []) (by simp) ((0 : Nat) : Int) with ⟨e, he, -, hg⟩ | ⟨k, n, r, -, hk, -⟩
   ·rw [hg, if_pos (by show e ≠ 0; omega)]
   ·simp at hk
  simp only [h2] at h1
  omega
 ·simp
set_option maxHeartbeats 2000000 in
set_option maxRecDepth 100000 in
theorem prtget_any (place : Int) (v : Value) (b : List Nat) (B : Nat) (w : World) (hv : Lv yK w B v b) (hB : B ≤ w.heap.size) :
  Calls Tryz.prog 80 #[.int .i64 place, v] w (IsRtE (Rt.getE place b) w) := by
 have hz7 := (zero_of_info (n := 7) rt_zero).1
 have hb0 := rt_built0
 have HN0 : Hid (rtC Rt.zero = none7) := rfl
 have hsz0 : (Tryz.prog.info? 34).map (·.size) = some none7.size := rt_size
 have hone0 : none7.all (·.oneCell') = true := rtC_one _
 have HNS : Hid (none7.size = 7) := rfl
 obtain ⟨N, hN⟩ : ∃ N, none7 = N := ⟨_, rfl⟩
 rw [hN] at hz7 hb0 HN0 hsz0 hone0 HNS
 clear hN
 obtain ⟨V, hV⟩ : ∃ V, w.alloc (.cells N 34) = V := ⟨_, rfl⟩
 obtain ⟨hx, hb⟩ := bxt_new hV
 have HR : Hid (Rw V w.heap.size 34 N) := hx.2
 have HB := Lib.hid hb
 have HVZ : Hid (w.heap.size < V.heap.size) := hx.1
 have HBB := Lib.hid hB
 have HV := Lib.hid hv
 obtain ⟨A, c, rfl, k1, k2, -, -, -⟩ := hv
 clear hx hb k1 k2 hB
 by_cases hpl : place ≠ 0 ∧ place ≠ 1
 ·have HE := Lib.hid (Rt.getE_arg (b := b) hpl)
  have hways : place < 0 ∨ (¬ place < 0 ∧ 2 ≤ place) := by omega
  clear hpl
  rcases hways with q0 | ⟨q0, q1⟩
  all_goals
   go_enter Tryz.func80, Tryz.ntmps80
   go_wp2_with (first
    | (refine wpList_build_atT rfl 34 _ rfl N hb0 ?_)
    | (refine wpList_store_row rfl _ _ _ rfl w.heap.size N rfl rfl 34 _ HR.out hsz0 rfl hone0 ?_))
   refine IsRtE.ret (y := Rt.zero) (p := 4) (u1 := 5) (g := w.heap.size) (e := 2) (x := 2) ?_ ?_ ?_ ?_ (by rw [HN0.out]; exact Rw.row HR.out N) HE.out rfl Rt.fit_zero (below_setRow HB.out (Nat.le_refl _) _)
   all_goals rfl
 ·have HPL : Hid (¬ (place ≠ 0 ∧ place ≠ 1)) := hpl
  have hp0 : ¬ place < 0 := by omega
  have hp1 : ¬ 2 ≤ place := by omega
  obtain ⟨⟨k, c', e⟩, hg⟩ : ∃ r, Pg.getE place b = r := ⟨_, rfl⟩
  have HG := Lib.hid (ppgget_any place _ b B V (HV.out.below_ HB.out HBB.out) (Nat.le_trans HBB.out HB.out.size))
  rw [hg] at HG
  have HGE := Lib.hid hg
  clear hg hpl
  by_cases he : e = 0
  ·subst he
   go_enter Tryz.func80, Tryz.ntmps80
   go_wp2_with (fail)
   refine HG.out.mono ?_
   rintro e w1 ⟨A1, c1, rfl, o1, b1⟩
   have hlv1 := o1.form_
   have hc8 : ∀ x ∈ c', x < 256 := fun x hx => hlv1.ok_ x hx
   have HGQ := Lib.hid (Rt.getE_q HPL.out HGE.out hc8)
   have HFT := Lib.hid (Rt.fit_q hc8)
   have HMP : Hid (Rt.May (Rt.rootQ c') → 0 < c'.length) := Rt.may_pos
   have HC1 := Lib.hid hlv1
   have HB1 := Lib.hid (HB.out.trans (b1.mono HB.out.size))
   have HR1 : Hid (Rw w1 w.heap.size 34 N) := HR.out.below b1 HVZ.out
   have HRD := Lib.hid (prtread_any _ c' w1.heap.size w1 hlv1 (Nat.le_refl _))
   obtain ⟨r, hr⟩ : ∃ r, Rt.rootQ c' = r := ⟨_, rfl⟩
   rw [hr] at HGQ HFT HMP HRD
   obtain ⟨D, hD⟩ : ∃ D, rtC r = D := ⟨_, rfl⟩
   have HDD := Lib.hid hD
   rw [hD] at HRD
   have hszD : (Tryz.prog.info? 34).map (·.size) = some D.size := by rw [← hD]; exact rt_size
   have honeD : D.all (·.oneCell') = true := by rw [← hD]; exact rtC_one _
   have hND : N.size = D.size := by rw [HNS.out, ← hD]; rfl
   obtain ⟨m, hm⟩ : ∃ m : Int, ((r.seq % 2 : Nat) : Int) = m := ⟨_, rfl⟩
   rw [hm] at HGQ
   have HMM := Lib.hid hm
   clear HG o1 b1 hV HR hlv1 hc8 hr hD hm HV HB HVZ
   simp only [Int.natCast_zero]
   go_wp2_with fail
   refine HRD.out.mono ?_
   rintro e w2 ⟨rfl, b2⟩
   obtain ⟨X, hX⟩ : ∃ X, (w2.alloc (.cells N 34)).setRow w2.heap.size D = X := ⟨_, rfl⟩
   obtain ⟨hxa, hxb⟩ := bxt_stored hX
   have hbx : Below w1.heap.size w1 X := b2.trans (hxb.mono b2.size)
   have s0 : RtGt w.heap.size w2.heap.size N D (.slice A1 c'.length c1) c' w X := ⟨HR1.out.below hbx HR1.out.lt, hxa.2, (HC1.out.below_ hbx (Nat.le_refl _)).mono_ hbx.size, HB1.out.trans (hbx.mono HB1.out.size)⟩
   have S0 := Lib.hid s0
   clear HRD b2 hxa hxb hbx s0 HR1 HC1 HB1
   by_cases hk : k = 1
   ·subst hk
    have HPP : Hid (∀ w', Calls Tryz.prog 67 #[.agg D] w' (fun e w'' => e = .returned (.int .i64 m) ∧ Below w'.heap.size w' w'')) := fun w' => by
     have := prtplace_any r w' HFT.out
     rwa [HDD.out, HMM.out] at this
    have HMY : Hid (∀ w', Calls Tryz.prog 89 #[.agg D] w' (IsBool (decide (Rt.May r)) w')) := fun w' => by
     have := prtmay_any r w' HFT.out
     rwa [HDD.out] at this
    by_cases hpm : m = place
    ·have q7 : (m != place) = false := by rw [bne_eq_false_iff_eq]; exact hpm
     by_cases hmay : Rt.May r
     ·have HM : Hid (decide (Rt.May r) = true) := decide_eq_true hmay
      rw [HM.out] at HMY
      have HLY : Hid (∀ w', Calls Tryz.prog 91 #[.agg D] w' (IsL1 yK (Rt.bys (Rt.nums r)) w')) := fun w' => by
       have := prtlay_any r w' hmay
       rwa [HDD.out] at this
      have hpos := HMP.out hmay
      have hlp : 0 < (Rt.bys (Rt.nums r)).length := Rt.bys_pos
      obtain ⟨l, hl⟩ : ∃ l, Rt.bys (Rt.nums r) = l := ⟨_, rfl⟩
      rw [hl] at HLY HGQ hlp
      have HEQ : Hid (∀ v w', Lv yK w' w'.heap.size v l → Lv yK w' w'.heap.size (.slice A1 c'.length c1) c' → Calls Tryz.prog 111 #[.slice A1 c'.length c1, v] w' (fun e w'' => e = .returned (.bool (decide (c' = l))) ∧ w'' = w')) := fun v w' h1 h2 => pbequal_any _ v c' l w'.heap.size w' h2 h1 hpos hlp
      obtain ⟨q, hq⟩ : ∃ q, decide (c' = l) = q := ⟨_, rfl⟩
      rw [hq] at HEQ
      have HEE : Hid (Rt.getE place b = if q = true then (r, 0) else (Rt.zero, 5)) := by
       unfold Hid
       rw [HGQ.out, ← hq]
       by_cases h : c' = l
       ·rw [if_pos ⟨rfl, hpm, hmay, h⟩, if_pos (decide_eq_true h)]
       ·rw [if_neg (fun hh => h hh.2.2.2), if_neg (by rw [decide_eq_false h]; simp)]
      have HQ := Lib.hid HEE.out
      clear hpm hmay hpos hlp hl hq HGQ HMP HM
      go_wp2_with (first
       | (refine wpList_store_row rfl _ _ _ rfl w2.heap.size D rfl rfl 34 N (Rw.new w2 _ _) hszD hND honeD ?_; rw [hX])
       | (refine wpList_load_row_onT (by rfl) _ _ rfl w2.heap.size rfl 34 D (0, 0) _ S0.out.x_ Tryz.underlying34 rfl (by rw [hszD]) ?_))
      refine (HPP.out _).mono ?_
      rintro e w3 ⟨rfl, b3⟩
      have S3 := Lib.hid (S0.out.below b3 rfl)
      clear b3 S0 HPP hX
      go_wp2_with (first
       | (refine wpList_load_row_onT (by rfl) _ _ rfl w2.heap.size rfl 34 D (0, 0) _ S3.out.x_ Tryz.underlying34 rfl (by rw [hszD]) ?_))
      refine (HMY.out _).mono ?_
      rintro e w4 ⟨rfl, b4⟩
      have S4 := Lib.hid (S3.out.below b4 rfl)
      clear b4 S3 HMY
      go_wp2_with (first
       | (refine wpList_load_row_onT (by rfl) _ _ rfl w2.heap.size rfl 34 D (0, 0) _ S4.out.x_ Tryz.underlying34 rfl (by rw [hszD]) ?_))
      refine (HLY.out _).mono ?_
      rintro e w5 ⟨A5, c5, rfl, o5, b5⟩
      have S5 := Lib.hid (S4.out.below b5 rfl)
      have HE5 := Lib.hid (HEQ.out _ w5 o5.form_ S5.out.l_)
      clear b5 o5 S4 HLY HEQ
      go_wp2_with fail
      refine HE5.out.mono ?_
      rintro e w6 ⟨rfl, rfl⟩
      clear HE5
      cases q with
      | true =>
       have HE : Hid (Rt.getE place b = (r, 0)) := HEE.out.trans (if_pos rfl)
       go_wp2_with (first
        | (refine wpList_load_row rfl _ _ rfl w2.heap.size rfl 34 D (0, 0) _ S5.out.x_ Tryz.underlying34 rfl (by rw [hszD]) ?_)
        | (refine wpList_store_row rfl _ _ _ rfl w.heap.size D rfl rfl 34 _ S5.out.r_ hszD hND honeD ?_))
       refine IsRtE.ret (y := r) (p := 4) (u1 := 5) (g := w.heap.size) (e := 0) (x := 0) ?_ ?_ ?_ ?_ (by rw [HDD.out]; exact Rw.row S5.out.r_ D) HE.out rfl HFT.out (below_setRow S5.out.b_ (Nat.le_refl _) _)
       all_goals rfl
      | false =>
       have HE : Hid (Rt.getE place b = (Rt.zero, 5)) := HEE.out.trans (if_neg (by simp))
       go_wp2_with (first
        | (refine wpList_build_atT rfl 34 _ rfl N hb0 ?_)
        | (refine wpList_store_row rfl _ _ _ rfl w.heap.size N rfl rfl 34 _ S5.out.r_ hsz0 rfl hone0 ?_))
       refine IsRtE.ret (y := Rt.zero) (p := 4) (u1 := 5) (g := w.heap.size) (e := 5) (x := 5) ?_ ?_ ?_ ?_ (by rw [HN0.out]; exact Rw.row S5.out.r_ N) HE.out rfl Rt.fit_zero (below_setRow S5.out.b_ (Nat.le_refl _) _)
       all_goals rfl
     ·have HM : Hid (decide (Rt.May r) = false) := decide_eq_false hmay
      rw [HM.out] at HMY
      have HE : Hid (Rt.getE place b = (Rt.zero, 5)) := HGQ.out.trans (if_neg (fun h => hmay h.2.2.1))
      clear hpm hmay HGQ HMP HM
      go_wp2_with (first
       | (refine wpList_store_row rfl _ _ _ rfl w2.heap.size D rfl rfl 34 N (Rw.new w2 _ _) hszD hND honeD ?_; rw [hX])
       | (refine wpList_load_row_onT (by rfl) _ _ rfl w2.heap.size rfl 34 D (0, 0) _ S0.out.x_ Tryz.underlying34 rfl (by rw [hszD]) ?_))
      refine (HPP.out _).mono ?_
      rintro e w3 ⟨rfl, b3⟩
      have S3 := Lib.hid (S0.out.below b3 rfl)
      clear b3 S0 HPP hX
      go_wp2_with (first
       | (refine wpList_load_row_onT (by rfl) _ _ rfl w2.heap.size rfl 34 D (0, 0) _ S3.out.x_ Tryz.underlying34 rfl (by rw [hszD]) ?_))
      refine (HMY.out _).mono ?_
      rintro e w4 ⟨rfl, b4⟩
      have S4 := Lib.hid (S3.out.below b4 rfl)
      clear b4 S3 HMY
      go_wp2_with (first
       | (refine wpList_build_atT rfl 34 _ rfl N hb0 ?_)
       | (refine wpList_store_row rfl _ _ _ rfl w.heap.size N rfl rfl 34 _ S4.out.r_ hsz0 rfl hone0 ?_))
      refine IsRtE.ret (y := Rt.zero) (p := 4) (u1 := 5) (g := w.heap.size) (e := 5) (x := 5) ?_ ?_ ?_ ?_ (by rw [HN0.out]; exact Rw.row S4.out.r_ N) HE.out rfl Rt.fit_zero (below_setRow S4.out.b_ (Nat.le_refl _) _)
      all_goals rfl
    ·have q7 : (m != place) = true := by rw [bne_iff_ne]; exact hpm
     have HE : Hid (Rt.getE place b = (Rt.zero, 5)) := HGQ.out.trans (if_neg (fun h => hpm h.2.1))
     clear hpm HGQ HMP HMY
     go_wp2_with (first
      | (refine wpList_store_row rfl _ _ _ rfl w2.heap.size D rfl rfl 34 N (Rw.new w2 _ _) hszD hND honeD ?_; rw [hX])
      | (refine wpList_load_row_onT (by rfl) _ _ rfl w2.heap.size rfl 34 D (0, 0) _ S0.out.x_ Tryz.underlying34 rfl (by rw [hszD]) ?_))
     refine (HPP.out _).mono ?_
     rintro e w3 ⟨rfl, b3⟩
     have S3 := Lib.hid (S0.out.below b3 rfl)
     clear b3 S0 HPP hX
     go_wp2_with (first
      | (refine wpList_build_atT rfl 34 _ rfl N hb0 ?_)
      | (refine wpList_store_row rfl _ _ _ rfl w.heap.size N rfl rfl 34 _ S3.out.r_ hsz0 rfl hone0 ?_))
     refine IsRtE.ret (y := Rt.zero) (p := 4) (u1 := 5) (g := w.heap.size) (e := 5) (x := 5) ?_ ?_ ?_ ?_ (by rw [HN0.out]; exact Rw.row S3.out.r_ N) HE.out rfl Rt.fit_zero (below_setRow S3.out.b_ (Nat.le_refl _) _)
     all_goals rfl
   ·have HE : Hid (Rt.getE place b = (Rt.zero, 5)) := HGQ.out.trans (if_neg (fun h => hk h.1))
    have hq : ((k : Int) != 1) = true := by rw [bne_iff_ne]; omega
    clear hk HGQ HMP
    go_wp2_with (first
     | (refine wpList_store_row rfl _ _ _ rfl w2.heap.size D rfl rfl 34 N (Rw.new w2 _ _) hszD hND honeD ?_; rw [hX])
     | (refine wpList_build_atT rfl 34 _ rfl N hb0 ?_)
     | (refine wpList_store_row rfl _ _ _ rfl w.heap.size N rfl rfl 34 _ S0.out.r_ hsz0 rfl hone0 ?_))
    refine IsRtE.ret (y := Rt.zero) (p := 4) (u1 := 5) (g := w.heap.size) (e := 5) (x := 5) ?_ ?_ ?_ ?_ (by rw [HN0.out]; exact Rw.row S0.out.r_ N) HE.out rfl Rt.fit_zero (below_setRow S0.out.b_ (Nat.le_refl _) _)
    all_goals rfl
  ·have HE := Lib.hid (Rt.getE_page HPL.out HGE.out he)
   have hq : ((e : Int) != 0) = true := by rw [bne_iff_ne]; omega
   go_enter Tryz.func80, Tryz.ntmps80
   go_wp2_with (fail)
   refine HG.out.mono ?_
   rintro e' w1 ⟨A1, c1, rfl, o1, b1⟩
   have HB1 := Lib.hid (HB.out.trans (b1.mono HB.out.size))
   have HR1 : Hid (Rw w1 w.heap.size 34 N) := HR.out.below b1 HVZ.out
   clear HG o1 b1 hV HR
   go_wp2_with (first
    | (refine wpList_build_atT rfl 34 _ rfl N hb0 ?_)
    | (refine wpList_store_row rfl _ _ _ rfl w.heap.size N rfl rfl 34 _ HR1.out hsz0 rfl hone0 ?_))
   refine IsRtE.ret (y := Rt.zero) (p := 4) (u1 := 5) (g := w.heap.size) (e := e) (x := e) ?_ ?_ ?_ ?_ (by rw [HN0.out]; exact Rw.row HR1.out N) HE.out rfl Rt.fit_zero (below_setRow HB1.out (Nat.le_refl _) _)
   all_goals rfl
end Go.Proofs.YtiafeniflkikeaaGreat
namespace Go.Proofs.YtiafeniflkikeaaGreat
open Go.RowKit
set_option linter.unusedVariables false
theorem rt_equalIn (r s : Rt.Root) (w : World) : (Op.equalIn 10000 34 (.agg (rtC r)) (.agg (rtC s))).run Tryz.prog w = .ok (decide (r = s)) w := by
 have hS : Tryz.prog.underlying 34 = some (.struct (Tryz.prog.fieldsOf 34)) := by kernel_rfl
 obtain ⟨a, b, c, d, e, f, g⟩ := r
 obtain ⟨a', b', c', d', e', f', g'⟩ := s
 unfold rtC
 rw [show (10000 : Nat) = 9999 + 1 from rfl, run_equalIn_agg w 9999 _ _ _ hS (by kernel_rfl)]
 simp only [Program.fieldsOf, Tryz.underlying34]
 go_simp
 have ha : ((a : Int) = a') ↔ a = a' := by omega
 have hd : ((d : Int) = d') ↔ d = d' := by omega
 have he : ((e : Int) = e') ↔ e = e' := by omega
 simp only [ha, hd, he]
 by_cases h1 : a = a' <;> by_cases h2 : b = b' <;> by_cases h3 : c = c' <;> by_cases h4 : d = d' <;> by_cases h5 : e = e' <;> by_cases h6 : f = f' <;> by_cases h7 : g = g' <;> simp [h1, h2, h3, h4, h5, h6, h7]
end Go.Proofs.YtiafeniflkikeaaGreat
namespace Go.Proofs.YtiafeniflkikeaaGreat
open Go.RowKit
set_option linter.unusedVariables false
namespace Rt
theorem getE_seq {place : Int} {b : List Nat} {r : Root} (h : getE place b = (r, 0)) : ((r.seq % 2 : Nat) : Int) = place := by
 unfold getE at h
 split at h
 ·simp at h
 ·split at h
  ·rename_i h1 h2; simp only [Prod.mk.injEq] at h; exact absurd h.2 h2
  ·split at h
   ·simp at h
   ·split at h
    ·simp at h
    ·split at h
     ·rename_i h3; simp only [Prod.mk.injEq, and_true] at h; subst h; exact h3.2.2
     ·simp at h
theorem pick_ways (a b : List Nat) : ∃ y k, pickE a b = (y, k) ∧
    ((¬ (getE 0 a).1.seq < (getE 1 b).1.seq ∧ (getE 0 a).1 = zero ∧ y = zero ∧ k = 7) ∨
     (¬ (getE 0 a).1.seq < (getE 1 b).1.seq ∧ (getE 0 a).1 ≠ zero ∧ y = (getE 0 a).1 ∧ k = 0) ∨
     ((getE 0 a).1.seq < (getE 1 b).1.seq ∧ (getE 1 b).1 ≠ zero ∧ y = (getE 1 b).1 ∧ k = 0)) := by
  obtain ⟨⟨r, e⟩, hr⟩ : ∃ x, getE 0 a = x := ⟨_, rfl⟩
  obtain ⟨⟨s, f⟩, hs⟩ : ∃ x, getE 1 b = x := ⟨_, rfl⟩
  have h1 : e ≠ 0 → r = zero := fun h => getE_zero hr h
  have h2 : f ≠ 0 → s = zero := fun h => getE_zero hs h
  have h3 : e = 0 → 1 ≤ r.seq ∧ ((r.seq % 2 : Nat) : Int) = 0 := fun h => by subst h; exact ⟨(getE_may hr).1, getE_seq hr⟩
  have h4 : f = 0 → 1 ≤ s.seq ∧ ((s.seq % 2 : Nat) : Int) = 1 := fun h => by subst h; exact ⟨(getE_may hs).1, getE_seq hs⟩
  have hz : zero.seq = 0 := rfl
  have hnz : ∀ t : Root, 1 ≤ t.seq → t ≠ zero := fun t h e => by rw [e, hz] at h; omega
  unfold pickE
  rw [hr, hs]
  simp only
  by_cases he : e = 0
  · obtain ⟨h5, h6⟩ := h3 he
    by_cases hf : f = 0
    · obtain ⟨h7, h8⟩ := h4 hf
      by_cases hq : s.seq < r.seq
      · exact ⟨r, 0, by rw [if_neg (by omega), if_pos (by omega)], by right; left; exact ⟨by omega, hnz r h5, rfl, rfl⟩⟩
      · exact ⟨s, 0, by rw [if_neg (by omega), if_neg (by omega)], by right; right; exact ⟨by omega, hnz s h7, rfl, rfl⟩⟩
    · have hsz := h2 hf
      exact ⟨r, 0, by rw [if_neg (by omega), if_pos (by omega)], by right; left; exact ⟨by rw [hsz, hz]; omega, hnz r h5, rfl, rfl⟩⟩
  · have hrz := h1 he
    by_cases hf : f = 0
    · obtain ⟨h7, h8⟩ := h4 hf
      exact ⟨s, 0, by rw [if_neg (by omega), if_neg (by omega)], by right; right; exact ⟨by rw [hrz, hz]; omega, hnz s h7, rfl, rfl⟩⟩
    · have hsz := h2 hf
      exact ⟨zero, 7, by rw [if_pos (by omega)], by left; exact ⟨by rw [hrz, hsz, hz]; omega, hrz, rfl, rfl⟩⟩
end Rt
set_option maxHeartbeats 2000000 in
set_option maxRecDepth 100000 in
theorem prtpick_any (u v : Value) (a b : List Nat) (B B' : Nat) (w : World) (hu : Lv yK w B u a) (hv : Lv yK w B' v b) (hB : B ≤ w.heap.size) (hB' : B' ≤ w.heap.size) :
  Calls Tryz.prog 37 #[u, v] w (IsRtE (Rt.pickE a b) w) := by
 have hz7 := (zero_of_info (n := 7) rt_zero).1
 have hb0 := rt_built0
 have HN0 : Hid (rtC Rt.zero = none7) := rfl
 have hsz0 : (Tryz.prog.info? 34).map (·.size) = some none7.size := rt_size
 have hone0 : none7.all (·.oneCell') = true := rtC_one _
 have HNS : Hid (none7.size = 7) := rfl
 obtain ⟨N, hN⟩ : ∃ N, none7 = N := ⟨_, rfl⟩
 rw [hN] at hz7 hb0 HN0 hsz0 hone0 HNS
 clear hN
 obtain ⟨V, hV⟩ : ∃ V, w.alloc (.cells N 34) = V := ⟨_, rfl⟩
 obtain ⟨hx, hb⟩ := bxt_new hV
 have HR : Hid (Rw V w.heap.size 34 N) := hx.2
 have HB := Lib.hid hb
 have HVZ : Hid (w.heap.size < V.heap.size) := hx.1
 have HU := Lib.hid (hu.below_ hb hB)
 have HV := Lib.hid (hv.below_ hb hB')
 have HBB : Hid (B ≤ V.heap.size ∧ B' ≤ V.heap.size) := ⟨Nat.le_trans hB hb.size, Nat.le_trans hB' hb.size⟩
 have HG := Lib.hid (prtget_any 0 u a B V HU.out HBB.out.1)
 have HG' : Hid (∀ w', Below V.heap.size V w' → Calls Tryz.prog 80 #[.int .i64 1, v] w' (IsRtE (Rt.getE 1 b) w')) := fun w' h => prtget_any 1 _ b B' w' (HV.out.below_ h HBB.out.2) (Nat.le_trans HBB.out.2 h.size)
 obtain ⟨y, k, hE, hcase⟩ := Rt.pick_ways a b
 have HE := Lib.hid hE
 obtain ⟨⟨r, e⟩, hr⟩ : ∃ x, Rt.getE 0 a = x := ⟨_, rfl⟩
 obtain ⟨⟨s, f⟩, hs⟩ : ∃ x, Rt.getE 1 b = x := ⟨_, rfl⟩
 rw [hr] at HG hcase
 rw [hs] at HG' hcase
 simp only at hcase
 have hcase' : (¬ ((r.seq : Nat) : Int) < ((s.seq : Nat) : Int) ∧ decide (r = Rt.zero) = true ∧ y = Rt.zero ∧ k = 7) ∨ (¬ ((r.seq : Nat) : Int) < ((s.seq : Nat) : Int) ∧ decide (r = Rt.zero) = false ∧ y = r ∧ k = 0) ∨ (((r.seq : Nat) : Int) < ((s.seq : Nat) : Int) ∧ decide (s = Rt.zero) = false ∧ y = s ∧ k = 0) := by
  rcases hcase with ⟨h1, h2, h3, h4⟩ | ⟨h1, h2, h3, h4⟩ | ⟨h1, h2, h3, h4⟩
  ·exact .inl ⟨by omega, decide_eq_true h2, h3, h4⟩
  ·exact .inr (.inl ⟨by omega, decide_eq_false h2, h3, h4⟩)
  ·exact .inr (.inr ⟨by omega, decide_eq_false h2, h3, h4⟩)
 obtain ⟨A1, c1, rfl, -, -, -, -, -⟩ := hu
 obtain ⟨A2, c2, rfl, -, -, -, -, -⟩ := hv
 have heqC := fun w' => rt_equalIn r Rt.zero w'
 have heqD := fun w' => rt_equalIn s Rt.zero w'
 rw [HN0.out] at heqC heqD
 obtain ⟨C, hC⟩ : ∃ C, rtC r = C := ⟨_, rfl⟩
 obtain ⟨D, hD⟩ : ∃ D, rtC s = D := ⟨_, rfl⟩
 rw [hC] at heqC
 rw [hD] at heqD
 have HC := Lib.hid hC
 have HD := Lib.hid hD
 have vsC : (Tryz.prog.info? 34).map (·.size) = some C.size := by rw [← hC]; exact rt_size
 have vsD : (Tryz.prog.info? 34).map (·.size) = some D.size := by rw [← hD]; exact rt_size
 have voC : C.all (·.oneCell') = true := by rw [← hC]; exact rtC_one _
 have voD : D.all (·.oneCell') = true := by rw [← hD]; exact rtC_one _
 have hNC : N.size = C.size := by rw [HNS.out, ← hC]; rfl
 have hND : N.size = D.size := by rw [HNS.out, ← hD]; rfl
 have hCD : C.size = D.size := hNC.symm.trans hND
 have HC0 : Hid (C[0]? = some (.int .u64 (r.seq : Nat))) := by unfold Hid; rw [← hC]; rfl
 have HD0 : Hid (D[0]? = some (.int .u64 (s.seq : Nat))) := by unfold Hid; rw [← hD]; rfl
 clear hx hb hr hs hE hC hD hB hB' hcase HU HV
 rcases hcase' with ⟨q1, q2, rfl, rfl⟩ | ⟨q1, q2, rfl, rfl⟩ | ⟨q1, q2, rfl, rfl⟩
 all_goals
  simp only [q2] at heqC heqD
  clear q2
  go_enter Tryz.func37, Tryz.ntmps37
  go_wp2_with (fail)
  refine HG.out.mono ?_
  rintro e1 w1 ⟨rfl, f1, b1⟩
  have HF1 := Lib.hid f1
  obtain ⟨X, hX⟩ : ∃ X, (w1.alloc (.cells N 34)).setRow w1.heap.size C = X := ⟨_, rfl⟩
  obtain ⟨hxa, hxb⟩ := bxt_stored hX
  have hbx := b1.trans (hxb.mono b1.size)
  have HXA := Lib.hid hxa
  have HBX := Lib.hid (HB.out.trans (hbx.mono HB.out.size))
  have HRX : Hid (Rw X w.heap.size 34 N) := HR.out.below hbx HVZ.out
  have HGX := Lib.hid (HG'.out X hbx)
  have HXZ : Hid (w.heap.size < X.heap.size) := HRX.out.lt
  have HWX : Hid (w.heap.size < w1.heap.size) := Nat.lt_of_lt_of_le HVZ.out b1.size
  rw [HC.out]
  clear hxa hxb hbx b1 f1 HG hV HG'
  go_wp2_with (first
   | (refine wpList_store_row rfl _ _ _ rfl w1.heap.size C rfl rfl 34 N (Rw.new w1 _ _) vsC hNC voC ?_; rw [hX]))
  refine HGX.out.mono ?_
  rintro e2 w2 ⟨rfl, f2, b2⟩
  have HF2 := Lib.hid f2
  obtain ⟨Y, hY⟩ : ∃ X, (w2.alloc (.cells N 34)).setRow w2.heap.size D = X := ⟨_, rfl⟩
  obtain ⟨hya, hyb⟩ := bxt_stored hY
  have hby := b2.trans (hyb.mono b2.size)
  have HYA := Lib.hid hya
  have HXY := Lib.hid (HXA.out.below_ hby (Nat.le_refl _))
  have HBY := Lib.hid (HBX.out.trans (hby.mono HBX.out.size))
  have HRY : Hid (Rw Y w.heap.size 34 N) := HRX.out.below hby HXZ.out
  have d0 := (HXY.out.2.cell 0).trans HC0.out
  have d1 := (HYA.out.2.cell 0).trans HD0.out
  obtain ⟨Z, hZ⟩ : ∃ Z, Y.setRow w1.heap.size D = Z := ⟨_, rfl⟩
  have HZX : Hid (Rw Z w1.heap.size 34 D) := by unfold Hid; rw [← hZ]; exact HXY.out.2.row D
  have HZR : Hid (Rw Z w.heap.size 34 N) := by unfold Hid; rw [← hZ]; exact HRY.out.rowOther (by have := HWX.out; omega) _
  have HZB : Hid (Below w.heap.size w Z) := by unfold Hid; rw [← hZ]; exact below_setRow HBY.out (Nat.le_of_lt HWX.out) _
  rw [HD.out]
  clear hya hyb hby b2 f2 HGX hX HXA HBX HRX
  go_wp2_with (first
   | (refine wpList_build_atT rfl 34 _ rfl N hb0 ?_)
   | (refine wpList_store_row rfl _ _ _ rfl w2.heap.size D rfl rfl 34 N (Rw.new w2 _ _) vsD hND voD ?_; rw [hY])
   | (refine wpList_load_row rfl _ _ rfl w1.heap.size rfl 34 C (0, 0) _ HXY.out.2 Tryz.underlying34 rfl (by rw [vsC]) ?_)
   | (refine wpList_load_row rfl _ _ rfl w2.heap.size rfl 34 D (0, 0) _ HYA.out.2 Tryz.underlying34 rfl (by rw [vsD]) ?_)
   | (refine wpList_store_row rfl _ _ _ rfl w1.heap.size D rfl rfl 34 C HXY.out.2 vsD hCD voD ?_; rw [hZ])
   | (refine wpList_load_row rfl _ _ rfl w1.heap.size rfl 34 D (0, 0) _ HZX.out Tryz.underlying34 rfl (by rw [vsD]) ?_)
   | (refine wpList_store_row rfl _ _ _ rfl w.heap.size N rfl rfl 34 _ HRY.out hsz0 rfl hone0 ?_)
   | (refine wpList_store_row rfl _ _ _ rfl w.heap.size C rfl rfl 34 _ HRY.out vsC hNC voC ?_)
   | (refine wpList_store_row rfl _ _ _ rfl w.heap.size D rfl rfl 34 _ HZR.out vsD hND voD ?_))
 ·refine IsRtE.ret (y := Rt.zero) (p := 4) (u1 := 5) (g := w.heap.size) (e := 7) (x := 7) ?_ ?_ ?_ ?_ (by rw [HN0.out]; exact Rw.row HRY.out N) HE.out rfl Rt.fit_zero (below_setRow HBY.out (Nat.le_refl _) _)
  all_goals rfl
 ·refine IsRtE.ret (p := 4) (u1 := 5) (g := w.heap.size) (e := 0) (x := 0) ?_ ?_ ?_ ?_ (by rw [HC.out]; exact Rw.row HRY.out C) HE.out rfl HF1.out (below_setRow HBY.out (Nat.le_refl _) _)
  all_goals rfl
 ·refine IsRtE.ret (p := 4) (u1 := 5) (g := w.heap.size) (e := 0) (x := 0) ?_ ?_ ?_ ?_ (by rw [HD.out]; exact Rw.row HZR.out D) HE.out rfl HF2.out (below_setRow HZB.out (Nat.le_refl _) _)
  all_goals rfl
end Go.Proofs.YtiafeniflkikeaaGreat
