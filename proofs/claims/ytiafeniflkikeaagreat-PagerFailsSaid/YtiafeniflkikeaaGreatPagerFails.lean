/-
  PagerFails: wherever the power fails, whatever is kept, a pager opened on what is left tells the last root that was committed, or the one under way, and all its pages. Reach: each slice that comes in has at most 140737488351232 bytes.
-/
import Derived.Test.YtiafeniflkikeaaGreatPm13
import Derived.Test.YtiafeniflkikeaaGreatPm48
import Derived.Test.YtiafeniflkikeaaGreatPm06
namespace Go.Proofs.YtiafeniflkikeaaGreat.pagerFails
open Go.ChangeShapes Go.WideShapes Go.ChangeAt Go.RowKit
set_option linter.unusedVariables false
set_option maxHeartbeats 2000000 in
set_option maxRecDepth 100000 in
theorem walk (w : World) (v0 : Value) (l0 : List Pa.Act) (h0 : Av w w.heap.size v0 l0) (r0 : ∀ o ∈ l0, o.body.length ≤ 140737488351232) (a1 : Int) (u1 : (Lit.int .i64 a1).wf = true) (v2 : Value) (l2 : List Int) (h2 : Lv iK w w.heap.size v2 l2) (r2 : l2.length * 8 ≤ 140737488351232) :
  Calls Tryz.prog 4 #[v0, .int .i64 a1, v2] w (IsBool true w) := by
 obtain ⟨U, hU⟩ : ∃ U, IntKind.u64.wrap a1 = U := ⟨_, rfl⟩
 have hU0 : 0 ≤ U := by rw [← hU, IntKind.wrap_u64]; omega
 obtain ⟨u, rfl⟩ := Int.eq_ofNat_of_zero_le hU0
 obtain ⟨q, hq⟩ : ∃ q, u % 80 = q := ⟨_, rfl⟩
 have hq8 : q < 80 := by omega
 have hqm : (u : Int) % 80 = (q : Int) := by omega
 have hqw : IntKind.i64.wrap (q : Int) = (q : Int) := by rw [IntKind.wrap_i64]; omega
 have hq1 : IntKind.i64.wrap (1 + (q : Int)) = 1 + (q : Int) := by rw [IntKind.wrap_i64]; omega
 have hv0 : ∃ A n c, v0 = .slice A n c := by obtain ⟨us, _, h, _⟩ := h0; obtain ⟨A, c, e, _⟩ := h; exact ⟨A, _, c, e⟩
 obtain ⟨A0, n0, c0, rfl⟩ := hv0
 have hl0 := h0.len_
 subst hl0
 obtain ⟨A2, c2, rfl, hk2⟩ := h2
 have h2 : Lv iK w w.heap.size (.slice A2 l2.length c2) l2 := ⟨A2, c2, rfl, hk2⟩
 have H0 := Lib.hid h0
 have H2 := Lib.hid h2
 have hz := (zero_of_info pa_zero).1
 have hza := (zero_of_info act_zero).1
 have hzr := (zero_of_info (n := 7) rt_zero).1
 obtain ⟨Z, hZ⟩ : ∃ Z, none9 = Z := ⟨_, rfl⟩
 have HZS : Hid (Z.size = 9) := by unfold Hid; rw [← hZ]; rfl
 obtain ⟨ZA, hZA⟩ : ∃ Z, actC ⟨0, 0, false, 0, none, 0, 0, Rt.zero⟩ = Z := ⟨_, rfl⟩
 have HZAS : Hid (ZA.size = 12) := by unfold Hid; rw [← hZA]; rfl
 obtain ⟨ZR, hZR⟩ : ∃ Z, none7 = Z := ⟨_, rfl⟩
 have HZRS : Hid (ZR.size = 7) := by unfold Hid; rw [← hZR]; rfl
 have HPS : Hid (∀ D : Array Value, D.size = 9 → (Tryz.prog.info? 37).map (·.size) = some D.size) := fun D h => by rw [h]; exact pa_size
 rw [hZ] at hz
 rw [hZA] at hza
 rw [hZR] at hzr
 have HMS : Hid ((ByteArray.mk #[105]).size ≤ maxLen) := by unfold Hid; decide +kernel
 have HMD := Lib.hid (pmade_any w)
 clear hZ hZA hZR u1 h0 r0 h2 r2 hk2 hq hU0
 go_enter Tryz.func4, Tryz.ntmps4
 go_wp2_with fail
 refine HMD.out.mono ?_
 rintro e w1 ⟨bf, f1, a, rfl, hD1, hF1, hB1, ha⟩
 have HAM := Lib.hid (parm_any hD1 (1 + (q : Int)) (by unfold I64; omega))
 have harm : Sf.arm (Pp.t2 Pp.made a) (1 + (q : Int)) = (0, { (Pp.t2 Pp.made a) with fuse := (1 + (q : Int)).toNat }) := by
  unfold Sf.arm
  rw [if_neg (by intro h; cases h), if_neg (by omega)]
 rw [harm] at HAM
 have HF1 := Lib.hid hF1
 have HB1 := Lib.hid hB1
 have HA := Lib.hid ha
 clear hD1 hF1 hB1 ha harm HMD hq8
 go_wp2_with fail
 refine HAM.out.mono ?_
 rintro e w2 ⟨rfl, f2, hD2, hN2, hT2⟩
 have hop := Pp.open_made (Pp.t3_get Pp.made a (1 + (q : Int)).toNat) rfl 2 (by omega) (by omega)
 obtain ⟨t2, ht2⟩ : ∃ t, ({ (Pp.t2 Pp.made a) with fuse := (1 + (q : Int)).toNat } : Sf.St) = t := ⟨_, rfl⟩
 have hfine : Pp.Fine ⟨⟨#[105]⟩, Pa.new.root, 2, [], 0⟩ Pp.made t2 0 Pa.new Pa.new 0 := by rw [← ht2]; exact Pp.fine_made a _
 have hac2 : t2.acts ≤ 1000 := by rw [← ht2]; have := HA.out; show a ≤ _; omega
 rw [ht2] at hop
 have hD2 : PDisk w2 f2 t2 bf := by rw [← ht2]; exact hD2
 have HOP := Lib.hid (ppopen_some ⟨#[105]⟩ 2 hD2 (by decide +kernel) (by unfold I64; omega) _ hop)
 have hgt : Sf.get t2 ⟨#[105]⟩ = (0, 0) := by rw [← ht2]; exact Pp.t3_get _ _ _
 have hfl : Sf.now (Sf.fileAt t2 0) = Pp.made := by rw [← ht2]; rfl
 rw [hgt, hfl] at HOP
 have HD2 := Lib.hid hD2
 have HFN := Lib.hid hfine
 have HAC := Lib.hid hac2
 have HF2 : Hid (f2.From w.heap.size) := hN2.from_ HF1.out HB1.out.size
 have HB2 : Hid (Below w.heap.size w w2) := HB1.out.trans (hT2.below HB1.out.size (fun q hq => HF1.out q (.inl hq)))
 clear hop ht2 hfine hac2 hD2 hgt hfl hN2 hT2 HAM HA HF1 HB1 hU hqm hqw hq1
 go_wp2_with fail
 refine HOP.out.mono ?_
 rintro e w3 ⟨b3, b, f3, rfl, hP3, hfr3⟩
 have HP3 := Lib.hid hP3
 have HD3 := Lib.hid (pdisk_law.below HD2.out b3)
 have HB3 : Hid (Below w.heap.size w w3) := HB2.out.trans (b3.mono HB2.out.size)
 have HS3 := Lib.hid b3.size
 have HF3 : Hid (f3.From w2.heap.size) := hfr3
 have HNW := Lib.hid (rpanew_any (fun _ => False) w3)
 clear hP3 hfr3 b3 HOP
 go_wp2_with fail
 refine HNW.out.mono ?_
 rintro e w4 ⟨v4, rfl, hv4, b4⟩
 have hv9 : ∃ D : Array Value, v4 = .agg D ∧ D.size = 9 := by obtain ⟨A, c, e, _⟩ := hv4; exact ⟨_, e, rfl⟩
 obtain ⟨D4, rfl, hD9⟩ := hv9
 have HSD := Lib.hid (HPS.out D4 hD9)
 have HZD : Hid (Z.size = D4.size) := by unfold Hid; rw [HZS.out, hD9]
 have HOD : Hid (D4.all (·.oneCell') = true) := by obtain ⟨A, c, e, _⟩ := hv4; unfold Hid; rw [Value.agg.inj e]; exact paC_one _ _ _ _ _
 obtain ⟨X, hX⟩ : ∃ X, (w4.alloc (.cells Z 37)).setRow w4.heap.size D4 = X := ⟨_, rfl⟩
 obtain ⟨hxa, hxb⟩ := bxt_stored hX
 have HRX : Hid (Rw X w4.heap.size 37 D4) := hxa.2
 have HXB := Lib.hid hxb
 have HV4 := Lib.hid hv4
 have HB4 := Lib.hid b4
 go_wp2_with (first
  | (refine wpList_store_row rfl _ _ _ rfl w4.heap.size D4 rfl rfl 37 Z (Rw.new w4 _ _) HSD.out HZD.out HOD.out ?_; rw [hX]))
 have HRD : Hid (∀ w', Below X.heap.size X w' → Rw w' w4.heap.size 37 D4) := fun w' h => HRX.out.below h HRX.out.lt
 have hS0 : Below X.heap.size X X.drew := (Below.refl _ _).drew
 obtain ⟨z, hzX⟩ : ∃ z, X.heap.size = z := ⟨_, rfl⟩
 have HZX := Lib.hid hzX
 obtain ⟨V1, hV1⟩ : ∃ V, (X.alloc (.cells Z 37)).drew = V := ⟨_, rfl⟩
 obtain ⟨V, hV⟩ : ∃ V', V1.alloc (.cells Z 37) = V' := ⟨_, rfl⟩
 have hV1s : V1.heap.size = z + 1 := by rw [← hV1, ← hzX]; simp
 have hbV1 : Below X.heap.size X V1 := by rw [← hV1]; exact ((Below.refl X.heap.size X).alloc (Nat.le_refl _) _).drew
 have hbV : Below X.heap.size X V := by rw [← hV]; exact hbV1.alloc (by omega) _
 have hVa : Rw V z 37 Z := by rw [← hV]; exact (show Rw V1 z 37 Z by rw [← hV1, ← hzX]; exact (Rw.at_ rfl _ _).drew).old _
 have hVb : Rw V (z + 1) 37 Z := by rw [← hV]; exact Rw.at_ hV1s.symm _ _
 have HVA := Lib.hid hVa
 have HVB := Lib.hid hVb
 have HBV := Lib.hid hbV
 have HBV1 := Lib.hid hbV1
 have HV1S := Lib.hid hV1s
 have HVE1 := Lib.hid hV1
 have HVE := Lib.hid hV
 have hdz : X.drew.heap.size = z := hzX
 clear hX hxa hxb hV1 hV hV1s hbV1 hbV hVa hVb hzX
 refine wp_region_held_drew (S := fun w' => Below X.heap.size X w') (by kernel_rfl) hS0 (fun hH => ?_)
 refine zH (i := 0) (v := .agg D4) rfl (by kernel_rfl) (fun _ _ _ h => h) (Or.inl ⟨by rfl, fun w' hSw => exec_load_row _ _ rfl w4.heap.size rfl 37 D4 (0, 0) _ w' (HRD.out w' hSw) Tryz.underlying37 rfl HSD.out⟩) hH ?_
 try simp only [Act.put, zA, zC, zD, zE, zF]
 refine zH (i := 1) (v := .agg D4) rfl (by kernel_rfl) (fun _ _ _ h => h) (Or.inl ⟨by rfl, fun w' hSw => exec_load_row _ _ rfl w4.heap.size rfl 37 D4 (0, 0) _ w' (HRD.out w' hSw) Tryz.underlying37 rfl HSD.out⟩) hH ?_
 try simp only [Act.put, zA, zB, zC, zD, zE, zF]
 refine wpAnyH_ready (rs := [2, 3]) (by kernel_rfl) (by simp) ?_
 refine AllReadyH.cons rfl (fun K hK => ?_) (AllReadyH.cons rfl (fun K hK => ?_) AllReadyH.nil)
 go_simp
 rw [HVE1.out]
 refine hK.out _ _ HBV1.out (fun hH => ?_)
 clear hK K
 try simp only [Act.put, zA, zB, zC, zD, zE, zF]
 refine wpAnyH_ready (rs := [3]) (by kernel_rfl) (by simp) ?_
 refine AllReadyH.cons rfl (fun K hK => ?_) AllReadyH.nil
 go_simp
 rw [HVE.out, HV1S.out]
 refine hK.out _ _ HBV.out (fun hH => ?_)
 clear hK K
 try simp only [Act.put, zA, zB, zC, zD, zE, zF]
 refine wpAnyH_ready (rs := [4]) (by kernel_rfl) (by simp) ?_
 refine AllReadyH.cons rfl (fun K hK => ?_) AllReadyH.nil
 rw [if_pos (by rfl)]
 refine wp_store_row 37 (.tmp 11) (.tmp 42) rfl z D4 rfl rfl 37 Z HVA.out HSD.out HZD.out HOD.out ?_
 have hb2 : Below X.heap.size X (V.setRow z D4) := below_setRow HBV.out (by have := HZX.out; omega) _
 refine hK.out _ _ hb2 (fun hH => ?_)
 clear hK K
 try simp only [Act.put, zA, zB, zC]
 refine wpAnyH_ready (rs := [5]) (by kernel_rfl) (by simp) ?_
 refine AllReadyH.cons rfl (fun K hK => ?_) AllReadyH.nil
 rw [if_pos (by rfl)]
 refine wp_store_row 37 (.tmp 12) (.tmp 43) rfl (z + 1) D4 rfl rfl 37 Z ((HVB.out).rowOther (by omega) _) HSD.out HZD.out HOD.out ?_
 have hb3 : Below X.heap.size X ((V.setRow z D4).setRow (z + 1) D4) := below_setRow hb2 (by have := HZX.out; omega) _
 refine hK.out _ _ hb3 (fun hH => ?_)
 clear hK K
 try simp only [Act.put, zA, zB, zC]
 refine wpAnyH_done (by kernel_rfl) ?_ _
 clear hH hb2
 have HY3 : Hid (Below X.heap.size X ((V.setRow z D4).setRow (z + 1) D4)) := hb3
 have HY1 : Hid (Rw ((V.setRow z D4).setRow (z + 1) D4) z 37 D4) := (Rw.row HVA.out D4).rowOther (by omega) _
 have HY2 : Hid (Rw ((V.setRow z D4).setRow (z + 1) D4) (z + 1) 37 D4) := Rw.row ((HVB.out).rowOther (by omega) _) D4
 generalize (V.setRow z D4).setRow (z + 1) D4 = Y at *
 obtain ⟨g3, hgb⟩ : ∃ g, (z + 1) = g := ⟨_, rfl⟩
 simp only [hgb] at HY2 ⊢
 obtain ⟨g2, hga⟩ : ∃ g, z = g := ⟨_, rfl⟩
 have HGG : Hid (z ≤ g2 ∧ z ≤ g3 ∧ g2 ≠ g3) := by unfold Hid; omega
 simp only [hga] at HY1 ⊢
 clear hb3 hga hgb
 rotate_left
 go_simp
 rw [HVE1.out]
 refine hK.out _ _ HBV1.out (fun hH => ?_)
 clear hK K
 try simp only [Act.put, zA, zB, zC, zD, zE, zF]
 refine wpAnyH_ready (rs := [2]) (by kernel_rfl) (by simp) ?_
 refine AllReadyH.cons rfl (fun K hK => ?_) AllReadyH.nil
 go_simp
 rw [HVE.out, HV1S.out]
 refine hK.out _ _ HBV.out (fun hH => ?_)
 clear hK K
 try simp only [Act.put, zA, zB, zC, zD, zE, zF]
 refine wpAnyH_ready (rs := [4]) (by kernel_rfl) (by simp) ?_
 refine AllReadyH.cons rfl (fun K hK => ?_) AllReadyH.nil
 rw [if_pos (by rfl)]
 refine wp_store_row 37 (.tmp 11) (.tmp 42) rfl (z + 1) D4 rfl rfl 37 Z HVB.out HSD.out HZD.out HOD.out ?_
 have hb2 : Below X.heap.size X (V.setRow (z + 1) D4) := below_setRow HBV.out (by have := HZX.out; omega) _
 refine hK.out _ _ hb2 (fun hH => ?_)
 clear hK K
 try simp only [Act.put, zA, zB, zC]
 refine wpAnyH_ready (rs := [5]) (by kernel_rfl) (by simp) ?_
 refine AllReadyH.cons rfl (fun K hK => ?_) AllReadyH.nil
 rw [if_pos (by rfl)]
 refine wp_store_row 37 (.tmp 12) (.tmp 43) rfl z D4 rfl rfl 37 Z ((HVA.out).rowOther (by omega) _) HSD.out HZD.out HOD.out ?_
 have hb3 : Below X.heap.size X ((V.setRow (z + 1) D4).setRow z D4) := below_setRow hb2 (by have := HZX.out; omega) _
 refine hK.out _ _ hb3 (fun hH => ?_)
 clear hK K
 try simp only [Act.put, zA, zB, zC]
 refine wpAnyH_done (by kernel_rfl) ?_ _
 clear hH hb2
 have HY3 : Hid (Below X.heap.size X ((V.setRow (z + 1) D4).setRow z D4)) := hb3
 have HY1 : Hid (Rw ((V.setRow (z + 1) D4).setRow z D4) (z + 1) 37 D4) := (Rw.row HVB.out D4).rowOther (by omega) _
 have HY2 : Hid (Rw ((V.setRow (z + 1) D4).setRow z D4) z 37 D4) := Rw.row ((HVA.out).rowOther (by omega) _) D4
 generalize (V.setRow (z + 1) D4).setRow z D4 = Y at *
 obtain ⟨g2, hgb⟩ : ∃ g, (z + 1) = g := ⟨_, rfl⟩
 simp only [hgb] at HY1 ⊢
 obtain ⟨g3, hga⟩ : ∃ g, z = g := ⟨_, rfl⟩
 have HGG : Hid (z ≤ g2 ∧ z ≤ g3 ∧ g2 ≠ g3) := by unfold Hid; omega
 simp only [hga] at HY2 ⊢
 clear hb3 hga hgb
 rotate_left
 all_goals
  have hbYX : Below w4.heap.size w4 Y := HXB.out.trans (HY3.out.mono HXB.out.size)
  have hlx := HRX.out.lt
  have hzz := HZX.out
  have hst := Fl.start (g1 := w4.heap.size) (g2 := g2) (g3 := g3) HP3.out HD3.out HF3.out (pdisk_law.lt HD2.out) HS3.out HV4.out HB4.out hbYX (Nat.le_refl _) (by have := HGG.out; omega) (by have := HGG.out; omega) (by have := HGG.out; omega) (HRD.out Y HY3.out) HY1.out HY2.out (by simp [Pa.new]) (HF3.out.mono HB2.out.size) HF2.out
  have hWY : Below w.heap.size w Y := (HB3.out.trans (HB4.out.mono HB3.out.size)).trans (hbYX.mono (Nat.le_trans HB3.out.size HB4.out.size))
  have HGW : Hid (w.heap.size ≤ w4.heap.size ∧ w.heap.size ≤ g2 ∧ w.heap.size ≤ g3) := by
   have := HB3.out.size
   have := HB4.out.size
   have := HGG.out
   refine ⟨?_, ?_, ?_⟩ <;> omega
  obtain ⟨g1, hg1⟩ : ∃ g, w4.heap.size = g := ⟨_, rfl⟩
  have HST := Lib.hid hst
  have HWY := Lib.hid hWY
  rw [hg1] at HST HGW ⊢
  clear hbYX hlx hzz hst hWY hdz hS0 HRX HRD HXB HV4 HB4 HP3 HD3 HS3 HF3 HNW HD2 HB2 HB3 HF2 HY1 HY2 HY3 HZX HVA HVB HBV HBV1 HV1S HVE1 HVE HGG HSD HZD HOD b4 hv4 hD9 hg1 hD2
  go_wp2
  go_loopw [13] (fun i wr => ∃ (k : Nat) (fp fd : Fp) (s : Pp.S) (F : List Nat) (t : Sf.St) (R : Nat → Prop) (D1 D2 D3 : Array Value) (m sure under : Pa.M), k ≤ 30 ∧ i = .int .i64 (k : Nat) ∧ Hid (FlB g1 g2 g3 R D1 D2 D3 m sure under wr) ∧ Hid (PDisk wr fd t bf) ∧ Hid (t.acts ≤ 1000 + 200000 * k) ∧
    Hid ((t.dead = false ∧ FlP g1 g2 g3 R w.heap.size fp fd s F t b bf wr ∧ Pp.Fine s F t 0 sure m k ∧ s.name = ⟨#[105]⟩) ∨ (t.dead = true ∧ Pp.Ends t ⟨#[105]⟩ 0 sure under)) ∧ Hid (Below w.heap.size w wr)) (fun i _ => 30 - (intOf i).toNat)
  case atStart => exact ⟨0, f3, f2, _, _, t2, _, D4, D4, D4, _, _, _, by omega, rfl, HST.out.1, HST.out.2.dk, by have := HAC.out; unfold Hid; omega, .inl ⟨HFN.out.dead, HST.out.2, HFN.out, rfl⟩, HWY.out⟩
  case round =>
   obtain ⟨k, fp, fd, s, F, t, R, D1, D2, D3, m, sure, under, hk, rfl, HFB, HDK, HAC, HCS, HB⟩ := hrel
   clear HST HFN HWY
   have wk : IntKind.i64.wrap ((k : Int) + 1) = (k : Int) + 1 := by rw [IntKind.wrap_i64]; omega
   by_cases hlt : k < l0.length
   rotate_left
   ·have j1 : ¬ (k : Int) < (l0.length : Int) := by omega
    have HE : Hid (Pp.Ends t ⟨#[105]⟩ 0 sure under) := by
     rcases HCS.out with ⟨_, _, h, h'⟩ | ⟨_, h⟩
     ·rw [← h']; exact h.ends under
     ·exact h
    clear HCS wk hk hlt HAC
    have hh2 := H2.out.below_ HB.out (Nat.le_refl _)
    have HFA := Lib.hid (pfail_any HDK.out _ w.heap.size l2 hh2 HB.out.size)
    clear hh2
    go_wp2_with fail
    refine HFA.out.mono ?_
    rintro e y1 ⟨bg, fg, rfl, hDg, hFg, by1⟩
    have HB1 : Hid (Below w.heap.size w y1) := HB.out.trans (by1.mono HB.out.size)
    have HFB1 := Lib.hid (HFB.out.below by1)
    have HDK1 := Lib.hid (pdisk_law.below HDK.out by1)
    have HDG := Lib.hid hDg
    have hh2 := H2.out.below_ HB1.out (Nat.le_refl _)
    have HFA2 := Lib.hid (pfail_any HDK1.out _ w.heap.size l2 hh2 HB1.out.size)
    clear hh2 hDg hFg by1 HFA HDK HFB
    go_wp2_with fail
    refine HFA2.out.mono ?_
    rintro e y2 ⟨bh, fh, rfl, hDh, hFh, by2⟩
    have HB2 : Hid (Below w.heap.size w y2) := HB1.out.trans (by2.mono HB1.out.size)
    have HFB2 := Lib.hid (HFB1.out.below by2)
    have HDG2 := Lib.hid (pdisk_law.below HDG.out by2)
    have HDH := Lib.hid hDh
    clear hDh hFh by2 HFA2 HDK1 HFB1 HDG
    obtain ⟨ix, xx, hgx, hxx, hdd, hlen, hTT⟩ := HE.out.left l2
    have HX2 : Hid (Sf.get (Sf.fail t l2) ⟨#[105]⟩ = (ix, 0) ∧ Sf.now (Sf.fileAt (Sf.fail t l2) ix) = xx ∧ (Sf.fail t l2).dead = false ∧ 1024 ≤ xx.length) := ⟨hgx, hxx, hdd, hlen⟩
    clear hgx hxx hdd hlen HE
    obtain ⟨hds2, hds3⟩ : D2.size = 9 ∧ D3.size = 9 := by
     obtain ⟨A, c, e, _⟩ := HFB2.out.p2
     obtain ⟨A', c', e', _⟩ := HFB2.out.p3
     exact ⟨by rw [Value.agg.inj e]; rfl, by rw [Value.agg.inj e']; rfl⟩
    have HSD2 := Lib.hid (HPS.out D2 hds2)
    have HSD3 := Lib.hid (HPS.out D3 hds3)
    clear hds2 hds3
    rcases hTT with hTT | ⟨hTT, hne⟩
    ·have HTD := Lib.hid (ptold_any HDG2.out R (.agg D2) sure HFB2.out.p2 HFB2.out.old HFB2.out.few.2.1 ⟨⟨#[105]⟩, sure.root, 3, [], 0⟩ (Pp.open_left HX2.out.1 HX2.out.2.1 HX2.out.2.2.2 hTT.told) rfl rfl ix xx HX2.out.2.2.1 HX2.out.1 HX2.out.2.1 (.inr ⟨rfl, hTT⟩))
     rw [decide_eq_true rfl] at HTD
     clear hTT
     go_wp2_with (first
      | (refine wpList_load_row rfl _ _ rfl g2 rfl 37 D2 (0, 0) _ HFB2.out.b2 Tryz.underlying37 rfl HSD2.out ?_))
     refine HTD.out.mono ?_
     rintro e y3 ⟨rfl, by3⟩
     have HB3 : Hid (Below w.heap.size w y3) := HB2.out.trans (by3.mono HB2.out.size)
     have HL := Lib.hid (plives_any y3)
     clear by3 HTD
     go_wp2_with fail
     refine HL.out.mono ?_
     rintro e y4 ⟨rfl, by4⟩
     have HB4 : Hid (Below w.heap.size w y4) := HB3.out.trans (by4.mono HB3.out.size)
     clear by4 HL
     go_wp2
     go_ret
     exact ⟨rfl, HB4.out⟩
    ·have HTD := Lib.hid (ptold_any HDG2.out R (.agg D2) sure HFB2.out.p2 HFB2.out.old HFB2.out.few.2.1 ⟨⟨#[105]⟩, under.root, 3, [], 0⟩ (Pp.open_left HX2.out.1 HX2.out.2.1 HX2.out.2.2.2 hTT.told) rfl rfl ix xx HX2.out.2.2.1 HX2.out.1 HX2.out.2.1 (.inl hne))
     rw [decide_eq_false hne] at HTD
     have HTT := Lib.hid hTT
     clear hTT hne
     go_wp2_with (first
      | (refine wpList_load_row rfl _ _ rfl g2 rfl 37 D2 (0, 0) _ HFB2.out.b2 Tryz.underlying37 rfl HSD2.out ?_))
     refine HTD.out.mono ?_
     rintro e y3 ⟨rfl, by3⟩
     have HB3 : Hid (Below w.heap.size w y3) := HB2.out.trans (by3.mono HB2.out.size)
     have HFB3 := Lib.hid (HFB2.out.below by3)
     have HTD3 := Lib.hid (ptold_any (pdisk_law.below HDH.out by3) R (.agg D3) under HFB3.out.p3 HFB3.out.old HFB3.out.few.2.2 ⟨⟨#[105]⟩, under.root, 3, [], 0⟩ (Pp.open_left HX2.out.1 HX2.out.2.1 HX2.out.2.2.2 HTT.out.told) rfl rfl ix xx HX2.out.2.2.1 HX2.out.1 HX2.out.2.1 (.inr ⟨rfl, HTT.out⟩))
     rw [decide_eq_true rfl] at HTD3
     clear by3 HTD
     go_wp2_with (first
      | (refine wpList_load_row_onT (by rfl) _ _ rfl g3 rfl 37 D3 (0, 0) _ HFB3.out.b3 Tryz.underlying37 rfl HSD3.out ?_))
     refine HTD3.out.mono ?_
     rintro e y4 ⟨rfl, by4⟩
     have HB4 : Hid (Below w.heap.size w y4) := HB3.out.trans (by4.mono HB3.out.size)
     have HL := Lib.hid (plives_any y4)
     clear by4 HTD3
     go_wp2_with fail
     refine HL.out.mono ?_
     rintro e y5 ⟨rfl, by5⟩
     have HB5 : Hid (Below w.heap.size w y5) := HB4.out.trans (by5.mono HB4.out.size)
     clear by5 HL
     go_wp2
     go_ret
     exact ⟨rfl, HB5.out⟩
   have j1 : (k : Int) < (l0.length : Int) := by omega
   by_cases h30 : k < 30
   rotate_left
   ·have j2 : ¬ (k : Int) < 30 := by omega
    have HE : Hid (Pp.Ends t ⟨#[105]⟩ 0 sure under) := by
     rcases HCS.out with ⟨_, _, h, h'⟩ | ⟨_, h⟩
     ·rw [← h']; exact h.ends under
     ·exact h
    clear HCS wk hk hlt h30 HAC
    have hh2 := H2.out.below_ HB.out (Nat.le_refl _)
    have HFA := Lib.hid (pfail_any HDK.out _ w.heap.size l2 hh2 HB.out.size)
    clear hh2
    go_wp2_with fail
    refine HFA.out.mono ?_
    rintro e y1 ⟨bg, fg, rfl, hDg, hFg, by1⟩
    have HB1 : Hid (Below w.heap.size w y1) := HB.out.trans (by1.mono HB.out.size)
    have HFB1 := Lib.hid (HFB.out.below by1)
    have HDK1 := Lib.hid (pdisk_law.below HDK.out by1)
    have HDG := Lib.hid hDg
    have hh2 := H2.out.below_ HB1.out (Nat.le_refl _)
    have HFA2 := Lib.hid (pfail_any HDK1.out _ w.heap.size l2 hh2 HB1.out.size)
    clear hh2 hDg hFg by1 HFA HDK HFB
    go_wp2_with fail
    refine HFA2.out.mono ?_
    rintro e y2 ⟨bh, fh, rfl, hDh, hFh, by2⟩
    have HB2 : Hid (Below w.heap.size w y2) := HB1.out.trans (by2.mono HB1.out.size)
    have HFB2 := Lib.hid (HFB1.out.below by2)
    have HDG2 := Lib.hid (pdisk_law.below HDG.out by2)
    have HDH := Lib.hid hDh
    clear hDh hFh by2 HFA2 HDK1 HFB1 HDG
    obtain ⟨ix, xx, hgx, hxx, hdd, hlen, hTT⟩ := HE.out.left l2
    have HX2 : Hid (Sf.get (Sf.fail t l2) ⟨#[105]⟩ = (ix, 0) ∧ Sf.now (Sf.fileAt (Sf.fail t l2) ix) = xx ∧ (Sf.fail t l2).dead = false ∧ 1024 ≤ xx.length) := ⟨hgx, hxx, hdd, hlen⟩
    clear hgx hxx hdd hlen HE
    obtain ⟨hds2, hds3⟩ : D2.size = 9 ∧ D3.size = 9 := by
     obtain ⟨A, c, e, _⟩ := HFB2.out.p2
     obtain ⟨A', c', e', _⟩ := HFB2.out.p3
     exact ⟨by rw [Value.agg.inj e]; rfl, by rw [Value.agg.inj e']; rfl⟩
    have HSD2 := Lib.hid (HPS.out D2 hds2)
    have HSD3 := Lib.hid (HPS.out D3 hds3)
    clear hds2 hds3
    rcases hTT with hTT | ⟨hTT, hne⟩
    ·have HTD := Lib.hid (ptold_any HDG2.out R (.agg D2) sure HFB2.out.p2 HFB2.out.old HFB2.out.few.2.1 ⟨⟨#[105]⟩, sure.root, 3, [], 0⟩ (Pp.open_left HX2.out.1 HX2.out.2.1 HX2.out.2.2.2 hTT.told) rfl rfl ix xx HX2.out.2.2.1 HX2.out.1 HX2.out.2.1 (.inr ⟨rfl, hTT⟩))
     rw [decide_eq_true rfl] at HTD
     clear hTT
     go_wp2_with (first
      | (refine wpList_load_row rfl _ _ rfl g2 rfl 37 D2 (0, 0) _ HFB2.out.b2 Tryz.underlying37 rfl HSD2.out ?_))
     refine HTD.out.mono ?_
     rintro e y3 ⟨rfl, by3⟩
     have HB3 : Hid (Below w.heap.size w y3) := HB2.out.trans (by3.mono HB2.out.size)
     have HL := Lib.hid (plives_any y3)
     clear by3 HTD
     go_wp2_with fail
     refine HL.out.mono ?_
     rintro e y4 ⟨rfl, by4⟩
     have HB4 : Hid (Below w.heap.size w y4) := HB3.out.trans (by4.mono HB3.out.size)
     clear by4 HL
     go_wp2
     go_ret
     exact ⟨rfl, HB4.out⟩
    ·have HTD := Lib.hid (ptold_any HDG2.out R (.agg D2) sure HFB2.out.p2 HFB2.out.old HFB2.out.few.2.1 ⟨⟨#[105]⟩, under.root, 3, [], 0⟩ (Pp.open_left HX2.out.1 HX2.out.2.1 HX2.out.2.2.2 hTT.told) rfl rfl ix xx HX2.out.2.2.1 HX2.out.1 HX2.out.2.1 (.inl hne))
     rw [decide_eq_false hne] at HTD
     have HTT := Lib.hid hTT
     clear hTT hne
     go_wp2_with (first
      | (refine wpList_load_row rfl _ _ rfl g2 rfl 37 D2 (0, 0) _ HFB2.out.b2 Tryz.underlying37 rfl HSD2.out ?_))
     refine HTD.out.mono ?_
     rintro e y3 ⟨rfl, by3⟩
     have HB3 : Hid (Below w.heap.size w y3) := HB2.out.trans (by3.mono HB2.out.size)
     have HFB3 := Lib.hid (HFB2.out.below by3)
     have HTD3 := Lib.hid (ptold_any (pdisk_law.below HDH.out by3) R (.agg D3) under HFB3.out.p3 HFB3.out.old HFB3.out.few.2.2 ⟨⟨#[105]⟩, under.root, 3, [], 0⟩ (Pp.open_left HX2.out.1 HX2.out.2.1 HX2.out.2.2.2 HTT.out.told) rfl rfl ix xx HX2.out.2.2.1 HX2.out.1 HX2.out.2.1 (.inr ⟨rfl, HTT.out⟩))
     rw [decide_eq_true rfl] at HTD3
     clear by3 HTD
     go_wp2_with (first
      | (refine wpList_load_row_onT (by rfl) _ _ rfl g3 rfl 37 D3 (0, 0) _ HFB3.out.b3 Tryz.underlying37 rfl HSD3.out ?_))
     refine HTD3.out.mono ?_
     rintro e y4 ⟨rfl, by4⟩
     have HB4 : Hid (Below w.heap.size w y4) := HB3.out.trans (by4.mono HB3.out.size)
     have HL := Lib.hid (plives_any y4)
     clear by4 HTD3
     go_wp2_with fail
     refine HL.out.mono ?_
     rintro e y5 ⟨rfl, by5⟩
     have HB5 : Hid (Below w.heap.size w y5) := HB4.out.trans (by5.mono HB4.out.size)
     clear by5 HL
     go_wp2
     go_ret
     exact ⟨rfl, HB5.out⟩
   have j2 : (k : Int) < 30 := by omega
   have HDD := Lib.hid (pdead_any HDK.out)
   rcases HCS.out with ⟨hd0, hFP, hFI, hnm⟩ | ⟨hd0, hEN⟩
   rotate_left
   ·have HE := Lib.hid hEN
    rw [hd0] at HDD
    clear HCS wk hk hlt h30 HAC hEN hd0
    go_wp2_with fail
    refine HDD.out.mono ?_
    rintro e y0 ⟨rfl, by0⟩
    have HFBo := HFB
    have HFB := Lib.hid (HFBo.out.below by0)
    have HDKo := HDK
    have HDK := Lib.hid (pdisk_law.below HDKo.out by0)
    have HBo := HB
    have HB : Hid (Below w.heap.size w y0) := HBo.out.trans (by0.mono HBo.out.size)
    clear HFBo HDKo HBo HDD by0
    have hh2 := H2.out.below_ HB.out (Nat.le_refl _)
    have HFA := Lib.hid (pfail_any HDK.out _ w.heap.size l2 hh2 HB.out.size)
    clear hh2
    go_wp2_with fail
    refine HFA.out.mono ?_
    rintro e y1 ⟨bg, fg, rfl, hDg, hFg, by1⟩
    have HB1 : Hid (Below w.heap.size w y1) := HB.out.trans (by1.mono HB.out.size)
    have HFB1 := Lib.hid (HFB.out.below by1)
    have HDK1 := Lib.hid (pdisk_law.below HDK.out by1)
    have HDG := Lib.hid hDg
    have hh2 := H2.out.below_ HB1.out (Nat.le_refl _)
    have HFA2 := Lib.hid (pfail_any HDK1.out _ w.heap.size l2 hh2 HB1.out.size)
    clear hh2 hDg hFg by1 HFA HDK HFB
    go_wp2_with fail
    refine HFA2.out.mono ?_
    rintro e y2 ⟨bh, fh, rfl, hDh, hFh, by2⟩
    have HB2 : Hid (Below w.heap.size w y2) := HB1.out.trans (by2.mono HB1.out.size)
    have HFB2 := Lib.hid (HFB1.out.below by2)
    have HDG2 := Lib.hid (pdisk_law.below HDG.out by2)
    have HDH := Lib.hid hDh
    clear hDh hFh by2 HFA2 HDK1 HFB1 HDG
    obtain ⟨ix, xx, hgx, hxx, hdd, hlen, hTT⟩ := HE.out.left l2
    have HX2 : Hid (Sf.get (Sf.fail t l2) ⟨#[105]⟩ = (ix, 0) ∧ Sf.now (Sf.fileAt (Sf.fail t l2) ix) = xx ∧ (Sf.fail t l2).dead = false ∧ 1024 ≤ xx.length) := ⟨hgx, hxx, hdd, hlen⟩
    clear hgx hxx hdd hlen HE
    obtain ⟨hds2, hds3⟩ : D2.size = 9 ∧ D3.size = 9 := by
     obtain ⟨A, c, e, _⟩ := HFB2.out.p2
     obtain ⟨A', c', e', _⟩ := HFB2.out.p3
     exact ⟨by rw [Value.agg.inj e]; rfl, by rw [Value.agg.inj e']; rfl⟩
    have HSD2 := Lib.hid (HPS.out D2 hds2)
    have HSD3 := Lib.hid (HPS.out D3 hds3)
    clear hds2 hds3
    rcases hTT with hTT | ⟨hTT, hne⟩
    ·have HTD := Lib.hid (ptold_any HDG2.out R (.agg D2) sure HFB2.out.p2 HFB2.out.old HFB2.out.few.2.1 ⟨⟨#[105]⟩, sure.root, 3, [], 0⟩ (Pp.open_left HX2.out.1 HX2.out.2.1 HX2.out.2.2.2 hTT.told) rfl rfl ix xx HX2.out.2.2.1 HX2.out.1 HX2.out.2.1 (.inr ⟨rfl, hTT⟩))
     rw [decide_eq_true rfl] at HTD
     clear hTT
     go_wp2_with (first
      | (refine wpList_load_row rfl _ _ rfl g2 rfl 37 D2 (0, 0) _ HFB2.out.b2 Tryz.underlying37 rfl HSD2.out ?_))
     refine HTD.out.mono ?_
     rintro e y3 ⟨rfl, by3⟩
     have HB3 : Hid (Below w.heap.size w y3) := HB2.out.trans (by3.mono HB2.out.size)
     have HL := Lib.hid (plives_any y3)
     clear by3 HTD
     go_wp2_with fail
     refine HL.out.mono ?_
     rintro e y4 ⟨rfl, by4⟩
     have HB4 : Hid (Below w.heap.size w y4) := HB3.out.trans (by4.mono HB3.out.size)
     clear by4 HL
     go_wp2
     go_ret
     exact ⟨rfl, HB4.out⟩
    ·have HTD := Lib.hid (ptold_any HDG2.out R (.agg D2) sure HFB2.out.p2 HFB2.out.old HFB2.out.few.2.1 ⟨⟨#[105]⟩, under.root, 3, [], 0⟩ (Pp.open_left HX2.out.1 HX2.out.2.1 HX2.out.2.2.2 hTT.told) rfl rfl ix xx HX2.out.2.2.1 HX2.out.1 HX2.out.2.1 (.inl hne))
     rw [decide_eq_false hne] at HTD
     have HTT := Lib.hid hTT
     clear hTT hne
     go_wp2_with (first
      | (refine wpList_load_row rfl _ _ rfl g2 rfl 37 D2 (0, 0) _ HFB2.out.b2 Tryz.underlying37 rfl HSD2.out ?_))
     refine HTD.out.mono ?_
     rintro e y3 ⟨rfl, by3⟩
     have HB3 : Hid (Below w.heap.size w y3) := HB2.out.trans (by3.mono HB2.out.size)
     have HFB3 := Lib.hid (HFB2.out.below by3)
     have HTD3 := Lib.hid (ptold_any (pdisk_law.below HDH.out by3) R (.agg D3) under HFB3.out.p3 HFB3.out.old HFB3.out.few.2.2 ⟨⟨#[105]⟩, under.root, 3, [], 0⟩ (Pp.open_left HX2.out.1 HX2.out.2.1 HX2.out.2.2.2 HTT.out.told) rfl rfl ix xx HX2.out.2.2.1 HX2.out.1 HX2.out.2.1 (.inr ⟨rfl, HTT.out⟩))
     rw [decide_eq_true rfl] at HTD3
     clear by3 HTD
     go_wp2_with (first
      | (refine wpList_load_row_onT (by rfl) _ _ rfl g3 rfl 37 D3 (0, 0) _ HFB3.out.b3 Tryz.underlying37 rfl HSD3.out ?_))
     refine HTD3.out.mono ?_
     rintro e y4 ⟨rfl, by4⟩
     have HB4 : Hid (Below w.heap.size w y4) := HB3.out.trans (by4.mono HB3.out.size)
     have HL := Lib.hid (plives_any y4)
     clear by4 HTD3
     go_wp2_with fail
     refine HL.out.mono ?_
     rintro e y5 ⟨rfl, by5⟩
     have HB5 : Hid (Below w.heap.size w y5) := HB4.out.trans (by5.mono HB4.out.size)
     clear by5 HL
     go_wp2
     go_ret
     exact ⟨rfl, HB5.out⟩
   rw [hd0] at HDD
   have HFI := Lib.hid hFI
   have HFPo := hFP
   have HNM := Lib.hid hnm
   have HLT : Hid (fp.Lt wr.heap.size ∧ fd.Lt wr.heap.size) := ⟨ppager_lt hFP.pg, pdisk_law.lt hFP.dk⟩
   have HFP := Lib.hid hFP
   obtain ⟨bo, off, x, ac, rfl, hbo, hraw, hq, hao, hrg⟩ := H0.out.at_ hlt
   have RGx : Hid (∀ w', Below w.heap.size w w' → w'.rangeAt bo (off + k * 12) (actC x).toList) := fun w' hb' j u hj => (hb'.cell (p := ⟨bo, off + k * 12 + j, none⟩) (by show bo < _; omega)).trans (hrg j u hj)
   have HRW := Lib.hid hraw
   have HAO := Lib.hid hao
   have HK3 := Lib.hid h30
   have j0 : (0 : Int) ≤ (k : Int) := by omega
   clear HCS hd0 hFI hFP HFPo hnm hraw hao hrg hq hbo hlt h30 hk HDK
   go_wp2_with fail
   refine HDD.out.mono ?_
   rintro e w5 ⟨rfl, by5⟩
   have HFB5 := Lib.hid (HFB.out.below by5)
   have HFP5 := Lib.hid (HFP.out.below by5)
   have HB5 : Hid (Below w.heap.size w w5) := HB.out.trans (by5.mono HB.out.size)
   have HLT5 : Hid (wr.heap.size ≤ w5.heap.size) := by5.size
   obtain ⟨E, hE⟩ : ∃ E, actC x = E := ⟨_, rfl⟩
   have HSE : Hid ((Tryz.prog.info? 42).map (·.size) = some E.size) := by unfold Hid; rw [← hE]; exact act_size
   have HZE : Hid (ZA.size = E.size) := by unfold Hid; rw [HZAS.out, ← hE]; rfl
   have HOE : Hid (E.all (·.oneCell') = true) := by unfold Hid; rw [← hE]; exact actC_one x
   have hrg5 := RGx.out w5 HB5.out
   rw [hE] at hrg5
   have HEE := Lib.hid hE
   obtain ⟨X5, hX5⟩ : ∃ X, (w5.alloc (.cells ZA 42)).setRow w5.heap.size E = X := ⟨_, rfl⟩
   obtain ⟨hxa, hxb⟩ := bxt_stored hX5
   have HR14 : Hid (Rw X5 w5.heap.size 42 E) := hxa.2
   have HFBX := Lib.hid (HFB5.out.below hxb)
   have HFPX := Lib.hid (HFP5.out.below hxb)
   have HBX : Hid (Below w.heap.size w X5) := HB5.out.trans (hxb.mono HB5.out.size)
   have HX5S : Hid (w5.heap.size < X5.heap.size) := hxa.1
   have e0 : X5.cell? ⟨w5.heap.size, 0, none⟩ = some (.int .i64 x.do_) := by rw [HR14.out.cell, ← hE]; rfl
   have HD1S := Lib.hid (HPS.out D1 (by obtain ⟨A, c, e, _⟩ := HFB.out.p1; rw [Value.agg.inj e]; rfl))
   have HD2S := Lib.hid (HPS.out D2 (by obtain ⟨A, c, e, _⟩ := HFB.out.p2; rw [Value.agg.inj e]; rfl))
   have HD3S := Lib.hid (HPS.out D3 (by obtain ⟨A, c, e, _⟩ := HFB.out.p3; rw [Value.agg.inj e]; rfl))
   have HDZ : Hid (D1.size = 9 ∧ D2.size = 9 ∧ D3.size = 9) := ⟨by obtain ⟨A, c, e, _⟩ := HFB.out.p1; rw [Value.agg.inj e]; rfl, by obtain ⟨A, c, e, _⟩ := HFB.out.p2; rw [Value.agg.inj e]; rfl, by obtain ⟨A, c, e, _⟩ := HFB.out.p3; rw [Value.agg.inj e]; rfl⟩
   clear by5 hxa hxb hE HDD HFB HFP HFB5 HFP5
   by_cases h0 : x.do_ = 0
   ·have q0 : (x.do_ == 0) = true := by rw [beq_iff_eq]; exact h0
    have c3 : X5.cell? ⟨w5.heap.size, 3, none⟩ = some (.int .u8 (x.kind : Nat)) := by rw [HR14.out.cell, ← HEE.out]; rfl
    have c4 : X5.cell? ⟨w5.heap.size, 4, none⟩ = some (.slice x.A x.m x.c) := by rw [HR14.out.cell, ← HEE.out]; rfl
    have HBD : Hid (∀ w', Below w.heap.size w w' → Lv yK w' w.heap.size (.slice x.A x.m x.c) ac.body) := fun w' hb' => HAO.out.2.2.2.2.2.below_ hb' (Nat.le_refl _)
    have hby : ∀ y ∈ ac.body, y < 256 := fun y hy => HAO.out.2.2.2.2.2.ok_ y hy
    have HAD := Lib.hid (ppadd_any x.kind _ ac.body w.heap.size HFPX.out.pg HRW.out.2.2.1 (HBD.out X5 HBX.out) HBX.out.size (fun hp q hq hm => by have h1 := (HBD.out X5 HBX.out).blk_ hp hq; have h2 := HFPX.out.fr.1 q (.inl hm); omega))
    have HNF := Lib.hid (HFI.out.add HRW.out.2.2.1 hby)
    clear hby h0
    go_wp2_with (first
     | (refine wpList_load_midF rfl 42 _ rfl bo (off + k * 12) rfl E _ hrg5 Tryz.underlying42 rfl HSE.out ?_)
     | (refine wpList_store_row rfl _ _ _ rfl w5.heap.size E rfl rfl 42 ZA (Rw.new w5 _ _) HSE.out HZE.out HOE.out ?_; rw [hX5]))
    refine HAD.out.mono ?_
    rintro e w6 ⟨rfl, hTP⟩
    obtain ⟨fp6, hFP6, hT6⟩ := HFPX.out.call HFBX.out.old HFBX.out.lt3 HBX.out.size hTP
    have hFB6 := HFBX.out.turned hT6 (fun q hq => (HFPX.out.ro q hq).1) HFPX.out.gs
    have HB6 : Hid (Below w.heap.size w w6) := HBX.out.trans (hT6.below HBX.out.size (fun q hq => HFPX.out.fr.1 q (.inl hq)))
    have hR6 : Rw w6 w5.heap.size 42 E := (hT6.block _ HX5S.out (fun h => by have h1 := HLT.out.1 _ (.inl h); have h2 := HLT5.out; omega)).trans HR14.out
    have c3' : w6.cell? ⟨w5.heap.size, 3, none⟩ = some (.int .u8 (x.kind : Nat)) := by rw [hR6.cell, ← HEE.out]; rfl
    have c4' : w6.cell? ⟨w5.heap.size, 4, none⟩ = some (.slice x.A x.m x.c) := by rw [hR6.cell, ← HEE.out]; rfl
    have HFB6 := Lib.hid hFB6
    have HFP6 := Lib.hid hFP6
    have HRA := Lib.hid (rpaadd_any R (.agg D1) m x.kind _ ac.body w6 HFB6.out.p1 HFB6.out.old HFB6.out.few.1 HRW.out.2.2.1 ((HBD.out w6 HB6.out).mono_ HB6.out.size))
    clear hFB6 hFP6 hT6 hR6 hTP HAD c3 c4 e0 hX5 hrg5
    go_wp2_with (first
     | (refine wpList_load_row rfl _ _ rfl g1 rfl 37 D1 (0, 0) _ HFB6.out.b1 Tryz.underlying37 rfl HD1S.out ?_))
    refine HRA.out.mono ?_
    rintro e w7 ⟨v7, rfl, hv7, b7⟩
    obtain ⟨C, rfl, hC9, hCO⟩ := hv7.cells
    have HSC := Lib.hid (HPS.out C hC9)
    have HZC : Hid (D1.size = C.size) := by unfold Hid; rw [HDZ.out.1, hC9]
    have HOC := Lib.hid hCO
    have HFB7 := Lib.hid ((HFB6.out.ref b7).set1 hv7 (Nat.le_trans HNF.out.goes.ok.few (by omega)))
    have HFP7 := Lib.hid ((HFP6.out.ref b7).row (.inl rfl) C)
    have HBY : Hid (Below w.heap.size w (w7.setRow g1 C)) := below_setRow (HB6.out.trans (b7.mono HB6.out.size)) HGW.out.1 C
    have HR1 := Lib.hid (HFB6.out.below b7).b1
    clear hv7 b7 hC9 hCO HRA
    go_wp2_with (first
     | (refine wpList_store_row rfl _ _ _ rfl g1 C rfl rfl 37 D1 HR1.out HSC.out HZC.out HOC.out ?_))
    go_roundw
    case rel => exact ⟨k + 1, fp6, fd, _, F, t, _, C, D2, D3, _, sure, under, by have := HK3.out; omega, by go_num, HFB7.out, HFP7.out.dk, by have := HAC.out; unfold Hid; omega, .inl ⟨HNF.out.dead, HFP7.out, HNF.out, HNM.out⟩, HBY.out⟩
    case measure => simp [intOf]; have := HK3.out; omega
   have q0 : (x.do_ == 0) = false := by rw [beq_eq_false_iff_ne]; exact h0
   have HNU : Hid (∀ w', PaIs w' R (.agg D1) m → Calls Tryz.prog 21 #[.agg D1, .agg E] w' (fun e w'' => e = .returned (.int .i64 (Pa.number m.l ac)) ∧ Below w'.heap.size w' w'')) := fun w' h => by
    have := pnumber_any R (.agg D1) m x ac w' h HFBX.out.few.1 ⟨HAO.out.2.1, HAO.out.2.2.1⟩ HRW.out.2.1
    rwa [HEE.out] at this
   have hni := Pa.number_i64 HFI.out.goes.ok ac (by rw [HAO.out.2.1]; exact HRW.out.2.1)
   obtain ⟨n, hn⟩ : ∃ n, Pa.number m.l ac = n := ⟨_, rfl⟩
   rw [hn] at HNU hni
   have HNI := Lib.hid hni
   clear hni hn
   by_cases h1 : x.do_ = 1
   ·have q1 : (x.do_ == 1) = true := by rw [beq_iff_eq]; exact h1
    have HNX := Lib.hid (HNU.out X5 HFBX.out.p1)
    have HNF := Lib.hid (HFI.out.drop n)
    clear h0 h1 HNU
    go_wp2_with (first
     | (refine wpList_load_midF rfl 42 _ rfl bo (off + k * 12) rfl E _ hrg5 Tryz.underlying42 rfl HSE.out ?_)
     | (refine wpList_store_row rfl _ _ _ rfl w5.heap.size E rfl rfl 42 ZA (Rw.new w5 _ _) HSE.out HZE.out HOE.out ?_; rw [hX5])
     | (refine wpList_load_row rfl _ _ rfl g1 rfl 37 D1 (0, 0) _ HFBX.out.b1 Tryz.underlying37 rfl HD1S.out ?_)
     | (refine wpList_load_row rfl _ _ rfl w5.heap.size rfl 42 E (0, 0) _ HR14.out Tryz.underlying42 rfl HSE.out ?_))
    refine HNX.out.mono ?_
    rintro e w6 ⟨rfl, b6⟩
    have HFB6 := Lib.hid (HFBX.out.below b6)
    have HFP6 := Lib.hid (HFPX.out.below b6)
    have HB6 : Hid (Below w.heap.size w w6) := HBX.out.trans (b6.mono HBX.out.size)
    have HDR := Lib.hid (ppdrop_any n HFP6.out.pg HNI.out)
    clear b6 HNX e0 hX5 hrg5
    go_wp2_with fail
    refine HDR.out.mono ?_
    rintro e w7 ⟨rfl, hTP⟩
    obtain ⟨fp7, hFP7, hT7⟩ := HFP6.out.call HFB6.out.old HFB6.out.lt3 HB6.out.size hTP
    have HFB7 := Lib.hid (HFB6.out.turned hT7 (fun q hq => (HFP6.out.ro q hq).1) HFP6.out.gs)
    have HFP7 := Lib.hid hFP7
    have HB7 : Hid (Below w.heap.size w w7) := HB6.out.trans (hT7.below HB6.out.size (fun q hq => HFP6.out.fr.1 q (.inl hq)))
    have HRA := Lib.hid (rpadrop_any R (.agg D1) m n w7 HFB7.out.p1 HFB7.out.old HFB7.out.few.1)
    clear hFP7 hT7 hTP HDR
    go_wp2_with (first
     | (refine wpList_load_row rfl _ _ rfl g1 rfl 37 D1 (0, 0) _ HFB7.out.b1 Tryz.underlying37 rfl HD1S.out ?_))
    refine HRA.out.mono ?_
    rintro e w8 ⟨v8, rfl, hv8, b8⟩
    obtain ⟨C, rfl, hC9, hCO⟩ := hv8.cells
    have HSC := Lib.hid (HPS.out C hC9)
    have HZC : Hid (D1.size = C.size) := by unfold Hid; rw [HDZ.out.1, hC9]
    have HOC := Lib.hid hCO
    have HFB8 := Lib.hid ((HFB7.out.ref b8).set1 hv8 (Nat.le_trans HNF.out.goes.ok.few (by omega)))
    have HFP8 := Lib.hid ((HFP7.out.ref b8).row (.inl rfl) C)
    have HBY : Hid (Below w.heap.size w (w8.setRow g1 C)) := below_setRow (HB7.out.trans (b8.mono HB7.out.size)) HGW.out.1 C
    have HR1 := Lib.hid (HFB7.out.below b8).b1
    clear hv8 b8 hC9 hCO HRA
    go_wp2_with (first
     | (refine wpList_store_row rfl _ _ _ rfl g1 C rfl rfl 37 D1 HR1.out HSC.out HZC.out HOC.out ?_))
    go_roundw
    case rel => exact ⟨k + 1, fp7, fd, _, F, t, _, C, D2, D3, _, sure, under, by have := HK3.out; omega, by go_num, HFB8.out, HFP8.out.dk, by have := HAC.out; unfold Hid; omega, .inl ⟨HNF.out.dead, HFP8.out, HNF.out, HNM.out⟩, HBY.out⟩
    case measure => simp [intOf]; have := HK3.out; omega
   have q1 : (x.do_ == 1) = false := by rw [beq_eq_false_iff_ne]; exact h1
   by_cases h2 : x.do_ = 2
   rotate_left
   ·have q2 : (x.do_ == 2) = false := by rw [beq_eq_false_iff_ne]; exact h2
    have HNF := Lib.hid HFI.out.more
    clear h0 h1 h2 HNU
    go_wp2_with (first
     | (refine wpList_load_midF rfl 42 _ rfl bo (off + k * 12) rfl E _ hrg5 Tryz.underlying42 rfl HSE.out ?_)
     | (refine wpList_store_row rfl _ _ _ rfl w5.heap.size E rfl rfl 42 ZA (Rw.new w5 _ _) HSE.out HZE.out HOE.out ?_; rw [hX5]))
    go_roundw
    case rel => exact ⟨k + 1, fp, fd, s, F, t, R, D1, D2, D3, m, sure, under, by have := HK3.out; omega, by go_num, HFBX.out, HFPX.out.dk, by have := HAC.out; unfold Hid; omega, .inl ⟨HNF.out.dead, HFPX.out, HNF.out, HNM.out⟩, HBX.out⟩
    case measure => simp [intOf]; have := HK3.out; omega
   have q2 : (x.do_ == 2) = true := by rw [beq_iff_eq]; exact h2
   have hfr := HRW.out.2.2.2
   have HFR1 : Hid (Rt.Fit { x.root with page := n }) := ⟨hfr.seq, HNI.out, hfr.pages, hfr.lsn, hfr.next, hfr.shard, hfr.tail⟩
   obtain ⟨r1, hr1⟩ : ∃ r : Rt.Root, ({ x.root with page := n } : Rt.Root) = r := ⟨_, rfl⟩
   obtain ⟨G1, hG1⟩ : ∃ D, rtC x.root = D := ⟨_, rfl⟩
   obtain ⟨G2, hG2⟩ : ∃ D, rtC r1 = D := ⟨_, rfl⟩
   have HGS : Hid (G1.setIfInBounds 1 (.int .i64 n) = G2) := by unfold Hid; rw [← hG1, ← hG2, ← hr1]; rfl
   have HSG1 : Hid ((Tryz.prog.info? 34).map (·.size) = some G1.size) := by unfold Hid; rw [← hG1]; exact rt_size
   have HSG2 : Hid ((Tryz.prog.info? 34).map (·.size) = some G2.size) := by unfold Hid; rw [← hG2]; exact rt_size
   have HZG : Hid (ZR.size = G1.size) := by unfold Hid; rw [HZRS.out, ← hG1]; rfl
   have HOG : Hid (G1.all (·.oneCell') = true) := by unfold Hid; rw [← hG1]; exact rtC_one _
   have HGP : Hid (G1[1]? = some (.int .i64 x.root.page)) := by unfold Hid; rw [← hG1]; rfl
   have hrt5 : X5.rangeAt w5.heap.size 5 G1.toList := by rw [← hG1]; exact act_root (by rw [HEE.out]; exact HR14.out)
   rw [hr1] at HFR1
   obtain ⟨X6, hX6⟩ : ∃ X, (X5.alloc (.cells ZR 34)).setRow X5.heap.size G1 = X := ⟨_, rfl⟩
   obtain ⟨hxa6, hxb6⟩ := bxt_stored hX6
   have HFB6 := Lib.hid (HFBX.out.below hxb6)
   have HFP6 := Lib.hid (HFPX.out.below hxb6)
   have HB6 : Hid (Below w.heap.size w X6) := HBX.out.trans (hxb6.mono HBX.out.size)
   have HR14' : Hid (Rw X6 w5.heap.size 42 E) := HR14.out.below hxb6 HX5S.out
   have HR16 : Hid (Rw X6 X5.heap.size 34 G1) := hxa6.2
   have HX6S : Hid (X5.heap.size < X6.heap.size) := hxa6.1
   have HNX := Lib.hid (HNU.out X6 HFB6.out.p1)
   obtain ⟨⟨qm, en⟩, hqe⟩ : ∃ r, Pa.commit m r1 524288 = r := ⟨_, rfl⟩
   have HQE := Lib.hid hqe
   clear h0 h1 h2 HNU hfr hG1 hr1 hxa6 hxb6 hqe
   have HG2 := Lib.hid hG2
   clear hG2
   go_wp2_with (first
    | (refine wpList_load_midF rfl 42 _ rfl bo (off + k * 12) rfl E _ hrg5 Tryz.underlying42 rfl HSE.out ?_)
    | (refine wpList_store_row rfl _ _ _ rfl w5.heap.size E rfl rfl 42 ZA (Rw.new w5 _ _) HSE.out HZE.out HOE.out ?_; rw [hX5])
    | (refine wpList_load_midF rfl 34 _ rfl w5.heap.size 5 rfl G1 _ hrt5 Tryz.underlying34 rfl HSG1.out ?_)
    | (refine wpList_store_row rfl _ _ _ rfl X5.heap.size G1 rfl rfl 34 ZR (Rw.new X5 _ _) HSG1.out HZG.out HOG.out ?_; rw [hX6])
    | (refine wpList_load_row rfl _ _ rfl g1 rfl 37 D1 (0, 0) _ HFB6.out.b1 Tryz.underlying37 rfl HD1S.out ?_)
    | (refine wpList_load_row rfl _ _ rfl w5.heap.size rfl 42 E (0, 0) _ HR14'.out Tryz.underlying42 rfl HSE.out ?_))
   refine HNX.out.mono ?_
   rintro e w6 ⟨rfl, b6⟩
   have hr16 : Rw w6 X5.heap.size 34 G1 := HR16.out.below b6 HX6S.out
   have dc : w6.cell? ⟨X5.heap.size, 1, none⟩ = some (.int .i64 x.root.page) := (hr16.cell 1).trans HGP.out
   have df : w6.frozen? ⟨X5.heap.size, 1, none⟩ = false := hr16.frozen 1
   obtain ⟨Y6, hY6⟩ : ∃ Y, w6.setCell ⟨X5.heap.size, 1, none⟩ (.int .i64 n) = Y := ⟨_, rfl⟩
   have hty : Turned (fun q => q = X5.heap.size) w6 Y6 := by rw [← hY6]; exact (Turned.refl (fun q => q = X5.heap.size) w6).setCell (p := ⟨X5.heap.size, 1, none⟩) (fun _ => rfl) _
   have HRY : Hid (Rw Y6 X5.heap.size 34 G2) := by
    have h := hr16.set 1 (.int .i64 n)
    rw [HGS.out, hY6] at h
    exact h
   have hlx := HFBX.out.lt3
   have hpx := ppager_lt HFPX.out.pg
   have hdx := pdisk_law.lt HFPX.out.dk
   have HFBY := Lib.hid ((HFB6.out.below b6).turned hty (fun q hq e => by have := HFBX.out.old q hq; omega) ⟨by omega, by omega, by omega⟩)
   have HFPY := Lib.hid ((HFP6.out.below b6).turned hty (hpx.off fun q hq => by omega) (hdx.off fun q hq => by omega))
   have HBY : Hid (Below w.heap.size w Y6) := (HB6.out.trans (b6.mono HB6.out.size)).trans (hty.below (Nat.le_trans HB6.out.size b6.size) (fun q hq => by rw [hq]; exact HBX.out.size))
   have HY6S : Hid (X5.heap.size < Y6.heap.size) := HRY.out.lt
   have HRC := Lib.hid (rpacommit_any R (.agg D1) m r1 524288 Y6 HFBY.out.p1 HFBY.out.old HFBY.out.few.1 HFR1.out (by unfold I64; omega))
   rw [HQE.out, HG2.out] at HRC
   clear hr16 hty hlx hpx hdx b6 HNX e0 hX5 hX6 hrg5 hrt5 HFB6 HFP6 HB6 HR16 HR14'
   go_wp2_with (first
    | (refine wpList_load_row rfl _ _ rfl g1 rfl 37 D1 (0, 0) _ HFBY.out.b1 Tryz.underlying37 rfl HD1S.out ?_)
    | (refine wpList_load_row rfl _ _ rfl X5.heap.size rfl 34 G2 (0, 0) _ HRY.out Tryz.underlying34 rfl HSG2.out ?_))
   refine HRC.out.mono ?_
   rintro e w7 ⟨v7, rfl, hv7, b7⟩
   obtain ⟨C, rfl, hC9, hCO⟩ := hv7.cells
   have HSC := Lib.hid (HPS.out C hC9)
   have HZC : Hid (Z.size = C.size) := by unfold Hid; rw [HZS.out, hC9]
   have HOC := Lib.hid hCO
   have HC9 := Lib.hid hC9
   obtain ⟨X7, hX7⟩ : ∃ X, (w7.alloc (.cells Z 37)).setRow w7.heap.size C = X := ⟨_, rfl⟩
   obtain ⟨hxa7, hxb7⟩ := bxt_stored hX7
   have HR17 : Hid (Rw X7 w7.heap.size 37 C) := hxa7.2
   have HFB7 := Lib.hid ((HFBY.out.ref b7).below hxb7)
   have HFP7 := Lib.hid ((HFPY.out.ref b7).below hxb7)
   have HV7 := Lib.hid (hv7.below_ hxb7)
   have HB7 : Hid (Below w.heap.size w X7) := HBY.out.trans ((b7.trans (hxb7.mono b7.size)).mono HBY.out.size)
   have HRZ : Hid (Rw X7 X5.heap.size 34 G2) := (HRY.out.below b7 HY6S.out).below hxb7 (Nat.lt_of_lt_of_le HY6S.out b7.size)
   have HW7 : Hid (wr.heap.size ≤ w7.heap.size ∧ g3 < w7.heap.size ∧ g2 < w7.heap.size ∧ g1 < w7.heap.size ∧ g3 < X5.heap.size) := by
    have h1 := HFBY.out.lt3
    have h2 := b7.size
    have h3 := HFBX.out.lt3
    have h4 := HLT5.out
    have h5 := HX5S.out
    have h6 := HY6S.out
    refine ⟨?_, ?_, ?_, ?_, ?_⟩ <;> omega
   clear hC9 hCO hxa7 hxb7 hv7 b7 HRC HFBY HFPY HRY HY6S hY6 dc df
   by_cases he : en = 0
   rotate_left
   ·have qe : ((en : Int) != 0) = true := by rw [bne_iff_ne]; omega
    have HNF := Lib.hid HFI.out.more
    clear he
    go_wp2_with (first
     | (refine wpList_store_row rfl _ _ _ rfl w7.heap.size C rfl rfl 37 Z (Rw.new w7 _ _) HSC.out HZC.out HOC.out ?_; rw [hX7]))
    go_roundw
    case rel => exact ⟨k + 1, fp, fd, s, F, t, _, D1, D2, D3, m, sure, under, by have := HK3.out; omega, by go_num, HFB7.out, HFP7.out.dk, by have := HAC.out; unfold Hid; omega, .inl ⟨HNF.out.dead, HFP7.out, HNF.out, HNM.out⟩, HB7.out⟩
    case measure => simp [intOf]; have := HK3.out; omega
   subst he
   have hc0 : (Pa.commit m r1 524288).2 = 0 := by rw [HQE.out]
   have hcm := (Pp.commit_ok hc0).2
   rw [HQE.out] at hcm
   have hql : qm.l.length ≤ 1000000 := by
    have h1 := HFBX.out.few.1
    have h2 : qm = _ := hcm
    rw [h2]
    show ((Pa.keep m.l).map Pa.used).length ≤ _
    rw [List.length_map]
    exact Nat.le_trans (List.length_filter_le _ _) h1
   have HQL := Lib.hid hql
   have HC0 := Lib.hid hc0
   obtain ⟨Y8, hY8⟩ : ∃ Y, X7.setRow g3 C = Y := ⟨_, rfl⟩
   have HFB8 := Lib.hid (HFB7.out.set3 HV7.out hql)
   have HFP8 := Lib.hid (HFP7.out.row (.inr (.inr rfl)) C)
   have HV8 := Lib.hid (HV7.out.turned_ ((Turned.refl (fun q => q = g3) X7).setRow (fun _ => rfl) C) (fun q hq e => HFB7.out.gs.2.2 (e ▸ hq)))
   have HR17b : Hid (Rw (X7.setRow g3 C) w7.heap.size 37 C) := HR17.out.rowOther (by have := HW7.out; omega) _
   have HRZb : Hid (Rw (X7.setRow g3 C) X5.heap.size 34 G2) := HRZ.out.rowOther (by have := HW7.out; omega) _
   have HB8 : Hid (Below w.heap.size w (X7.setRow g3 C)) := below_setRow HB7.out HGW.out.2.2 C
   rw [hY8] at HFB8 HFP8 HV8 HR17b HRZb HB8
   have HCM := Lib.hid (ppcommit_any r1 0 HFP8.out.pg HFP8.out.dk HFP8.out.ap HFR1.out (by have := HAC.out; have := HK3.out; omega) (by have := HFI.out.turns; have := HK3.out; omega) (by have h1 := HFI.out.used; have h2 := HFI.out.len; have h3 := HFI.out.room; have := HK3.out; omega) HFI.out.get HFI.out.file)
   rw [HG2.out] at HCM
   have HD3C : Hid (D3.size = C.size) := by unfold Hid; rw [HDZ.out.2.2, HC9.out]
   clear hc0 hcm hql
   go_wp2_with (first
    | (refine wpList_store_row rfl _ _ _ rfl w7.heap.size C rfl rfl 37 Z (Rw.new w7 _ _) HSC.out HZC.out HOC.out ?_; rw [hX7])
    | (refine wpList_load_row rfl _ _ rfl w7.heap.size rfl 37 C (0, 0) _ HR17.out Tryz.underlying37 rfl HSC.out ?_)
    | (refine wpList_store_row rfl _ _ _ rfl g3 C rfl rfl 37 D3 HFB7.out.b3 HSC.out HD3C.out HOC.out ?_; rw [hY8])
    | (refine wpList_load_row rfl _ _ rfl X5.heap.size rfl 34 G2 (0, 0) _ HRZb.out Tryz.underlying34 rfl HSG2.out ?_))
   refine HCM.out.mono ?_
   rintro e w8 ⟨x8, s8, F8, t8, f8, d8, rfl, hcom, hD8, hM8, hpp, hT8⟩
   have hcase := HFI.out.commit (Nat.le_of_lt HK3.out) HC0.out hcom
   rw [HQE.out] at hcase
   have hRO : ∀ q, RX R Y6 w7 q → ¬ (fp.M q ∨ fd.M q) := fun q hq e => e.elim (HFP8.out.ro q hq).1 (HFP8.out.ro q hq).2
   have HFB9 := Lib.hid (HFB8.out.turned hT8 hRO HFP8.out.gt)
   have HV9 := Lib.hid (HV8.out.turned_ hT8 hRO)
   have HB9 : Hid (Below w.heap.size w w8) := HB8.out.trans (hT8.below HB8.out.size (fun q hq => hq.elim (fun h => HFP8.out.fr.1 q (.inl h)) (fun h => HFP8.out.fr.2 q (.inl h))))
   have HR17c : Hid (Rw w8 w7.heap.size 37 C) := (hT8.block _ HR17b.out.lt (fun e => e.elim (fun h => by have h1 := HLT.out.1 _ (.inl h); have h2 := HW7.out.1; omega) (fun h => by have h1 := HLT.out.2 _ (.inl h); have h2 := HW7.out.1; omega))).trans HR17b.out
   have HD2C : Hid (D2.size = C.size) := by unfold Hid; rw [HDZ.out.2.1, HC9.out]
   have HD1C : Hid (D1.size = C.size) := by unfold Hid; rw [HDZ.out.1, HC9.out]
   clear hX7 hY8 HCM hRO hT8 hcom HV7 HV8 HFB7 HFP7 HR17 HR17b HRZ HRZb
   rcases hcase with ⟨hd8, rfl, hF8, hn8, ha8⟩ | ⟨hd8, hx8, hE8, ha8⟩
   ·obtain ⟨hP8, hN8, hap8⟩ := hpp hd8
    have HFP9 := Lib.hid (HFP8.out.commit HFB8.out.old HFB8.out.lt3 HB8.out.size hP8 hD8 hN8 hM8 hap8)
    obtain ⟨Ya, hYa⟩ : ∃ Y, w8.setRow g2 C = Y := ⟨_, rfl⟩
    have HFBa := Lib.hid (HFB9.out.set2 HV9.out HQL.out)
    have HFPa := Lib.hid (HFP9.out.row (.inr (.inl rfl)) C)
    have HVa := Lib.hid (HV9.out.turned_ ((Turned.refl (fun q => q = g2) w8).setRow (fun _ => rfl) C) (fun q hq e => HFB9.out.gs.2.1 (e ▸ hq)))
    have HR17d : Hid (Rw (w8.setRow g2 C) w7.heap.size 37 C) := HR17c.out.rowOther (by have := HW7.out; omega) _
    have HBa : Hid (Below w.heap.size w (w8.setRow g2 C)) := below_setRow HB9.out HGW.out.2.1 C
    rw [hYa] at HFBa HFPa HVa HR17d HBa
    have HFBb := Lib.hid (HFBa.out.set1 HVa.out HQL.out)
    have HFPb := Lib.hid (HFPa.out.row (.inl rfl) C)
    have HBb : Hid (Below w.heap.size w (Ya.setRow g1 C)) := below_setRow HBa.out HGW.out.1 C
    have HF8 := Lib.hid hF8
    have HN8 := Lib.hid (hn8.trans HNM.out)
    have HA8 := Lib.hid (acts_stepF ha8 HAC.out)
    have HD8 := Lib.hid hd8
    clear hP8 hN8 hap8 hF8 hn8 ha8 hd8 hpp hD8 hM8 HFP8 HFB8 HB8
    go_wp2_with (first
     | (refine wpList_load_row rfl _ _ rfl w7.heap.size rfl 37 C (0, 0) _ HR17c.out Tryz.underlying37 rfl HSC.out ?_)
     | (refine wpList_store_row rfl _ _ _ rfl g2 C rfl rfl 37 D2 HFB9.out.b2 HSC.out HD2C.out HOC.out ?_; rw [hYa])
     | (refine wpList_load_row rfl _ _ rfl w7.heap.size rfl 37 C (0, 0) _ HR17d.out Tryz.underlying37 rfl HSC.out ?_)
     | (refine wpList_store_row rfl _ _ _ rfl g1 C rfl rfl 37 D1 HFBa.out.b1 HSC.out HD1C.out HOC.out ?_))
    go_roundw
    case rel => exact ⟨k + 1, f8, d8, s8, F8, t8, _, C, C, C, qm, qm, qm, by have := HK3.out; omega, by go_num, HFBb.out, HFPb.out.dk, HA8.out, .inl ⟨HD8.out, HFPb.out, HF8.out, HN8.out⟩, HBb.out⟩
    case measure => simp [intOf]; have := HK3.out; omega
   ·have q8 : ((x8 : Int) == 0) = false := by rw [beq_eq_false_iff_ne]; omega
    have HFBb := Lib.hid (HFB9.out.set1 HV9.out HQL.out)
    have hg1 := HFP8.out.gp g1 (.inl rfl)
    have hl1 := HFB8.out.lt3.1
    have HDb : Hid (PDisk (w8.setRow g1 C) d8 t8 bf) := pdisk_law.turned hD8 ((Turned.refl (fun q => q = g1) w8).setRow (fun _ => rfl) C) (fun q hq => by
     subst hq
     exact ⟨fun hm => (hM8.m _ hm).elim hg1.2.1 (fun h => by omega), fun hm => (hM8.r _ hm).elim hg1.2.2 (fun h => by omega)⟩)
    have HBb : Hid (Below w.heap.size w (w8.setRow g1 C)) := below_setRow HB9.out HGW.out.1 C
    have HE8 : Hid (Pp.Ends t8 ⟨#[105]⟩ 0 sure qm) := by rw [← HNM.out]; exact hE8
    have HA8 := Lib.hid (acts_stepF ha8 HAC.out)
    have HD8 := Lib.hid hd8
    clear hE8 ha8 hd8 hpp hD8 hM8 HFP8 HFB8 HB8 hg1 hl1 hx8
    go_wp2_with (first
     | (refine wpList_load_row rfl _ _ rfl w7.heap.size rfl 37 C (0, 0) _ HR17c.out Tryz.underlying37 rfl HSC.out ?_)
     | (refine wpList_store_row rfl _ _ _ rfl g1 C rfl rfl 37 D1 HFB9.out.b1 HSC.out HD1C.out HOC.out ?_))
    go_roundw
    case rel => exact ⟨k + 1, fp, d8, s, F, t8, _, C, D2, C, qm, sure, qm, by have := HK3.out; omega, by go_num, HFBb.out, HDb.out, HA8.out, .inr ⟨HD8.out, HE8.out⟩, HBb.out⟩
    case measure => simp [intOf]; have := HK3.out; omega
set_option maxRecDepth 100000 in
theorem lifted (os : Os) (started : os.Started) (H : Type) (enc : TypeId × Value → H) :
  ReturnsInHanded {} Tryz.checked os 4 .any (Rows.pagerFailsSpec.pre6 enc Tryz.prog Tryz.f4 Rows.pagerFailsRow.domain false) (Rows.pagerFailsSpec.post enc Tryz.prog Tryz.f4 false true false false) := by
 refine returnsInHanded_of_change_sized (C := Tryz.checked) own started (by kernel_rfl) Tryz.func4
  (ChangeSpec.witness6 (enc := enc) (C := Tryz.checked) false ⟨#[], #[.slice none 0 0, .int .i64 0, .slice none 0 0], []⟩ 8 (by kernel_rfl) (by kernel_rfl) (by kernel_rfl) (by kernel_rfl)) ?_
 intro W base args ds gs before hval0 hW hcnd hreach _
 have hval : ∀ (j : Nat) t v, Tryz.f4.params[j]? = some t → args[j]? = some v → Value.okWide Tryz.prog W .any base t v := hval0
 have hW' := hW
 obtain ⟨p, q, hA0, hV, rfl, hfz, hnd⟩ := hW
 have hA : DataW.TrodAll enc Tryz.prog W 0 (fun _ => true) true Tryz.f4.params.toList args.toList ds p := hA0
 rw [Tryz.params4] at hA hval
 obtain ⟨v0, vs0, d0, ds0, p0, q0, hargs, rfl, rfl, h0, r0⟩ := trodAll_cons hA
 obtain ⟨v1, vs1, d1, ds1, p1, q1, rfl, rfl, rfl, h1, r1⟩ := trodAll_cons r0
 obtain ⟨v2, vs2, d2, ds2, p2, q2, rfl, rfl, rfl, h2, r2⟩ := trodAll_cons r1
 obtain ⟨rfl, rfl, rfl⟩ := trodAll_nil r2
 obtain rfl : args = #[v0, v1, v2] := by cases args; simp_all
 obtain ⟨rfl, rfl⟩ := trodVars_none hV
 obtain ⟨a0, len0, cap0, rfl⟩ := okWide_slice Tryz.underlying22 (hval 0 22 v0 rfl rfl)
 have k0 := h0
 have lt0 : ∀ x ∈ p0, x.block < W.heap.size := by obtain ⟨m, hm⟩ := k0; exact DataW.trod_lt m _ _ _ hm
 obtain ⟨l0, len_0, hb0, sz0⟩ : ∃ l : List Pa.Act, l.length = len0 ∧ Av W W.heap.size (.slice a0 len0 cap0) l ∧ ((∀ n ∈ DataW.weights Tryz.prog 22 d0, n ≤ reachBytes) → ∀ o ∈ l, o.body.length ≤ reachBytes) := by
  obtain ⟨fuel, hf⟩ := h0
  exact acts_inS hf
 have reach0 : ∀ o ∈ l0, o.body.length ≤ 140737488351232 := sz0 (fun n hn => by simpa using List.all_eq_true.1 hreach n (DataW.weights_mem_each (j := 0) rfl rfl n hn))
 obtain ⟨a1, rfl, rfl, rfl, w1⟩ := open_int Tryz.underlying3 (hval 1 3 v1 rfl rfl) h1
 obtain ⟨a2, len2, cap2, rfl⟩ := okWide_slice Tryz.underlying51 (hval 2 51 v2 rfl rfl)
 have k2 := h2
 have lt2 : ∀ x ∈ p2, x.block < W.heap.size := by obtain ⟨m, hm⟩ := k2; exact DataW.trod_lt m _ _ _ hm
 obtain ⟨l2, len_2, hb2⟩ : ∃ l : List Int, l.length = len2 ∧ Lv iK W W.heap.size (.slice a2 len2 cap2) l := by
  obtain ⟨fuel, hf⟩ := h2
  rcases open_ints Tryz.underlying51 Tryz.underlying3 (by kernel_rfl) hf with ⟨hcs, _⟩ | ⟨x, l, c, zs, hcs, _, hl, hm, hz, _, hcell, hwz⟩
  ·simp [Value.cells] at hcs
   obtain ⟨rfl, rfl, rfl⟩ := hcs
   exact ints_in (.inl ⟨rfl, rfl, rfl⟩)
  ·simp [Value.cells] at hcs
   obtain ⟨rfl, rfl, rfl⟩ := hcs
   exact ints_in (.inr ⟨x, zs, rfl, hl, hm, by simpa using hz, hcell, hwz⟩)
 have reach2 : len2 * 8 ≤ 140737488351232 := by
  obtain ⟨fuel, hf⟩ := k2
  rcases open_ints Tryz.underlying51 Tryz.underlying3 (by kernel_rfl) hf with ⟨hcs, _⟩ | ⟨x, l, c, zs, hcs, _, hl, hm, hz, hx, hcell, hwz⟩
  ·simp [Value.cells] at hcs
   omega
  ·simp [Value.cells] at hcs
   obtain ⟨rfl, rfl, rfl⟩ := hcs
   rw [Prod.mk.injEq] at hx
   have hs := sized_slice hreach (j := 2) (t := 51) (e := 3) (elems := lits .i64 (zs.take len2)) (spare := lits .i64 (zs.drop len2)) rfl (by rw [hx.1]; rfl) Tryz.underlying51
   have hb : Tryz.prog.bytesOf 3 = 8 := by kernel_rfl
   change _ * Tryz.prog.bytesOf 3 ≤ _ at hs
   rw [hb] at hs
   simp [lits, reachBytes] at hs hz
   omega
 clear hA0 hval0
 refine (walk W (.slice a0 len0 cap0) l0 hb0 reach0 a1 w1 (.slice a2 len2 cap2) l2 hb2 (by rw [len_2]; exact reach2)).mono fun e W' ⟨he, bel⟩ => ?_
 subst he
 exact ⟨_, rfl, _, _, _, [], _, [], hW', trodAll_mk1 (shut_bool Tryz.underlying4 _), (trodAll_cons_mk (Below.trod laidOut (by kernel_rfl) (of_decide_eq_true (by kernel_rfl)) k0 bel lt0) (trodAll_cons_mk (shut_int Tryz.underlying3 w1) (trodAll_cons_mk (Below.trod laidOut (by kernel_rfl) (of_decide_eq_true (by kernel_rfl)) k2 bel lt2) trodAll_mk0))), rfl, bel.frame _, fun h => by cases h⟩
theorem proved : Rows.PagerFailsSaid :=
 OpenClaim.holds_of_wide 4 Tryz.f4 rfl rfl rfl rfl rfl rfl rfl ⟨rfl, rfl, rfl, rfl, rfl⟩ rfl rfl rfl rfl rfl (by kernel_rfl) Tryz.func4 (by kernel_rfl)
  (of_decide_eq_true (by kernel_rfl)) (by unfold Func.isWrapper; first | (rw [if_pos (by decide +kernel)]; kernel_rfl) | (rw [if_neg (by decide +kernel)]; exact ⟨rfl, rfl⟩))
  (fun os started H enc _ => lifted os started H enc)
end Go.Proofs.YtiafeniflkikeaaGreat.pagerFails
