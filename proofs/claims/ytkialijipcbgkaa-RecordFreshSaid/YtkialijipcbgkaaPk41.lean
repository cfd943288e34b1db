/-
  RcDoc: record.Doc.
  RcOf: record.Of.
  RcRight: slices.Equal of numbers; record.Right.
  RcEq: stookref00.Record.
-/
import Derived.Test.YtkialijipcbgkaaPk36
import Derived.Test.YtkialijipcbgkaaPk40
import Derived.Test.YtkialijipcbgkaaPk14
import Derived.Test.YtkialijipcbgkaaPk20
import Derived.Test.YtkialijipcbgkaaPk24
namespace Go.Proofs.Ytkialijipcbgkaa
open Go.RowKit
set_option linter.unusedVariables false

set_option maxHeartbeats 2000000 in
set_option maxRecDepth 100000 in
theorem prcdoc_any (P : List Vo.Pc) (v : Value) (r : Rc.Rec) (t : Value) (B : Nat) (w : World) (hv : Lv pK w B v P) (hf : Rc.Fit r) (ht : Lv iK w B t r.toks) (hB : B ≤ w.heap.size) :
    Calls Try.prog 21 #[.agg #[v], .agg (rcC r t)] w (IsLE yK (Rc.docE P r) w) := by
  have HLN : Hid ((rcC r t)[33]? = some (.int .i64 r.len)) := rcC_len hf
  have HTK : Hid ((rcC r t)[34]? = some t) := rcC_toks hf
  have HDG : Hid (∀ (w' : World) (g : Nat), Rw w' g 27 (rcC r t) → w'.rangeAt g 0 (bvs r.dig).toList) := fun w' g h => rc_digest h hf
  obtain ⟨C, hC⟩ : ∃ C, rcC r t = C := ⟨_, rfl⟩
  rw [hC] at HLN HTK HDG ⊢
  obtain ⟨W, hW⟩ : ∃ W, w.alloc (.cells #[v] 41) = W := ⟨_, rfl⟩
  obtain ⟨d0, hs0, hb⟩ := boxed hW
  obtain ⟨z, hz⟩ : ∃ z, W.heap.size = z := ⟨_, rfl⟩
  obtain ⟨V, hV⟩ : ∃ V, W.alloc (.cells C 27) = V := ⟨_, rfl⟩
  obtain ⟨hR, hsz, hb2⟩ := rc_boxed hV
  rw [hz] at hR hb2
  have hbV : Below w.heap.size w V := by rw [← hV]; exact hb.alloc (by omega) _
  have dV : V.cell? ⟨w.heap.size, 0, none⟩ = some v := by rw [← hV]; exact ((Below.refl W.heap.size W).alloc (Nat.le_refl _) _ |>.cell (p := ⟨w.heap.size, 0, none⟩) (by show w.heap.size < _; omega)).trans d0
  have d34 : V.cell? ⟨z, 34, none⟩ = some t := (hR.cell _).trans HTK.out
  have HR0 := Lib.hid hR
  have HZ : Hid (w.heap.size < z ∧ z < V.heap.size ∧ w.heap.size ≤ V.heap.size) := ⟨by omega, hR.lt, by omega⟩
  have HBV := Lib.hid hbV
  have HM := Lib.hid (pdecode_all P v r.toks t B V (hv.below_ hbV hB) (ht.below_ hbV hB) (Nat.le_trans hB hbV.size))
  have HDL := Lib.hid hf.dl
  have HD8 := Lib.hid hf.d8
  obtain ⟨A, c, rfl, -, -, -, -, -⟩ := hv
  obtain ⟨A2, c2, rfl, k1, k2, -, -, -⟩ := ht
  clear hB hb hb2 hbV hs0 d0 k1 k2 hf hC hR hsz
  rcases Rc.dec_cases P r.toks with ⟨l, hl, hl4, -⟩ | ⟨e, he, hx⟩
  · rw [hl] at HM
    have HSN : Hid (l.length ≤ 4096) := hl4
    by_cases hn : (l.length : Int) = r.len
    · have hq : ((l.length : Int) != r.len) = false := by rw [bne_eq_false_iff_eq]; exact hn
      have HX : Hid (Rc.docE P r = if Sh.sum l = r.dig then (l, 0) else ([], 6)) := by
        unfold Hid
        by_cases hs : Sh.sum l = r.dig
        · rw [if_pos hs]; exact Rc.docE_ok hl hn hs
        · rw [if_neg hs]; exact Rc.docE_sum hl hn hs
      clear hl hl4 hn
      go_enter Try.func21, Try.ntmps21
      go_wp2_with (fail)
      refine (HM.out).mono ?_
      rintro e w1 ⟨A1, c1, rfl, ho, hb1⟩
      have HB1 := Lib.hid (HBV.out.trans (hb1.mono HZ.out.2.2))
      have HR1 : Hid (Rw w1 z 27 C) := HR0.out.below hb1 HZ.out.2.1
      have HO1 := Lib.hid ho
      have HZ1 : Hid (z < w1.heap.size) := HR1.out.lt
      have HSM : Hid (∀ w', Below w1.heap.size w1 w' → Calls Try.prog 45 #[.slice A1 l.length c1] w' (fun e w'' => e = .returned (.agg (bvs (Sh.sum l))) ∧ Below w'.heap.size w' w'')) := fun w' hb' => sum_any _ l w1.heap.size w' hb'.size (HO1.out.form_.below_ hb' (Nat.le_refl _)).bv_ (by have := HSN.out; omega)
      have HEQ : Hid (∀ w', (Op.equalIn 10000 23 (.agg (bvs (Sh.sum l))) (.agg (bvs r.dig))).run Try.prog w' = .ok (decide (Sh.sum l = r.dig)) w') := fun w' => equal32 (Rc.sum_len l) HDL.out (Rc.sum_lt l) HD8.out w'
      have HSB : Hid ((bvs r.dig).size = 32) := by unfold Hid; rw [bvs_size]; exact HDL.out
      obtain ⟨d, hd⟩ : ∃ d, Sh.sum l = d := ⟨_, rfl⟩
      obtain ⟨D1, hD1⟩ : ∃ D, bvs d = D := ⟨_, rfl⟩
      obtain ⟨D2, hD2⟩ : ∃ D, bvs r.dig = D := ⟨_, rfl⟩
      rw [hd] at HX HSM HEQ
      rw [hD1] at HSM HEQ
      rw [hD2] at HEQ HDG HSB
      obtain ⟨q, hqq⟩ : ∃ q, decide (d = r.dig) = q := ⟨_, rfl⟩
      rw [hqq] at HEQ
      have HC1 : Hid (∀ w', Below w1.heap.size w1 w' → w'.cell? ⟨z, 33, none⟩ = some (.int .i64 r.len)) := fun w' hb' => ((HR1.out.below hb' HZ1.out).cell 33).trans HLN.out
      have HG1 : Hid (∀ w', Below w1.heap.size w1 w' → w'.rangeAt z 0 D2.toList) := fun w' hb' => HDG.out w' z (HR1.out.below hb' HZ1.out)
      clear HM ho hb1 hd hD1 hD2 dV d34 hV hW
      go_wp2
      refine wp_region_grow 11 (by kernel_rfl) (by kernel_rfl) (fun w' => Below w1.heap.size w1 w') ((Below.refl _ _).drew) ?_
      simp only [List.take_succ_cons, List.take_zero, List.drop_succ_cons, List.drop_zero]
      iterate 7 (refine wpGrow_pure (v := ?_) rfl ?_ ?_; rotate_left; focus (intro w' hb'; have h33 := HC1.out w' hb'; go_simp; first | done | with_reducible rfl)
                 go_simp)
      refine wpGrow_call (v := .agg D1) (f := 45) (args := #[.slice A1 l.length c1]) rfl (fun w' => by go_simp) (fun w' h => (HSM.out w' h).mono ?_) ?_
      · rintro e w5 ⟨rfl, hb5⟩
        exact ⟨rfl, h.trans (hb5.mono h.size)⟩
      go_simp
      iterate 1 (refine wpGrow_pure (v := ?_) rfl ?_ ?_; rotate_left; focus (intro w' hb'; go_simp; first | done | with_reducible rfl)
                 go_simp)
      refine wpGrow_load_mid rfl _ _ rfl z 0 rfl D2 _ (fun w' h => HG1.out w' h) Try.underlying23 rfl (by rw [HSB.out]; exact digest_size) ?_
      go_simp
      have heq := HEQ.out
      iterate 1 (refine wpGrow_pure (v := ?_) rfl ?_ ?_; rotate_left; focus (intro w' hb'; go_simp; first | done | with_reducible rfl)
                 go_simp)
      refine wpGrow_nil ?_
      intro w5 hb5
      have HB5 := Lib.hid (HB1.out.trans (hb5.mono HB1.out.size))
      have HO5 := Lib.hid ((HO1.out.below_ hb5 (Nat.le_refl _)).mono_ HZ.out.2.2)
      cases q with
      | true =>
        have HE : Hid (Rc.docE P r = (l, 0)) := by unfold Hid; rw [HX.out, if_pos (of_decide_eq_true hqq)]
        clear hb5 hqq heq HEQ
        go_wp2
        go_ret2
        exact IsLE.of HE.out rfl rfl HO5.out HB5.out
      | false =>
        have HE : Hid (Rc.docE P r = ([], 6)) := by unfold Hid; rw [HX.out, if_neg (of_decide_eq_false hqq)]
        clear hb5 hqq heq HEQ
        go_wp2
        go_ret2
        exact IsLE.none_b HE.out rfl HB5.out
    · have hq : ((l.length : Int) != r.len) = true := by rw [bne_iff_ne]; exact hn
      have HE := Lib.hid (Rc.docE_len hl hn)
      clear hl hl4 hn
      go_enter Try.func21, Try.ntmps21
      go_wp2_with (fail)
      refine (HM.out).mono ?_
      rintro e w1 ⟨A1, c1, rfl, ho, hb1⟩
      have HB1 := Lib.hid (HBV.out.trans (hb1.mono HZ.out.2.2))
      have HR1 : Hid (Rw w1 z 27 C) := HR0.out.below hb1 HZ.out.2.1
      have HZ1 : Hid (z < w1.heap.size) := HR1.out.lt
      have HC1 : Hid (∀ w', Below w1.heap.size w1 w' → w'.cell? ⟨z, 33, none⟩ = some (.int .i64 r.len)) := fun w' hb' => ((HR1.out.below hb' HZ1.out).cell 33).trans HLN.out
      clear HM ho hb1 dV d34 hV hW
      go_wp2
      refine wp_region_grow 11 (by kernel_rfl) (by kernel_rfl) (fun w' => Below w1.heap.size w1 w') ((Below.refl _ _).drew) ?_
      simp only [List.take_succ_cons, List.take_zero, List.drop_succ_cons, List.drop_zero]
      iterate 6 (refine wpGrow_pure (v := ?_) rfl ?_ ?_; rotate_left; focus (intro w' hb'; have h33 := HC1.out w' hb'; go_simp; first | done | with_reducible rfl)
                 go_simp)
      iterate 5 (refine wpGrow_off rfl ?_; go_simp)
      refine wpGrow_nil ?_
      intro w5 hb5
      have HB5 := Lib.hid (HB1.out.trans (hb5.mono HB1.out.size))
      clear hb5
      go_wp2
      go_ret2
      exact IsLE.none_b HE.out rfl HB5.out
  · rw [hx] at HM
    have hq : ((e : Int) != 0) = true := by rw [bne_iff_ne]; omega
    have HE := Lib.hid (Rc.docE_err hx he)
    clear hx he
    go_enter Try.func21, Try.ntmps21
    go_wp2_with (fail)
    refine (HM.out).mono ?_
    rintro e w1 ⟨A1, c1, rfl, ho, hb1⟩
    have HB1 := Lib.hid (HBV.out.trans (hb1.mono HZ.out.2.2))
    clear HM ho hb1 dV d34 hV hW
    go_wp2
    go_ret2
    exact IsLE.none_b HE.out rfl HB1.out
end Go.Proofs.Ytkialijipcbgkaa
namespace Go.Proofs.Ytkialijipcbgkaa
open Go.RowKit
set_option linter.unusedVariables false

set_option maxHeartbeats 2000000 in
set_option maxRecDepth 100000 in
theorem prcof_any (P : List Vo.Pc) (v : Value) (id : Nat) (b : List Nat) (u : Value) (B : Nat) (w : World) (hv : Lv pK w B v P) (hu : Lv yK w B u b) (hid : id < 18446744073709551616) (hB : B ≤ w.heap.size) :
    Calls Try.prog 19 #[.agg #[v], .int .u64 (id : Nat), u] w (IsRE (Rc.ofE P id b) w) := by
  have hz35 := rc_zeroV
  have hsz : (Try.prog.info? 27).map (·.size) = some none35.size := rc_sizeof Rc.fit_zero
  have hone : none35.all (·.oneCell') = true := rcC_one rfl
  have HNS : Hid (none35.size = 35) := rcC_size Rc.fit_zero
  obtain ⟨N, hN⟩ : ∃ N, none35 = N := ⟨_, rfl⟩
  have hb0 := rc_built0
  rw [hN] at hz35 hsz hone hb0 HNS
  obtain ⟨W, hW⟩ : ∃ W, w.alloc (.cells #[v] 41) = W := ⟨_, rfl⟩
  obtain ⟨d0, hs0, hb⟩ := boxed hW
  obtain ⟨z, hz⟩ : ∃ z, W.heap.size = z := ⟨_, rfl⟩
  obtain ⟨V, hV⟩ : ∃ V, W.alloc (.cells N 27) = V := ⟨_, rfl⟩
  have HRN : Hid (Rw V z 27 N) := by unfold Hid; rw [← hV, ← hz]; exact Rw.new W _ _
  have hbV : Below w.heap.size w V := by rw [← hV]; exact hb.alloc (by omega) _
  have dV : V.cell? ⟨w.heap.size, 0, none⟩ = some v := by rw [← hV]; exact ((Below.refl W.heap.size W).alloc (Nat.le_refl _) _ |>.cell (p := ⟨w.heap.size, 0, none⟩) (by show w.heap.size < _; omega)).trans d0
  have HZ : Hid (w.heap.size < z ∧ z < V.heap.size ∧ w.heap.size ≤ V.heap.size) := ⟨by omega, HRN.out.lt, by have := HRN.out.lt; omega⟩
  have HBV := Lib.hid hbV
  have HBB := Lib.hid hB
  have HU := Lib.hid hu
  have HID := Lib.hid hid
  have HEC := Lib.hid (pencode_all P v b u B V (hv.below_ hbV hB) (hu.below_ hbV hB) (Nat.le_trans hB hbV.size))
  obtain ⟨A, c, rfl, -, -, -, -, -⟩ := hv
  obtain ⟨A2, c2, rfl, k1, k2, -, -, -⟩ := hu
  have hll : b.length ≤ 9223372036854775807 := by simp only [maxLen] at k2; omega
  clear hB hb hbV hs0 d0 k1 k2
  by_cases hm : Vo.May P
  · by_cases hbig : 4096 < b.length
    · have HE := Lib.hid (Rc.ofE_long (id := id) hm hbig)
      have HEN : Hid (Bp.encE P b = ([], 3)) := by unfold Hid Bp.encE; rw [if_pos hm, if_pos hbig]
      rw [HEN.out] at HEC
      clear hm hbig
      go_enter Try.func19, Try.ntmps19
      go_wp2_with (fail)
      refine (HEC.out).mono ?_
      rintro e w1 ⟨A1, c1, rfl, ho1, hb1⟩
      have HR1 : Hid (Rw w1 z 27 N) := HRN.out.below hb1 HZ.out.2.1
      have HB1 := Lib.hid (HBV.out.trans (hb1.mono HBV.out.size))
      clear HEC hb1 dV ho1
      go_wp2_with (first
        | (refine wpList_build_at rfl 27 _ rfl N hb0 ?_)
        | (refine wpList_store_row rfl _ _ _ rfl z N rfl rfl 27 _ HR1.out hsz rfl hone ?_))
      exact IsRE.ret0 rfl hN rfl rfl rfl (Rw.row HR1.out N) HE.out rfl (below_setRow HB1.out (by have := HZ.out; omega) _)
    · have HE := Lib.hid (Rc.ofE_ok (id := id) hm hbig)
      have hbl : b.length ≤ 4096 := by omega
      have HBL := Lib.hid hbl
      have HEN : Hid (Bp.encE P b = (Bp.enc P b, 0)) := by unfold Hid Bp.encE; rw [if_pos hm, if_neg hbig]
      rw [HEN.out] at HEC
      clear hm hbig hbl
      go_enter Try.func19, Try.ntmps19
      go_wp2_with (fail)
      refine (HEC.out).mono ?_
      rintro e w2 ⟨A3, c3, rfl, ho, hb2⟩
      have HR2 : Hid (Rw w2 z 27 N) := HRN.out.below hb2 HZ.out.2.1
      have HB2 := Lib.hid (HBV.out.trans (hb2.mono HZ.out.2.2))
      have HO2 := Lib.hid ho
      have HS := Lib.hid (sum_any _ b B w2 (Nat.le_trans HBB.out HB2.out.size) (HU.out.below_ HB2.out HBB.out).bv_ (by have := HBL.out; omega))
      have HZ2 : Hid (z < w2.heap.size ∧ w.heap.size ≤ w2.heap.size) := ⟨HR2.out.lt, HB2.out.size⟩
      clear HEC ho hb2 dV
      go_wp2_with (fail)
      refine (HS.out).mono ?_
      rintro e w3 ⟨rfl, hb3⟩
      have HR3 : Hid (Rw w3 z 27 N) := HR2.out.below hb3 HZ2.out.1
      have HB3 := Lib.hid (HB2.out.trans (hb3.mono HZ2.out.2))
      have HO3 := Lib.hid (HO2.out.below_ hb3 (Nat.le_refl _))
      have hfit : Rc.Fit ⟨Sh.sum b, id, (b.length : Nat), Bp.enc P b⟩ := ⟨Rc.sum_len b, Rc.sum_lt b, HID.out, by have := HBL.out; show I64 ((b.length : Nat) : Int); unfold I64; omega⟩
      have HFT := Lib.hid hfit
      have hbt := rc_built (Rc.sum_len b) id (b.length : Nat) A3 (Bp.enc P b).length c3
      rw [rcC_toks_free _ _ _ [] (Bp.enc P b)] at hbt
      have hsz' : (Try.prog.info? 27).map (·.size) = some (rcC ⟨Sh.sum b, id, (b.length : Nat), Bp.enc P b⟩ (.slice A3 (Bp.enc P b).length c3)).size := rc_sizeof hfit
      have hone' : (rcC ⟨Sh.sum b, id, (b.length : Nat), Bp.enc P b⟩ (.slice A3 (Bp.enc P b).length c3)).all (·.oneCell') = true := rcC_one rfl
      obtain ⟨d, hd⟩ : ∃ d, Sh.sum b = d := ⟨_, rfl⟩
      obtain ⟨l, hl⟩ : ∃ l, Bp.enc P b = l := ⟨_, rfl⟩
      rw [hd, hl] at hbt hsz' hone' HE HFT
      rw [hl] at HO3
      obtain ⟨C, hC⟩ : ∃ C, rcC ⟨d, id, (b.length : Nat), l⟩ (.slice A3 l.length c3) = C := ⟨_, rfl⟩
      rw [hC] at hbt hsz' hone'
      have hCs : N.size = C.size := by rw [HNS.out, ← hC, rcC_size HFT.out]
      rw [hd, hl]
      clear HS hb3 hfit HR2 HO2
      go_wp2_with (first
        | (show wpList _ _ _ [_, _, _] _ _; go_must (refine wpList_build_at rfl 27 _ rfl C (by simp only [List.map_toArray]; exact hbt) ?_))
        | (refine wpList_store_row rfl _ _ _ rfl z C rfl rfl 27 _ HR3.out hsz' hCs hone' ?_))
      have hzz := HZ.out
      have hown : OwnL iK (w3.setRow z C) V.heap.size (.slice A3 l.length c3) l := HO3.out.of_block (fun k hk => by
        have := (HO3.out.lt_ k hk).1
        exact setRow_other _ _ _ _ (by omega))
      subst hC
      refine IsRE.ret1 (A := A3) (c := c3) (g := z) (y := ⟨d, id, (b.length : Nat), l⟩) (p := 6) (u1 := 7) ?_ ?_ ?_ ?_ (Rw.row HR3.out _) HE.out HFT.out (hown.mono_ HZ.out.2.2) (below_setRow HB3.out (by omega) _)
      all_goals rfl
  · have HE := Lib.hid (Rc.ofE_no (id := id) (b := b) hm)
    have HEN : Hid (Bp.encE P b = ([], 11)) := by unfold Hid Bp.encE; rw [if_neg hm]
    rw [HEN.out] at HEC
    clear hm
    go_enter Try.func19, Try.ntmps19
    go_wp2_with (fail)
    refine (HEC.out).mono ?_
    rintro e w1 ⟨A1, c1, rfl, ho1, hb1⟩
    have HR1 : Hid (Rw w1 z 27 N) := HRN.out.below hb1 HZ.out.2.1
    have HB1 := Lib.hid (HBV.out.trans (hb1.mono HBV.out.size))
    clear HEC hb1 dV ho1
    go_wp2_with (first
      | (refine wpList_build_at rfl 27 _ rfl N hb0 ?_)
      | (refine wpList_store_row rfl _ _ _ rfl z N rfl rfl 27 _ HR1.out hsz rfl hone ?_))
    exact IsRE.ret0 rfl hN rfl rfl rfl (Rw.row HR1.out N) HE.out rfl (below_setRow HB1.out (by have := HZ.out; omega) _)
end Go.Proofs.Ytkialijipcbgkaa
namespace Go.Proofs.Ytkialijipcbgkaa
open Go.RowKit
set_option linter.unusedVariables false
set_option maxHeartbeats 2000000 in
set_option maxRecDepth 100000 in
theorem pintsEq_any (a b : List Int) (u v : Value) (B B' : Nat) (w : World) (hu : Lv iK w B u a) (hv : Lv iK w B' v b) (hB : B ≤ w.heap.size) (hB' : B' ≤ w.heap.size) :
    Calls Try.prog 51 #[u, v] w (IsBool (decide (a = b)) w) := by
  have HU := Lib.hid hu
  have HV := Lib.hid hv
  obtain ⟨A1, c1, rfl, k1, k2, -, -, -⟩ := hu
  obtain ⟨A2, c2, rfl, k3, k4, -, -, -⟩ := hv
  have hal : a.length ≤ 9223372036854775807 := by simp only [maxLen] at k2; omega
  have hbl : b.length ≤ 9223372036854775807 := by simp only [maxLen] at k4; omega
  clear k1 k2 k3 k4
  by_cases heq : a.length = b.length
  · have hq : (((a.length : Nat) : Int) != ((b.length : Nat) : Int)) = false := by rw [heq]; simp
    have HQ := Lib.hid heq
    clear heq
    go_enter Try.func51, Try.ntmps51
    go_wp2
    go_loopw [13] (fun i wr => ∃ k : Nat, k ≤ a.length ∧ i = .int .i64 k ∧ Hid (a.take k = b.take k) ∧ Hid (Below w.heap.size w wr)) (fun i _ => a.length - (intOf i).toNat)
    case atStart => exact ⟨0, by omega, rfl, by simp [Hid], Below.refl _ _⟩
    case round =>
      obtain ⟨k, hk, rfl, HT, HBr⟩ := hrel
      by_cases hlt : k < a.length
      · obtain ⟨b1, o1, x, rfl, hb1, hx, hd, hcell⟩ := (HU.out.below_ HBr.out hB).int_ hlt
        have hlq := HQ.out
        have hlt' : k < b.length := by omega
        obtain ⟨b2, o2, y, rfl, hb2, hy, hd', hcell'⟩ := (HV.out.below_ HBr.out hB').int_ hlt'
        have HS := Lib.hid (take_both HT.out hd hd')
        clear hd hd' hx hy hlq
        by_cases hxy : x = y
        · subst hxy
          have hq2 : ((x : Int) != (x : Int)) = false := by simp
          go_wp2
          go_quiet (fail)
          go_wp2
          go_roundw
          case rel => exact ⟨k + 1, by omega, by go_num, HS.out.2 (by simp), below_drewN HBr.out _⟩
          case measure => simp [intOf]; omega
        · have hq2 : ((x : Int) != (y : Int)) = true := by rw [bne_iff_ne]; omega
          have hne : a ≠ b := take_unlike (fun e => hxy (HS.out.1 e))
          go_wp2
          go_quiet (fail)
          go_wp2
          go_ret
          exact ⟨by simp [hne], below_drewN HBr.out _⟩
      · have hlq := HQ.out
        have h1 : a = b := take_whole HT.out (by omega) (by omega)
        have HE : Hid (decide (a = b) = true) := decide_eq_true h1
        clear h1
        go_wp2
        go_ret
        exact ⟨by rw [HE.out]; rfl, HBr.out⟩
  · have hq : (((a.length : Nat) : Int) != ((b.length : Nat) : Int)) = true := by rw [bne_iff_ne]; omega
    have hne : a ≠ b := fun e => heq (by rw [e])
    have HN : Hid (decide (a = b) = false) := decide_eq_false hne
    clear heq hne
    go_enter Try.func51, Try.ntmps51
    go_wp2
    go_ret
    exact ⟨by rw [HN.out]; rfl, Below.refl _ _⟩

set_option maxHeartbeats 2000000 in
set_option maxRecDepth 100000 in
theorem prcright_any (P : List Vo.Pc) (v : Value) (r : Rc.Rec) (t : Value) (B : Nat) (w : World) (hv : Lv pK w B v P) (hf : Rc.Fit r) (ht : Lv iK w B t r.toks) (hB : B ≤ w.heap.size) :
    Calls Try.prog 23 #[.agg #[v], .agg (rcC r t)] w (IsBool (Rc.rightE P r) w) := by
  have HTK : Hid ((rcC r t)[34]? = some t) := rcC_toks hf
  have HTI : Hid ((rcC r t)[32]? = some (.int .u64 (r.id : Nat))) := rcC_id hf
  have hz35 := rc_zeroV
  have HNS : Hid (none35.size = 35) := rcC_size Rc.fit_zero
  obtain ⟨N, hN⟩ : ∃ N, none35 = N := ⟨_, rfl⟩
  rw [hN] at hz35 HNS
  clear hN
  obtain ⟨W, hW⟩ : ∃ W, w.alloc (.cells #[v] 41) = W := ⟨_, rfl⟩
  obtain ⟨d0, hs0, hb⟩ := boxed hW
  obtain ⟨z, hz⟩ : ∃ z, W.heap.size = z := ⟨_, rfl⟩
  obtain ⟨V, hV⟩ : ∃ V, W.alloc (.cells (rcC r t) 27) = V := ⟨_, rfl⟩
  obtain ⟨hR, hsz, hb2⟩ := rc_boxed hV
  rw [hz] at hR hb2
  have hbV : Below w.heap.size w V := by rw [← hV]; exact hb.alloc (by omega) _
  have dV : V.cell? ⟨w.heap.size, 0, none⟩ = some v := by rw [← hV]; exact ((Below.refl W.heap.size W).alloc (Nat.le_refl _) _ |>.cell (p := ⟨w.heap.size, 0, none⟩) (by show w.heap.size < _; omega)).trans d0
  have HD := Lib.hid (prcdoc_any P v r t B V (hv.below_ hbV hB) hf (ht.below_ hbV hB) (Nat.le_trans hB hbV.size))
  have hszC : (Try.prog.info? 27).map (·.size) = some (rcC r t).size := rc_sizeof hf
  have HID := Lib.hid hf.id
  obtain ⟨C, hC⟩ : ∃ C, rcC r t = C := ⟨_, rfl⟩
  rw [hC] at HTK HTI HD hV hR hszC ⊢
  have HR0 := Lib.hid hR
  have HZ : Hid (w.heap.size < z ∧ z < V.heap.size ∧ w.heap.size ≤ V.heap.size) := ⟨by omega, hR.lt, by omega⟩
  have HBV := Lib.hid hbV
  have HBB := Lib.hid hB
  have HV := Lib.hid hv
  have HT := Lib.hid ht
  have HDX : Hid (∀ w', Below V.heap.size V w' → w'.cell? ⟨w.heap.size, 0, none⟩ = some v) := fun w' hb' => (hb'.cell (p := ⟨w.heap.size, 0, none⟩) (by show w.heap.size < _; have := HZ.out; omega)).trans dV
  have HTX : Hid (∀ w', Below V.heap.size V w' → w'.cell? ⟨z, 34, none⟩ = some t) := fun w' hb' => ((HR0.out.below hb' HZ.out.2.1).cell 34).trans HTK.out
  have HIX : Hid (∀ w', Below V.heap.size V w' → w'.cell? ⟨z, 32, none⟩ = some (.int .u64 (r.id : Nat))) := fun w' hb' => ((HR0.out.below hb' HZ.out.2.1).cell 32).trans HTI.out
  obtain ⟨A, c, rfl, -, -, -, -, -⟩ := hv
  obtain ⟨A2, c2, rfl, k1, k2, -, -, -⟩ := ht
  clear hB hb hb2 hbV hs0 d0 k1 k2 hf hC hR hsz HTK HTI
  rcases Rc.docE_cases P r with ⟨l, hx, hdec, -, -⟩ | ⟨e, he, hx⟩
  · rw [hx] at HD
    have hml : Vo.May P ∧ l.length ≤ 4096 := by
      rcases Rc.dec_cases P r.toks with ⟨l', h1, h2, h3⟩ | ⟨e, he, h1⟩
      · rw [hdec] at h1
        simp only [Prod.mk.injEq, and_true] at h1
        subst h1
        exact ⟨h3, h2⟩
      · rw [hdec] at h1
        simp only [Prod.mk.injEq] at h1
        omega
    have HOE := Lib.hid (Rc.ofE_ok (id := r.id) hml.1 (show ¬ 4096 < l.length by omega))
    have HEN : Hid (Bp.encE P l = (Bp.enc P l, 0)) := by unfold Hid Bp.encE; rw [if_pos hml.1, if_neg (by omega)]
    have HE := Lib.hid (Rc.rightE_of hx HEN.out)
    obtain ⟨m, hm⟩ : ∃ m, Bp.enc P l = m := ⟨_, rfl⟩
    obtain ⟨d, hd⟩ : ∃ d, Sh.sum l = d := ⟨_, rfl⟩
    rw [hm] at HE
    rw [hm, hd] at HOE
    obtain ⟨id, hid⟩ : ∃ i, r.id = i := ⟨_, rfl⟩
    rw [hid] at HOE HIX HID
    clear hx hdec hml hm hd HEN hid
    go_enter Try.func23, Try.ntmps23
    go_wp2_with (first
      | (refine wpList_load_row rfl _ _ rfl z rfl 27 C (0, 0) _ HR0.out Try.underlying27 rfl (by rw [hszC]) ?_))
    refine (HD.out).mono ?_
    rintro e' w1 ⟨A1, c1, rfl, ho, hb1⟩
    have HB1 := Lib.hid hb1
    have d1 := HDX.out w1 hb1
    have i1 := HIX.out w1 hb1
    have HO1 := Lib.hid ho.form_
    have HBW1 := Lib.hid (HBV.out.trans (hb1.mono HZ.out.2.2))
    have HOF := Lib.hid (prcof_any P _ id l _ w1.heap.size w1 ((HV.out.below_ HBW1.out HBB.out).mono_ (Nat.le_trans HBB.out HBW1.out.size)) HO1.out HID.out (Nat.le_refl _))
    rw [HOE.out] at HOF
    clear HD ho hb1 dV hV hW hz
    go_wp2_with (fail)
    refine (HOF.out).mono ?_
    rintro e' w2 ⟨A3, c3, rfl, hfit2, ho, hb2⟩
    have HB2 := Lib.hid (HB1.out.trans (hb2.mono HB1.out.size))
    have hs2 : (Try.prog.info? 27).map (·.size) = some (rcC ⟨d, id, (l.length : Nat), m⟩ (.slice A3 m.length c3)).size := rc_sizeof hfit2
    have ho2 : (rcC ⟨d, id, (l.length : Nat), m⟩ (.slice A3 m.length c3)).all (·.oneCell') = true := rcC_one rfl
    have hn2 : N.size = (rcC ⟨d, id, (l.length : Nat), m⟩ (.slice A3 m.length c3)).size := by rw [HNS.out, rcC_size hfit2]
    have H34 : Hid ((rcC ⟨d, id, (l.length : Nat), m⟩ (.slice A3 m.length c3))[34]? = some (.slice A3 m.length c3)) := rcC_toks hfit2
    obtain ⟨D, hD⟩ : ∃ D, rcC ⟨d, id, (l.length : Nat), m⟩ (.slice A3 m.length c3) = D := ⟨_, rfl⟩
    have hD' : (rcC ⟨d, id, (l.length : Nat), m⟩ (.slice A3 (Rc.Rec.toks ⟨d, id, (l.length : Nat), m⟩).length c3)) = D := hD
    rw [hD] at hs2 ho2 hn2 H34
    rw [hD']
    have HO2 : Hid (Lv iK w2 w2.heap.size (.slice A3 m.length c3) m) := ho.form_
    obtain ⟨X, hX⟩ : ∃ X, (w2.alloc (.cells N 27)).setRow w2.heap.size D = X := ⟨_, rfl⟩
    have HRX : Hid (Rw X w2.heap.size 27 D) := by unfold Hid; rw [← hX]; exact (Rw.new w2 _ _).row D
    have HBX0 : Below w2.heap.size w2 X := by rw [← hX]; exact below_setRow ((Below.refl _ _).alloc (Nat.le_refl _) _) (Nat.le_refl _) _
    have HBX := Lib.hid (HB2.out.trans (HBX0.mono HB2.out.size))
    have tX := HTX.out X HBX.out
    have oX : X.cell? ⟨w2.heap.size, 34, none⟩ = some (.slice A3 m.length c3) := (HRX.out.cell 34).trans H34.out
    have HBWX := Lib.hid (HBV.out.trans (HBX.out.mono HZ.out.2.2))
    have HEQ := Lib.hid (pintsEq_any m r.toks _ _ w2.heap.size B X (HO2.out.below_ HBX0 (Nat.le_refl _)) (HT.out.below_ HBWX.out HBB.out) HBX0.size (Nat.le_trans HBB.out HBWX.out.size))
    obtain ⟨q, hq⟩ : ∃ q, decide (m = r.toks) = q := ⟨_, rfl⟩
    rw [hq] at HEQ HE
    clear HOF ho hb2 d1 i1 HO1 hfit2 hD hD' HBX0 hq
    go_wp2_with (first
      | (refine wpList_store_row rfl _ _ _ rfl w2.heap.size D rfl rfl 27 N (Rw.new w2 _ _) hs2 hn2 ho2 ?_; rw [hX]))
    refine (HEQ.out).mono ?_
    rintro e' w5 ⟨rfl, hb5⟩
    have HB5 := Lib.hid (HBWX.out.trans (hb5.mono HBWX.out.size))
    clear hb5 HEQ
    go_wp2
    go_ret
    exact ⟨by rw [HE.out]; rfl, HB5.out⟩
  · rw [hx] at HD
    have hq : ((e : Int) != 0) = true := by rw [bne_iff_ne]; omega
    have HE := Lib.hid (Rc.rightE_no hx he)
    clear hx he
    go_enter Try.func23, Try.ntmps23
    go_wp2_with (first
      | (refine wpList_load_row rfl _ _ rfl z rfl 27 C (0, 0) _ HR0.out Try.underlying27 rfl (by rw [hszC]) ?_))
    refine (HD.out).mono ?_
    rintro e' w1 ⟨A1, c1, rfl, ho, hb1⟩
    have HBW1 := Lib.hid (HBV.out.trans (hb1.mono HZ.out.2.2))
    clear HD ho hb1 dV hV hW hz
    go_wp2
    go_ret
    exact ⟨by rw [HE.out]; rfl, HBW1.out⟩
end Go.Proofs.Ytkialijipcbgkaa
namespace Go.Proofs.Ytkialijipcbgkaa
open Go.RowKit
set_option linter.unusedVariables false
theorem wpList_load_midA {P : Program} {ops : Array Oper} {rest : List Oper} {op : Oper} {a : Act} {w : World} {Q : Exit → Act → World → Prop} (hgd : op.guard = none) (ty : TypeId) (x : Operand) (ho : op.op = .load ty x)
    (b o : Nat) (hx : a.eval x = .pointer (some ⟨b, o, none⟩)) (cs : Array Value) (d : TypeDesc) (hc : w.rangeAt b o cs.toList)
    (hu : P.underlying ty = some d) (hd : d.isRow = true) (hi : (P.info? ty).map (·.size) = some cs.size)
    (h : wpList P ops Q rest (a.put op.dst (.agg cs)) w) : wpList P ops Q (op :: rest) a w :=
  wpList_load_mid hgd ty x ho b o hx cs.toList d hc hu hd (by simpa using hi) (by simpa using h)
theorem rec_ext {r s : Rc.Rec} (h1 : r.dig = s.dig) (h2 : r.id = s.id) (h3 : r.len = s.len) (h4 : r.toks = s.toks) : r = s := by
  cases r; cases s; simp_all

set_option maxHeartbeats 2000000 in
set_option maxRecDepth 100000 in
theorem rec_lv (r s : Rc.Rec) (t u : Value) (B B' : Nat) (w : World) (hf : Rc.Fit r) (hg : Rc.Fit s) (ht : Lv iK w B t r.toks) (hu : Lv iK w B' u s.toks) (hB : B ≤ w.heap.size) (hB' : B' ≤ w.heap.size) :
    Calls Try.prog 17 #[.agg (rcC r t), .agg (rcC s u)] w (IsBool (decide (r = s)) w) := by
  have HID1 : Hid ((rcC r t)[32]? = some (.int .u64 (r.id : Nat))) := rcC_id hf
  have HLN1 : Hid ((rcC r t)[33]? = some (.int .i64 r.len)) := rcC_len hf
  have HTK1 : Hid ((rcC r t)[34]? = some t) := rcC_toks hf
  have HID2 : Hid ((rcC s u)[32]? = some (.int .u64 (s.id : Nat))) := rcC_id hg
  have HLN2 : Hid ((rcC s u)[33]? = some (.int .i64 s.len)) := rcC_len hg
  have HTK2 : Hid ((rcC s u)[34]? = some u) := rcC_toks hg
  have HDG1 : Hid (∀ (w' : World) (g : Nat), Rw w' g 27 (rcC r t) → w'.rangeAt g 0 (bvs r.dig).toList) := fun w' g h => rc_digest h hf
  have HDG2 : Hid (∀ (w' : World) (g : Nat), Rw w' g 27 (rcC s u) → w'.rangeAt g 0 (bvs s.dig).toList) := fun w' g h => rc_digest h hg
  have heq := fun w' => equal32 hf.dl hg.dl hf.d8 hg.d8 w'
  have hs1 : (Try.prog.info? 23).map (·.size) = some (bvs r.dig).size := by rw [bvs_size, hf.dl]; exact digest_size
  have hs2 : (Try.prog.info? 23).map (·.size) = some (bvs s.dig).size := by rw [bvs_size, hg.dl]; exact digest_size
  obtain ⟨C, hC⟩ : ∃ C, rcC r t = C := ⟨_, rfl⟩
  obtain ⟨D, hD⟩ : ∃ D, rcC s u = D := ⟨_, rfl⟩
  rw [hC] at HID1 HLN1 HTK1 HDG1 ⊢
  rw [hD] at HID2 HLN2 HTK2 HDG2 ⊢
  obtain ⟨W, hW⟩ : ∃ W, w.alloc (.cells C 27) = W := ⟨_, rfl⟩
  obtain ⟨hR, hsz, hb⟩ := rc_boxed hW
  obtain ⟨z, hz⟩ : ∃ z, W.heap.size = z := ⟨_, rfl⟩
  obtain ⟨V, hV⟩ : ∃ V, W.alloc (.cells D 27) = V := ⟨_, rfl⟩
  obtain ⟨hS, hsz2, hb2⟩ := rc_boxed hV
  rw [hz] at hS hb2
  have hRV : Rw V w.heap.size 27 C := by rw [← hV]; exact hR.old _
  have hbV : Below w.heap.size w V := by rw [← hV]; exact hb.alloc (by omega) _
  have HR1 := Lib.hid (HDG1.out V _ hRV)
  have HR2 := Lib.hid (HDG2.out V _ hS)
  have c1 := (hRV.cell 32).trans HID1.out
  have c2 := (hRV.cell 33).trans HLN1.out
  have c3 := (hRV.cell 34).trans HTK1.out
  have e1 := (hS.cell 32).trans HID2.out
  have e2 := (hS.cell 33).trans HLN2.out
  have e3 := (hS.cell 34).trans HTK2.out
  have HI := Lib.hid (ints_lv t u r.toks s.toks B B' V (ht.below_ hbV hB) (hu.below_ hbV hB'))
  have HBV := Lib.hid hbV
  obtain ⟨D1, hD1⟩ : ∃ D, bvs r.dig = D := ⟨_, rfl⟩
  obtain ⟨D2, hD2⟩ : ∃ D, bvs s.dig = D := ⟨_, rfl⟩
  rw [hD1] at heq HR1 hs1
  rw [hD2] at heq HR2 hs2
  clear HDG1 HDG2 HID1 HLN1 HTK1 HID2 HLN2 HTK2 hC hD hR hS hb hb2 hbV ht hu hB hB' hsz hsz2 hRV hD1 hD2 hf hg
  by_cases h1 : r.dig = s.dig
  · have q1 : decide (r.dig = s.dig) = true := decide_eq_true h1
    rw [q1] at heq
    by_cases h2 : r.id = s.id
    · have q2 : (((r.id : Nat) : Int) == ((s.id : Nat) : Int)) = true := by rw [h2]; simp
      by_cases h3 : r.len = s.len
      · have q3 : (r.len == s.len) = true := by rw [h3]; simp
        have HX : Hid (decide (r.toks = s.toks) = decide (r = s)) := by
          unfold Hid
          rw [decide_eq_decide]
          exact ⟨fun h => rec_ext h1 h2 h3 h, fun h => by rw [h]⟩
        clear h1 h2 h3 q1
        go_enter Try.func17, Try.ntmps17
        go_wp2_with (first
          | (refine wpList_load_midA rfl _ _ rfl w.heap.size 0 rfl D1 _ HR1.out Try.underlying23 rfl hs1 ?_)
          | (refine wpList_load_midA rfl _ _ rfl z 0 rfl D2 _ HR2.out Try.underlying23 rfl hs2 ?_))
        refine (HI.out).mono ?_
        rintro e w2 ⟨rfl, hb2⟩
        have HB2 := Lib.hid (HBV.out.trans (hb2.mono HBV.out.size))
        rw [HX.out]
        clear hb2 HI HX
        go_wp2
        go_ret
        exact ⟨rfl, HB2.out⟩
      · have q3 : (r.len == s.len) = false := by rw [beq_eq_false_iff_ne]; exact h3
        have HX : Hid (decide (r = s) = false) := decide_eq_false fun h => h3 (by rw [h])
        clear h1 h2 h3 q1
        go_enter Try.func17, Try.ntmps17
        go_wp2_with (first
          | (refine wpList_load_midA rfl _ _ rfl w.heap.size 0 rfl D1 _ HR1.out Try.underlying23 rfl hs1 ?_)
          | (refine wpList_load_midA rfl _ _ rfl z 0 rfl D2 _ HR2.out Try.underlying23 rfl hs2 ?_))
        go_ret
        exact ⟨by rw [HX.out]; rfl, HBV.out⟩
    · have q2 : (((r.id : Nat) : Int) == ((s.id : Nat) : Int)) = false := by rw [beq_eq_false_iff_ne]; omega
      have HX : Hid (decide (r = s) = false) := decide_eq_false fun h => h2 (by rw [h])
      clear h1 h2 q1
      go_enter Try.func17, Try.ntmps17
      go_wp2_with (first
        | (refine wpList_load_midA rfl _ _ rfl w.heap.size 0 rfl D1 _ HR1.out Try.underlying23 rfl hs1 ?_)
        | (refine wpList_load_midA rfl _ _ rfl z 0 rfl D2 _ HR2.out Try.underlying23 rfl hs2 ?_))
      go_ret
      exact ⟨by rw [HX.out]; rfl, HBV.out⟩
  · have q1 : decide (r.dig = s.dig) = false := decide_eq_false h1
    rw [q1] at heq
    have HX : Hid (decide (r = s) = false) := decide_eq_false fun h => h1 (by rw [h])
    clear h1 q1
    go_enter Try.func17, Try.ntmps17
    go_wp2_with (first
      | (refine wpList_load_midA rfl _ _ rfl w.heap.size 0 rfl D1 _ HR1.out Try.underlying23 rfl hs1 ?_)
      | (refine wpList_load_midA rfl _ _ rfl z 0 rfl D2 _ HR2.out Try.underlying23 rfl hs2 ?_))
    go_ret
    exact ⟨by rw [HX.out]; rfl, HBV.out⟩
end Go.Proofs.Ytkialijipcbgkaa
