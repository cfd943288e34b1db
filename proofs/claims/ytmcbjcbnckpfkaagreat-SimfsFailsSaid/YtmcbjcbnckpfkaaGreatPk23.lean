/-
  PfFi: simfs: Fail.
  PfL: simfs: findPlace, Size, Read.
  PfLay: simfs: lay.
-/
import Derived.Test.YtmcbjcbnckpfkaaGreatPk21
import Derived.Test.YtmcbjcbnckpfkaaGreatPk22
import Derived.Test.YtmcbjcbnckpfkaaGreatPk16
import Derived.Test.YtmcbjcbnckpfkaaGreatPk14
import Derived.JoinedCond
import Derived.Test.YtmcbjcbnckpfkaaGreatPk18
import Derived.Deep.QuietTactic
import Derived.BigQuiet
import Derived.Deep.RegionHeld3
namespace Go.Proofs.YtmcbjcbnckpfkaaGreat
open Go.RowKit
set_option linter.unusedVariables false
section
variable {w : World} {fp : Fp} {t : Sf.St} {b : Nat}
set_option maxHeartbeats 16000000 in
set_option maxRecDepth 100000 in
theorem pfail_any (h : PDisk w fp t b) (v : Value) (B : Nat) (l : List Int) (hv : Lv iK w B v l) (hB : B ≤ w.heap.size) : Calls Tryz.prog 14 #[.pointer (some ⟨b, 0, none⟩), v] w (IsDisk PDisk (Sf.fail t l) w) := by
  obtain ⟨who, bf, bs, bn, vr, ff, rn, h⟩ := h
  obtain ⟨cA, cc, rfl, hcc⟩ := hv
  have hv : Lv iK w B (.slice cA l.length cc) l := ⟨cA, cc, rfl, hcc⟩
  clear hcc
  have CM := Lib.hid (pmade_cell (w := w) (b := b) (some bf) (h.cell rfl))
  obtain ⟨p, hp⟩ : ∃ p, w.heap.size = p := ⟨_, rfl⟩
  obtain ⟨w1, hw1⟩ : ∃ w1, w.alloc (.cells #[.slice cA l.length cc] 73) = w1 := ⟨_, rfl⟩
  have hb1 : Below p w w1 := by rw [← hw1, ← hp]; exact (Below.refl _ _).alloc (Nat.le_refl _) _
  have hs1 : w1.heap.size = p + 1 := by rw [← hw1, ← hp]; simp
  have hL1 : Left w1 p B l := ⟨by omega, _, by rw [← hw1, ← hp]; exact heap_alloc_new _ _, hv.below_ hb1 (by omega)⟩
  have hH1 := h.below (by rw [hp]; exact hb1)
  have c13 : w1.cell? ⟨b, 3, none⟩ = some (.map (some bs)) := hH1.cell rfl
  have CC := Lib.hid (pmclone_any bs _ _ w1 hH1.body.sure)
  have HH := Lib.hid h
  have HL1 := Lib.hid hL1
  have HB1 := Lib.hid hb1
  have HS1 := Lib.hid hs1
  have HP := Lib.hid hp
  clear h hv hB hb1 hL1 hH1
  go_enter Tryz.func14, Tryz.ntmps14
  go_wp2_with fail
  refine CM.out.mono ?_
  rintro e1 w0 ⟨rfl, rfl⟩
  clear CM
  go_wp2_with fail
  refine CC.out.mono ?_
  rintro e2 w2 ⟨rfl, hm2, hb2, hs2⟩
  have HM2 : Hid (IsMp dM w2 (p + 1) (64 + t.acts + 0) (Sf.dirF t.sure)) := by rw [hs1] at hm2; exact hm2
  have HB2 : Hid (Below p w w2) := HB1.out.trans (hb2.mono (by omega))
  have HS2 : Hid (w2.heap.size = p + 2) := by unfold Hid; omega
  have HL2 : Hid (Left w2 p B l) := HL1.out.turned (Turned.of_below hb2) (fun k hk => by have := HL1.out.1; omega)
  rw [hs1]
  clear CC hm2 hb2 hs2 c13
  obtain ⟨vA, vn, vc⟩ := vr
  have HP2 := Lib.hid (HH.out.below (by have := HP.out; rw [this]; exact HB2.out))
  have hrv : Lv nK w2 p (.slice vA vn vc) rn := by
    have h1 := HH.out.body.row.form_
    have h2 : Lv nK w w.heap.size (.slice vA vn vc) rn := h1
    exact (h2.below_ (by rw [HP.out]; exact HB2.out) (Nat.le_refl _)).mono_ (by have := HP.out; omega)
  obtain ⟨hvn, hvc, _⟩ := hrv.len_
  subst hvn
  have HRV := Lib.hid hrv
  have hrl : t.row.length = rn.length := by have := HH.out.body.hrow; rw [this, Sf.dirs_len]
  have hrb : rn.length ≤ 1099511627776 := by have := HH.out.good.rows; have := HH.out.good.acts; omega
  have HBD : Hid (64 + t.acts + 0 + rn.length < maxLen) := by
    have := HH.out.good.acts
    simp only [Hid, maxLen]
    omega
  have HCL : Hid (∀ w', Turned (fun k => k = p) w2 w' → w'.cell? ⟨b, 4, none⟩ = some (.slice vA rn.length vc)) := fun w' ht => (HP2.out.turned ht (fun k hk => HH.out.new (by rw [hk, ← HP.out]; exact Nat.le_refl _))).cell rfl
  have CO := Lib.hid (pof_any w2.drew p B l (HL2.out.turned ((Turned.refl (fun _ => False) w2).drew) (fun _ h => h.elim)) (rn.length + 1) (by omega) (by omega))
  have hadd : IntKind.i64.wrap ((rn.length : Int) + 1) = ((rn.length + 1 : Nat) : Int) := by rw [IntKind.wrap_i64]; omega
  have htk := Sf.took_le l rn.length
  have HDO := Lib.hid (Sf.dirOf_fold HH.out.body.hrow l)
  rw [hrl] at HDO
  obtain ⟨n, hn⟩ : ∃ n, Sf.took l (rn.length + 1) = n := ⟨_, rfl⟩
  rw [hn] at CO HDO htk
  have k1 : ∀ w, (Instr.slice 78 (.slice vA rn.length vc) none (some (.int .i64 (n : Nat))) none).run Tryz.prog w = .ok (.slice vA n vc) w := fun w => cut_to nK rfl vA rn.length vc n (by omega) w
  have k2 : ∀ w, (Instr.sliceAt 78 (.slice vA rn.length vc) none (some (.int .i64 (n : Nat))) none).run Tryz.prog w = .ok (.slice vA n vc) w := fun w => cutAt_to nK rfl vA rn.length vc n (by omega) w
  have HN : Hid (n ≤ rn.length) := htk
  have hnl : n ≤ 9223372036854775807 := by omega
  clear hrv hvc htk hn hrl hrb
  go_wp2
  refine wp_region_held_drew (S := fun w' => Turned (fun k => k = p) w2 w') (by kernel_rfl) ((Turned.refl _ w2).drew) (fun hH => ?_)
  refine wpAnyH_take (i := 0) (v := ?_) rfl (by kernel_rfl) (by kernel_rfl) (by kernel_rfl) (fun _ _ _ h => h) (Or.inl ⟨by rfl, (by intro w' hSw; go_simp; first | done | with_reducible rfl)⟩) hH ?_
  try simp only [Act.put, List.getElem_toArray, List.getElem_cons_zero, List.setIfInBounds_toArray, List.set_cons_zero, List.set_cons_succ]
  refine wpAnyH_take (i := 1) (v := ?_) rfl (by kernel_rfl) (by kernel_rfl) (by kernel_rfl) (fun _ _ _ h => h) (Or.inl ⟨by rfl, (by intro w' hSw; go_simp; first | done | with_reducible rfl)⟩) hH ?_
  try simp only [Act.put, List.getElem_toArray, List.getElem_cons_succ, List.getElem_cons_zero, List.setIfInBounds_toArray, List.set_cons_zero, List.set_cons_succ]
  refine wpAnyH_take (i := 2) (v := ?_) rfl (by kernel_rfl) (by kernel_rfl) (by kernel_rfl) (fun _ _ _ h => h) (Or.inl ⟨by rfl, (by intro w' hSw; go_simp; first | done | with_reducible rfl)⟩) hH ?_
  try simp only [Act.put, List.getElem_toArray, List.getElem_cons_succ, List.getElem_cons_zero, List.setIfInBounds_toArray, List.set_cons_zero, List.set_cons_succ]
  refine wpAnyH_take (i := 3) (v := ?_) rfl (by kernel_rfl) (by kernel_rfl) (by kernel_rfl) (fun _ _ _ h => h) (Or.inl ⟨by rfl, (by intro w' hSw; have s1 := HCL.out w' hSw; go_simp; first | done | with_reducible rfl)⟩) hH ?_
  try simp only [Act.put, List.getElem_toArray, List.getElem_cons_succ, List.getElem_cons_zero, List.setIfInBounds_toArray, List.set_cons_zero, List.set_cons_succ]
  refine wpAnyH_take (i := 4) (v := ?_) rfl (by kernel_rfl) (by kernel_rfl) (by kernel_rfl) (fun _ _ _ h => h) (Or.inl ⟨by rfl, (by intro w' hSw; go_simp; first | done | with_reducible rfl)⟩) hH ?_
  try simp only [Act.put, List.getElem_toArray, List.getElem_cons_succ, List.getElem_cons_zero, List.setIfInBounds_toArray, List.set_cons_zero, List.set_cons_succ]
  refine wpAnyH_take (i := 5) (v := ?_) rfl (by kernel_rfl) (by kernel_rfl) (by kernel_rfl) (fun _ _ _ h => h) (Or.inl ⟨by rfl, (by intro w' hSw; go_simp; first | done | with_reducible rfl)⟩) hH ?_
  try simp only [Act.put, List.getElem_toArray, List.getElem_cons_succ, List.getElem_cons_zero, List.setIfInBounds_toArray, List.set_cons_zero, List.set_cons_succ]
  refine wpAnyH_take (i := 6) (v := ?_) rfl (by kernel_rfl) (by kernel_rfl) (by kernel_rfl) (fun _ _ _ h => h) (Or.inl ⟨by rfl, (by intro w' hSw; go_simp; first | done | with_reducible rfl)⟩) hH ?_
  try simp only [Act.put, List.getElem_toArray, List.getElem_cons_succ, List.getElem_cons_zero, List.setIfInBounds_toArray, List.set_cons_zero, List.set_cons_succ]
  refine wpAnyH_take (i := 7) (v := ?_) rfl (by kernel_rfl) (by kernel_rfl) (by kernel_rfl) (fun _ _ _ h => h) (Or.inl ⟨by rfl, (by intro w' hSw; go_simp; first | done | with_reducible rfl)⟩) hH ?_
  try simp only [Act.put, List.getElem_toArray, List.getElem_cons_succ, List.getElem_cons_zero, List.setIfInBounds_toArray, List.set_cons_zero, List.set_cons_succ]
  refine wpAnyH_take (i := 8) (v := ?_) rfl (by kernel_rfl) (by kernel_rfl) (by kernel_rfl) (fun _ _ _ h => h) (Or.inl ⟨by rfl, (by intro w' hSw; have s1 := HCL.out w' hSw; go_simp; first | done | with_reducible rfl)⟩) hH ?_
  try simp only [Act.put, List.getElem_toArray, List.getElem_cons_succ, List.getElem_cons_zero, List.setIfInBounds_toArray, List.set_cons_zero, List.set_cons_succ]
  refine wpAnyH_take (i := 9) (v := ?_) rfl (by kernel_rfl) (by kernel_rfl) (by kernel_rfl) (fun _ _ _ h => h) (Or.inl ⟨by rfl, (by intro w' hSw; go_simp; first | done | with_reducible rfl)⟩) hH ?_
  try simp only [Act.put, List.getElem_toArray, List.getElem_cons_succ, List.getElem_cons_zero, List.setIfInBounds_toArray, List.set_cons_zero, List.set_cons_succ]
  refine wpAnyH_take (i := 10) (v := ?_) rfl (by kernel_rfl) (by kernel_rfl) (by kernel_rfl) (fun _ _ _ h => h) (Or.inl ⟨by rfl, (by intro w' hSw; go_simp; first | done | with_reducible rfl)⟩) hH ?_
  try simp only [Act.put, List.getElem_toArray, List.getElem_cons_succ, List.getElem_cons_zero, List.setIfInBounds_toArray, List.set_cons_zero, List.set_cons_succ]
  refine wpAnyH_take (i := 14) (v := ?_) rfl (by kernel_rfl) (by kernel_rfl) (by kernel_rfl) (fun _ _ _ h => h) (Or.inl ⟨by rfl, (by intro w' hSw; go_simp; first | done | with_reducible rfl)⟩) hH ?_
  try simp only [Act.put, List.getElem_toArray, List.getElem_cons_succ, List.getElem_cons_zero, List.setIfInBounds_toArray, List.set_cons_zero, List.set_cons_succ]
  refine wpAnyH_ready (rs := [11]) (by kernel_rfl) (by simp) ?_
  refine AllReadyH.cons rfl (fun K hK => ?_) AllReadyH.nil
  go_simp
  refine CO.out.mono ?_
  rintro e w3 ⟨rfl, hL3, hT3⟩
  have HL3 := Lib.hid hL3
  have hT23 : Turned (fun k => k = p) w2 w3 := ((Turned.refl (fun k => k = p) w2).drew).trans hT3 (fun _ _ h => h)
  have HT3 := Lib.hid hT23
  refine hK.out _ _ hT23 (fun hH => ?_)
  clear hK K CO hL3 hT3 hT23
  try simp only [Act.put, List.getElem_toArray, List.getElem_cons_succ, List.getElem_cons_zero, List.setIfInBounds_toArray, List.set_cons_zero, List.set_cons_succ]
  refine wpAnyH_take (i := 12) (v := ?_) rfl (by kernel_rfl) (by kernel_rfl) (by kernel_rfl) (fun _ _ _ h => h) (Or.inl ⟨by rfl, (by intro w' hSw; go_simp; first | done | with_reducible rfl)⟩) hH ?_
  try simp only [Act.put, List.getElem_toArray, List.getElem_cons_succ, List.getElem_cons_zero, List.setIfInBounds_toArray, List.set_cons_zero, List.set_cons_succ]
  refine wpAnyH_take (i := 13) (v := ?_) rfl (by kernel_rfl) (by kernel_rfl) (by kernel_rfl) (fun _ _ _ h => h) (Or.inl ⟨by rfl, (by intro w' hSw; go_simp; first | done | with_reducible rfl)⟩) hH ?_
  try simp only [Act.put, List.getElem_toArray, List.getElem_cons_succ, List.getElem_cons_zero, List.setIfInBounds_toArray, List.set_cons_zero, List.set_cons_succ]
  refine wpAnyH_done (by kernel_rfl) ?_ _
  clear hH
  have HB3 : Hid (Below p w w3) := ((Turned.of_below HB2.out).trans HT3.out (fun k _ h => by omega)).below (by have := HP.out; omega) (fun k h => h)
  have HM3 : Hid (IsMp dM w3 (p + 1) (64 + t.acts + 0) (Sf.dirF ((rn.take 0).foldl Sf.doN t.sure))) := HM2.out.turned_ HT3.out (by omega)
  have HS3 : Hid (p + 2 ≤ w3.heap.size) := by have := HT3.out.size; have := HS2.out; unfold Hid; omega
  have HRV3 : Hid (∀ wr, Turned (fun k => p + 1 ≤ k) w3 wr → Lv nK wr p (.slice vA rn.length vc) rn) := fun wr ht => (HRV.out.below_ (((Turned.of_below (Below.refl p w2)).trans HT3.out (fun k _ h => by omega)).below (by have := HS2.out; omega) (fun k h => h)) (Nat.le_refl _)).below_ (ht.below (B := p) (by have := HS3.out; omega) (fun k h => by omega)) (Nat.le_refl _)
  clear HM2 HL2 HP2 HRV HCL HS2 HB2
  go_wp2
  go_loopw [38] (fun i wr => ∃ k : Nat, k ≤ n ∧ i = .int .i64 k ∧ Hid (Turned (fun k => p + 1 ≤ k) w3 wr) ∧ Hid (IsMp dM wr (p + 1) (64 + t.acts + 0 + k) (Sf.dirF ((rn.take k).foldl Sf.doN t.sure)))) (fun i _ => n - (intOf i).toNat)
  case atStart => exact ⟨0, Nat.zero_le _, rfl, Turned.refl _ _, HM3.out⟩
  case round =>
    obtain ⟨k, hk, rfl, HT, HM⟩ := hrel
    clear HM3
    by_cases hlt : k < n
    · obtain ⟨rb, off, r, rfl, hbp, hrok, hr, hc⟩ := (HRV3.out wr HT.out).at_ (show k < rn.length by have := HN.out; omega)
      have e0 : wr.cell? ⟨rb, off + k * 3, none⟩ = some (.string r.gone) := hc 0 _ rfl
      have e1 : wr.cell? ⟨rb, off + k * 3 + 1, none⟩ = some (.string r.come) := hc 1 _ rfl
      have e2 : wr.cell? ⟨rb, off + k * 3 + 2, none⟩ = some (.int .i64 (r.num : Nat)) := hc 2 _ rfl
      have HFO : Hid ((rn.take (k + 1)).foldl Sf.doN t.sure = Sf.doN ((rn.take k).foldl Sf.doN t.sure) r) := by
        unfold Hid
        rw [List.take_add_one, hr, List.foldl_append]
        rfl
      obtain ⟨gone, come, num⟩ := r
      simp only at e0 e1 e2
      obtain ⟨r1, r2, r3⟩ := hrok
      simp only at r1 r2 r3
      obtain ⟨wp, hwp⟩ : ∃ wp, wr.alloc (.cells #[.string gone, .string come, .int .i64 (num : Nat)] 83) = wp := ⟨_, rfl⟩
      have hgp : wr.grownBy wp none := by rw [← hwp]; exact World.grownBy_alloc wr _ none
      have hbxp : wp.heap[wr.heap.size]? = some (.cells #[.string gone, .string come, .int .i64 (num : Nat)] 83 (0, 0)) := by rw [← hwp]; exact heap_alloc_new _ _
      have d0' : wp.cell? ⟨wr.heap.size, 0, none⟩ = some (.string gone) := by rw [cell_of_row _ _ 0 _ _ _ hbxp]; rfl
      have d1' : wp.cell? ⟨wr.heap.size, 1, none⟩ = some (.string come) := by rw [cell_of_row _ _ 1 _ _ _ hbxp]; rfl
      have d2' : wp.cell? ⟨wr.heap.size, 2, none⟩ = some (.int .i64 (num : Nat)) := by rw [cell_of_row _ _ 2 _ _ _ hbxp]; rfl
      have CD := Lib.hid (pdirdo_any _ ⟨gone, come, num⟩ (p + 1) _ wp (HM.out.of_block (hgp.block (p + 1) HM.out.lt_ (by simp))) (by have := HN.out; have := HBD.out; omega) r1 r2 r3)
      change Hid (Calls _ _ #[.map (some (p + 1)), .agg #[.string gone, .string come, .int .i64 (num : Nat)]] wp _) at CD
      have hki : (k : Int) < (n : Int) := by omega
      have wk : IntKind.i64.wrap ((k : Int) + 1) = (k : Int) + 1 := by rw [IntKind.wrap_i64]; omega
      have HGP := Lib.hid hgp
      clear hc hr hgp hbxp hbp r1 r2 r3
      go_wp2_with fail
      refine CD.out.mono ?_
      rintro e W2 ⟨⟨y, rfl⟩, hm4, hg4⟩
      have HM4 := Lib.hid hm4
      have HG4 := Lib.hid hg4
      clear CD hm4 hg4
      go_wp2
      go_roundw
      case rel =>
        refine ⟨k + 1, hlt, by go_num, ?_, ?_⟩
        · exact (HT.out.trans (Turned.of_grown HGP.out) (fun j _ h => by cases h)).trans (Turned.of_grown HG4.out) (fun j _ h => by have := Option.some.inj h; omega)
        · rw [HFO.out]; exact HM4.out
      case measure => simp [intOf]; omega
    · obtain rfl : k = n := by omega
      have hki : ¬ ((k : Int) < (k : Int)) := by omega
      rw [← HDO.out] at HM
      have hmem := Sf.dirOf_mem t l
      obtain ⟨d, hd⟩ : ∃ d, Sf.dirOf t l = d := ⟨_, rfl⟩
      rw [hd] at HM hmem
      have HDE : Hid (Sf.dirOf t l = d) := hd
      have HDok : Hid (Sf.OkDir d) := by
        rcases hmem with e | e
        · unfold Hid; rw [e]; exact HH.out.good.sure
        · exact HH.out.good.row d e
      have HDl : Hid (d.length ≤ 64 ∧ ∀ e ∈ d, e.2 < t.files.length) := HH.out.good.lens d (hmem.imp id (fun h => .inr h))
      have HDr : Hid (∀ e ∈ d, Reach t e.2) := fun e he => ⟨d, hmem.imp id (fun h => .inr h), e, he, rfl⟩
      have HBr : Hid (Below p w wr) := ((Turned.of_below HB3.out).trans HT.out (fun j _ h => by omega)).below (by have := HP.out; omega) (fun k h => h)
      have c0r : wr.cell? ⟨b, 0, none⟩ = some (.int .i64 (t.room : Nat)) := (HH.out.below (by rw [HP.out]; exact HBr.out)).cell rfl
      have CE := Lib.hid (pempty_any t.room HH.out.good.room wr)
      have hsr := HT.out.size
      have HLr : Hid (Left wr p B (l.drop 1)) := HL3.out.turned HT.out (fun j hj => by have := HL3.out.1; omega)
      have HSr : Hid (p + 2 ≤ wr.heap.size) := by have := HS3.out; unfold Hid; omega
      clear hd hmem HT HRV3 HL3 HB3 HS3 hsr k1 k2
      obtain ⟨q, hq⟩ : ∃ q, wr.heap.size = q := ⟨_, rfl⟩
      rw [hq] at CE HSr
      go_wp2_with fail
      refine CE.out.mono ?_
      rintro e w5 ⟨rfl, hP5, hB5, hm5, hn5⟩
      have hM5 : IsMp dM w5 (p + 1) (64 + t.acts + 0 + k) (Sf.dirF d) := HM.out.below_ hB5 (by have := HSr.out; omega)
      have CR := Lib.hid (prising_any (p + 1) _ d w5 hM5 HDok.out HDl.out.1)
      have HP5 := Lib.hid hP5
      have HB5 := Lib.hid hB5
      have HM5 := Lib.hid hM5
      have HF5 := Lib.hid hm5
      have HN5 := Lib.hid hn5
      have HQ := Lib.hid hq
      clear CE hP5 hB5 hm5 hn5 hM5 HM c0r
      go_wp2_with fail
      refine CR.out.mono ?_
      rintro e w6 ⟨nA, nc, rfl, hO6, hB6⟩
      have hs5 := HP5.out.lt (q + 3) (by rw [HP5.out.mine]; rfl)
      have HO6 := Lib.hid hO6
      have HM6 : Hid (IsMp dM w6 (p + 1) (64 + t.acts + 0 + k) (Sf.dirF d)) := HM5.out.below_ hB6 (by have := HSr.out; omega)
      have HL6 : Hid (Left w6 p B (Sf.rest t (d.take 0) (l.drop 1))) := by
        have h1 : Left w5 p B (l.drop 1) := HLr.out.turned (Turned.of_below HB5.out) (fun j hj => by have := HLr.out.1; have := HSr.out; omega)
        exact h1.turned (Turned.of_below hB6) (fun j hj => by have := HLr.out.1; have := HSr.out; omega)
      have hP6 := HP5.out.below hB6
      have HFl6 : Hid (Fl w6 (who0 q) t (l.drop 1) d 0 (q + 3) q (q + 1) (q + 2) (fun _ => none)) :=
        ⟨hP6.head, HF5.out.below_ hB6 (by omega), by have h1 := HN5.out.below_ hB6 (by omega); rw [List.take_zero]; exact h1.congr_ (fun _ _ => rfl), fun i x hx => (by cases hx), fun n hn => absurd hn (Nat.not_lt_zero n), HP5.out.mine, HP5.out.body.filesW, HP5.out.body.namesW, HP5.out.body.sureW, hP6.lt⟩
      have hml : (d.map (·.1)).length = d.length := List.length_map _
      have HB06 : Hid (Below p w w6) := ((Turned.of_below HBr.out).trans ((Turned.of_below HB5.out).trans (Turned.of_below hB6) (fun j _ h => by omega)) (fun j _ h => by have := HSr.out; omega)).below (by have := HP.out; omega) (fun k h => h)
      rw [hml] at HO6
      rw [hml]
      obtain ⟨N, hN⟩ : ∃ N, w6.heap.size = N := ⟨_, rfl⟩
      have HNN : Hid (w6.heap.size = N ∧ q + 4 ≤ w5.heap.size ∧ w5.heap.size ≤ N) := ⟨hN, by omega, by have := hB6.size; omega⟩
      clear CR hO6 hB6 hP6 HP5 HB5 HM5 HF5 HN5 HBr HLr hs5 hml hN
      have hdl : d.length ≤ 64 := HDl.out.1
      go_wp2
      go_loopw [54] (fun i wr => ∃ (j : Nat) (who' : Who) (ff' : Int → Option RawX), j ≤ d.length ∧ i = .int .i64 j ∧ Hid (Turned (fun k => k = p ∨ k = q ∨ k = q + 2 ∨ N ≤ k) w6 wr) ∧ Hid (Fl wr who' t (l.drop 1) d j (q + 3) q (q + 1) (q + 2) ff') ∧ Hid (Left wr p B (Sf.rest t (d.take j) (l.drop 1))) ∧ Hid (∀ k, (who' k).isSome → (q ≤ k ∧ k < q + 4) ∨ N ≤ k)) (fun i _ => d.length - (intOf i).toNat)
      case atStart => exact ⟨0, who0 q, fun _ => none, Nat.zero_le _, rfl, Turned.refl _ _, HFl6.out, HL6.out, fun k hk => .inl (who0_some hk)⟩
      case round =>
        obtain ⟨j, who', ff', hj, rfl, HT, HFl, HL, HLO⟩ := hrel
        clear HFl6 HL6
        have HBr : Hid (Below p w wr) := ((Turned.of_below HB06.out).trans HT.out (fun j _ h => by have := HSr.out; have := HNN.out; omega)).below (by have := HP.out; omega) (fun k h => h)
        have hsr := HT.out.size
        by_cases hlt : j < d.length
        · obtain ⟨e, he⟩ : ∃ e, d[j]? = some e := ⟨_, List.getElem?_eq_getElem hlt⟩
          have hmem : e ∈ d := by
            obtain ⟨h1, h2⟩ := List.getElem?_eq_some_iff.1 he
            rw [← h2]; exact List.getElem_mem h1
          have hOr : OwnQ sK wr w5.heap.size (.slice nA d.length nc) (d.map (·.1)) := HO6.out.turned_ HT.out (fun k hk h => by
            have h1 := HO6.out.lt_ k hk
            have h2 := HNN.out
            have h3 := HSr.out
            omega)
          obtain ⟨xb, off, xs, rfl, _, hxm, hxs, cx⟩ := hOr.form_.str_ (k := j) (by rw [List.length_map]; exact hlt)
          rw [List.getElem?_map, he] at hxs
          have hxe : e.1 = xs := Option.some.inj hxs
          subst hxe
          obtain ⟨x, hx, hxl, hX⟩ := HH.out.file_at (HDr.out e hmem)
          have hfd : Sf.dirF d e.1 = some (e.2 : Int) := by
            unfold Sf.dirF
            rw [HDok.out.find.2 (show (e.1, e.2) ∈ d from hmem)]
            rfl
          have hno : ∀ k, p ≤ k → who k = none := fun k hk => HH.out.new (by rw [HP.out]; exact hk)
          obtain ⟨S1, hS1⟩ : ∃ S : Nat → Prop, (fun k => k = p ∨ wr.heap.size ≤ k) = S := ⟨_, rfl⟩
          have HS1' : Hid (∀ k, S1 k ↔ (k = p ∨ wr.heap.size ≤ k)) := fun k => by rw [← hS1]
          have HSN : Hid (N ≤ wr.heap.size) := by have := HNN.out; unfold Hid; omega
          have HTS : Hid (∀ w', Turned S1 wr w' → Turned (fun k => p ≤ k) w w') := fun w' ht => (Turned.of_below HBr.out).trans ht (fun k _ h => by have := (HS1'.out k).1 h; have := HSN.out; have := HNN.out; have := HSr.out; omega)
          have HCF : Hid (∀ w', Turned S1 wr w' → w'.cell? ⟨b, 1, none⟩ = some (.map (some bf))) := fun w' ht => (HH.out.turned (HTS.out w' ht) (fun k hk => hno k hk)).cell rfl
          have HCH : Hid (∀ w', Turned S1 wr w' → Fl w' who' t (l.drop 1) d j (q + 3) q (q + 1) (q + 2) ff') := fun w' ht => HFl.out.turned ht (fun k hk => by
            rcases (HS1'.out k).1 hk with h | h
            · cases hw : who' k with
              | none => rfl
              | some r =>
                have h1 := HLO.out k (by rw [hw]; rfl)
                have h2 := HSr.out
                have h3 := HNN.out
                omega
            · exact HFl.out.new h)
          have HCG : Hid (∀ w', Turned S1 wr w' → w'.cell? ⟨q + 3, 1, none⟩ = some (.map (some q))) := fun w' ht => head_cellP (HCH.out w' ht).head rfl
          have HLK1 : Hid (∀ w', Turned S1 wr w' → (Instr.lookup 75 (.map (some (p + 1))) (.string e.1) false).run Tryz.prog w' = .ok (.int .i64 (e.2 : Nat)) w') := fun w' ht => by
            have hM : IsMp dM w' (p + 1) (64 + t.acts + 0 + k) (Sf.dirF d) := (HM6.out.turned_ HT.out (by have := HSr.out; have := HNN.out; omega)).turned_ ht (fun h => by have := (HS1'.out _).1 h; have := HSr.out; have := HSN.out; have := HNN.out; omega)
            have := hM.look (x := e.1) (Sf.name_max (HDok.out.name e hmem))
            rw [hfd] at this
            exact this
          have hmi : (Lit.int .i64 (e.2 : Int)).wf = true := WalkArith.wf_i64 (by have := HH.out.good.files; have := HH.out.good.acts; omega)
          have HLK2 : Hid (∀ w', Turned S1 wr w' → (Instr.lookup 77 (.map (some bf)) (.int .i64 (e.2 : Nat)) false).run Tryz.prog w' = .ok (xV x) w') := fun w' ht => by
            have hM := (HH.out.turned (HTS.out w' ht) (fun k hk => hno k hk)).body.files
            have := hM.look (x := (e.2 : Int)) hmi
            rw [hx] at this
            exact this
          have hXr : HasX wr.drew who e.2 x (Sf.fileAt t e.2) := hX.turned ((Turned.of_below HBr.out).drew) (fun k hk => by rw [hno k hk]; simp)
          have CL := Lib.hid (pleft_any wr.drew hXr p B (Sf.rest t (d.take j) (l.drop 1)) (HL.out.turned ((Turned.refl (fun _ => False) wr).drew) (fun _ h => h.elim)) (hno p (Nat.le_refl _)))
          have HRS : Hid (Sf.rest t (d.take (j + 1)) (l.drop 1) = (Sf.kept1 (Sf.fileAt t e.2) (Sf.rest t (d.take j) (l.drop 1))).2) := by
            unfold Hid
            rw [List.take_add_one, he]
            exact Sf.rest_snoc t e _ _
          have HKL := Lib.hid (Sf.kept1_len hX.ok (Sf.rest t (d.take j) (l.drop 1)))
          obtain ⟨k1, hk1⟩ : ∃ k1, Sf.kept1 (Sf.fileAt t e.2) (Sf.rest t (d.take j) (l.drop 1)) = k1 := ⟨_, rfl⟩
          rw [hk1] at CL HRS HKL
          obtain ⟨b1, l1⟩ := k1
          simp only at CL HRS HKL
          have HK1 : Hid ((Sf.kept1 (Sf.fileAt t e.2) (Sf.rest t (d.take j) (l.drop 1))).1 = b1) := by unfold Hid; rw [hk1]
          obtain ⟨C, hC⟩ : ∃ C, xV x = C := ⟨_, rfl⟩
          rw [hC] at CL HLK2
          have HE := Lib.hid he
          have HDN := Lib.hid (Sf.dirF_numbered HDok.out he)
          have HEM : Hid (e.1.size ≤ maxLen) := hxm
          have hji : (j : Int) < (d.length : Int) := by omega
          have wj : IntKind.i64.wrap ((j : Int) + 1) = (j : Int) + 1 := by rw [IntKind.wrap_i64]; omega
          obtain ⟨ename, enum⟩ := e
          simp only at cx HLK1 HLK2 HDN HEM HRS HK1
          clear he hmem hOr hxs hx hxl hX hfd hno hS1 hmi hXr hk1 hC hsr hxm
          go_wp2
          refine wp_region_m (fun w' => Turned S1 wr w') 16 (by kernel_rfl) ?_
          have hH : Turned S1 wr wr.drew := (Turned.refl S1 wr).drew
          refine wpAnyM_take (i := 0) (v := ?_) rfl (by kernel_rfl) (by kernel_rfl) (by kernel_rfl) (by kernel_rfl) (fun _ _ _ h => h) hH (Or.inl ⟨by rfl, (by intro w' hSw; go_simp; first | done | with_reducible rfl)⟩) ?_
          try simp only [Act.put, List.getElem_toArray, List.getElem_cons_zero, List.setIfInBounds_toArray, List.set_cons_zero, List.set_cons_succ]
          refine wpAnyM_take (i := 1) (v := ?_) rfl (by kernel_rfl) (by kernel_rfl) (by kernel_rfl) (by kernel_rfl) (fun _ _ _ h => h) hH (Or.inl ⟨by rfl, (by intro w' hSw; go_simp; first | done | with_reducible rfl)⟩) ?_
          try simp only [Act.put, List.getElem_toArray, List.getElem_cons_succ, List.getElem_cons_zero, List.setIfInBounds_toArray, List.set_cons_zero, List.set_cons_succ]
          refine wpAnyM_take (i := 2) (v := ?_) rfl (by kernel_rfl) (by kernel_rfl) (by kernel_rfl) (by kernel_rfl) (fun _ _ _ h => h) hH (Or.inl ⟨by rfl, (by intro w' hSw; go_simp; first | done | with_reducible rfl)⟩) ?_
          try simp only [Act.put, List.getElem_toArray, List.getElem_cons_succ, List.getElem_cons_zero, List.setIfInBounds_toArray, List.set_cons_zero, List.set_cons_succ]
          refine wpAnyM_take (i := 3) (v := ?_) rfl (by kernel_rfl) (by kernel_rfl) (by kernel_rfl) (by kernel_rfl) (fun _ _ _ h => h) hH (Or.inl ⟨by rfl, (by intro w' hSw; have s1 := HCG.out w' hSw; go_simp; first | done | with_reducible rfl)⟩) ?_
          try simp only [Act.put, List.getElem_toArray, List.getElem_cons_succ, List.getElem_cons_zero, List.setIfInBounds_toArray, List.set_cons_zero, List.set_cons_succ]
          refine wpAnyM_take (i := 4) (v := ?_) rfl (by kernel_rfl) (by kernel_rfl) (by kernel_rfl) (by kernel_rfl) (fun _ _ _ h => h) hH (Or.inl ⟨by rfl, (by intro w' hSw; go_simp; first | done | with_reducible rfl)⟩) ?_
          try simp only [Act.put, List.getElem_toArray, List.getElem_cons_succ, List.getElem_cons_zero, List.setIfInBounds_toArray, List.set_cons_zero, List.set_cons_succ]
          refine wpAnyM_take (i := 5) (v := ?_) rfl (by kernel_rfl) (by kernel_rfl) (by kernel_rfl) (by kernel_rfl) (fun _ _ _ h => h) hH (Or.inl ⟨by rfl, (by intro w' hSw; go_simp; first | done | with_reducible rfl)⟩) ?_
          try simp only [Act.put, List.getElem_toArray, List.getElem_cons_succ, List.getElem_cons_zero, List.setIfInBounds_toArray, List.set_cons_zero, List.set_cons_succ]
          refine wpAnyM_take (i := 6) (v := ?_) rfl (by kernel_rfl) (by kernel_rfl) (by kernel_rfl) (by kernel_rfl) (fun _ _ _ h => h) hH (Or.inl ⟨by rfl, (by intro w' hSw; go_simp; first | done | with_reducible rfl)⟩) ?_
          try simp only [Act.put, List.getElem_toArray, List.getElem_cons_succ, List.getElem_cons_zero, List.setIfInBounds_toArray, List.set_cons_zero, List.set_cons_succ]
          refine wpAnyM_take (i := 7) (v := ?_) rfl (by kernel_rfl) (by kernel_rfl) (by kernel_rfl) (by kernel_rfl) (fun _ _ _ h => h) hH (Or.inl ⟨by rfl, (by intro w' hSw; go_simp; first | done | with_reducible rfl)⟩) ?_
          try simp only [Act.put, List.getElem_toArray, List.getElem_cons_succ, List.getElem_cons_zero, List.setIfInBounds_toArray, List.set_cons_zero, List.set_cons_succ]
          refine wpAnyM_take (i := 8) (v := ?_) rfl (by kernel_rfl) (by kernel_rfl) (by kernel_rfl) (by kernel_rfl) (fun _ _ _ h => h) hH (Or.inl ⟨by rfl, (by intro w' hSw; have s1 := HCF.out w' hSw; go_simp; first | done | with_reducible rfl)⟩) ?_
          try simp only [Act.put, List.getElem_toArray, List.getElem_cons_succ, List.getElem_cons_zero, List.setIfInBounds_toArray, List.set_cons_zero, List.set_cons_succ]
          refine wpAnyM_take (i := 9) (v := ?_) rfl (by kernel_rfl) (by kernel_rfl) (by kernel_rfl) (by kernel_rfl) (fun _ _ _ h => h) hH (Or.inl ⟨by rfl, (by intro w' hSw; go_simp; first | done | with_reducible rfl)⟩) ?_
          try simp only [Act.put, List.getElem_toArray, List.getElem_cons_succ, List.getElem_cons_zero, List.setIfInBounds_toArray, List.set_cons_zero, List.set_cons_succ]
          refine wpAnyM_take (i := 10) (v := ?_) rfl (by kernel_rfl) (by kernel_rfl) (by kernel_rfl) (by kernel_rfl) (fun _ _ _ h => h) hH (Or.inl ⟨by rfl, (by intro w' hSw; go_simp; first | done | with_reducible rfl)⟩) ?_
          try simp only [Act.put, List.getElem_toArray, List.getElem_cons_succ, List.getElem_cons_zero, List.setIfInBounds_toArray, List.set_cons_zero, List.set_cons_succ]
          refine wpAnyM_take (i := 11) (v := ?_) rfl (by kernel_rfl) (by kernel_rfl) (by kernel_rfl) (by kernel_rfl) (fun _ _ _ h => h) hH (Or.inl ⟨by rfl, (by intro w' hSw; have s1 := HLK1.out w' hSw; go_simp; first | done | with_reducible rfl)⟩) ?_
          try simp only [Act.put, List.getElem_toArray, List.getElem_cons_succ, List.getElem_cons_zero, List.setIfInBounds_toArray, List.set_cons_zero, List.set_cons_succ]
          refine wpAnyM_take (i := 12) (v := ?_) rfl (by kernel_rfl) (by kernel_rfl) (by kernel_rfl) (by kernel_rfl) (fun _ _ _ h => h) hH (Or.inl ⟨by rfl, (by intro w' hSw; have s1 := HLK2.out w' hSw; go_simp; first | done | with_reducible rfl)⟩) ?_
          try simp only [Act.put, List.getElem_toArray, List.getElem_cons_succ, List.getElem_cons_zero, List.setIfInBounds_toArray, List.set_cons_zero, List.set_cons_succ]
          refine wpAnyM_take (i := 13) (v := ?_) rfl (by kernel_rfl) (by kernel_rfl) (by kernel_rfl) (by kernel_rfl) (fun _ _ _ h => h) hH (Or.inl ⟨by rfl, (by intro w' hSw; go_simp; first | done | with_reducible rfl)⟩) ?_
          try simp only [Act.put, List.getElem_toArray, List.getElem_cons_succ, List.getElem_cons_zero, List.setIfInBounds_toArray, List.set_cons_zero, List.set_cons_succ]
          refine wpAnyM_next (i := 14) (by kernel_rfl) rfl (fun K hK => ?_)
          go_simp
          refine CL.out.mono ?_
          rintro e7 w7 ⟨u, rfl, hO7, hL7, hT7⟩
          have hT17 : Turned S1 wr w7 := hH.trans hT7 (fun k _ h => (HS1'.out k).2 (.inl h))
          have HO7 : Hid (OwnL yK w7 wr.heap.size (slV u) b1) := hO7
          have HL7 := Lib.hid hL7
          have HT17 := Lib.hid hT17
          have CS := Lib.hid (psound_any u b1 w7.heap.size w7 hO7.form_ (Nat.le_refl _) HKL.out)
          obtain ⟨U, hU⟩ : ∃ U, slV u = U := ⟨_, rfl⟩
          rw [hU] at CS
          rw [hU]
          refine hK.out _ _ (.inr hT17) ?_
          clear hK K CL hO7 hL7 hT7
          try simp only [Act.put, List.getElem_toArray, List.getElem_cons_succ, List.getElem_cons_zero, List.setIfInBounds_toArray, List.set_cons_zero, List.set_cons_succ]
          refine wpAnyM_next (i := 15) (by kernel_rfl) rfl (fun K hK => ?_)
          go_simp
          refine CS.out.mono ?_
          rintro e8 w8 ⟨vv, rfl, hO8, hB8⟩
          have hT18 : Turned S1 wr w8 := hT17.trans (Turned.of_below hB8) (fun k _ h => (HS1'.out k).2 (.inr (by have := hT17.size; omega)))
          have HO8 := Lib.hid hO8
          have HB8 := Lib.hid hB8
          have HT18 := Lib.hid hT18
          have hF8 := HCH.out w8 hT18
          have hji2 : (Lit.int .i64 (j : Int)).wf = true := WalkArith.wf_i64 (by omega)
          obtain ⟨w9, hup, hm9, hg9⟩ := hF8.files.upd (by simp only [maxLen]; omega) hji2 (⟨u, ⟨none, 0, 0⟩, vv⟩ : RawX)
          change (Instr.mapUpdate 77 (.map (some q)) (.int .i64 (j : Nat)) (xV ⟨u, ⟨none, 0, 0⟩, vv⟩)).run Tryz.prog w8 = .ok () w9 at hup
          obtain ⟨D, hDD⟩ : ∃ D, xV ⟨u, ⟨none, 0, 0⟩, vv⟩ = D := ⟨_, rfl⟩
          rw [hDD] at hup
          rw [hDD]
          have HM9 := Lib.hid hm9
          have HG9 := Lib.hid hg9
          have HN8 := Lib.hid hF8.names
          have HH8 := Lib.hid hF8.head
          refine hK.out _ _ (.inr hT18) ?_
          clear hK K CS hO8 hB8 hT17 hT18 hF8 hm9 hg9 hDD
          try simp only [Act.put, List.getElem_toArray, List.getElem_cons_succ, List.getElem_cons_zero, List.setIfInBounds_toArray, List.set_cons_zero, List.set_cons_succ]
          refine wpAnyM_next (i := 16) (by kernel_rfl) rfl (fun K hK => ?_)
          go_simp
          refine hK.out _ _ (.inl (Nat.le_refl _)) ?_
          clear hK K hup
          try simp only [Act.put, List.getElem_toArray, List.getElem_cons_succ, List.getElem_cons_zero, List.setIfInBounds_toArray, List.set_cons_zero, List.set_cons_succ]
          refine wpAnyM_done (by kernel_rfl) ?_ _
          have HH9 : Hid (IsHead w9 (q + 3) (headP (Sf.new t.room) q (q + 1) (q + 2) ⟨none, 0, 0⟩)) := (HG9.out.block (q + 3) (Array.getElem?_eq_some_iff.1 HH8.out).1 (fun e => by have := Option.some.inj e; omega)).trans HH8.out
          have HN9 : Hid (IsMp dM w9 (q + 2) j (Sf.dirF (Sf.numbered (d.take j)))) := HN8.out.of_block (HG9.out.block (q + 2) HN8.out.lt_ (fun e => by have := Option.some.inj e; omega))
          have h95 : w9.cell? ⟨q + 3, 5, none⟩ = some (.map (some (q + 2))) := head_cellP HH9.out rfl
          clear hH HCF HCH HCG HLK1 HLK2 HTS HN8 HH8 hU
          go_wp2_with (at_mapUpdate; refine wpList_mapUpdate_mp _ dM rfl _ _ _ rfl (q + 2) _ _ rfl HN9.out (by simp only [maxLen]; omega) ename rfl HEM.out (j : Int) rfl ?_; intro w10 hm10 hg10; have HM10 := Lib.hid hm10; have HG10 := Lib.hid hg10; clear hm10 hg10)
          go_roundw
          case rel =>
            have hS1no : ∀ k, S1 k → who' k = none := fun k hk => by
              rcases (HS1'.out k).1 hk with h | h
              · cases hw : who' k with
                | none => rfl
                | some r =>
                  have h1 := HLO.out k (by rw [hw]; rfl)
                  have h2 := HSr.out
                  have h3 := HNN.out
                  omega
              · exact HFl.out.new h
            have hs17 := HT17.out.size
            obtain ⟨who2, hF10, hsm⟩ := HFl.out.more HE.out HDok.out HK1.out HKL.out HT18.out hS1no (HO7.out.below_ HB8.out (Nat.le_refl _)) (HO8.out.mono_ hs17) (fun k h1 h2 => by have h3 := (HO7.out.lt_ k h1).2; have h4 := (HO8.out.lt_ k h2).1; omega) HM9.out HG9.out (by rw [HDN.out]; exact HM10.out) HG10.out
            have hpq := HSr.out
            have hnn := HNN.out
            have hsn := HSN.out
            refine ⟨j + 1, who2, _, hlt, by go_num, ?_, hF10, ?_, fun k hk => ?_⟩
            · have t1 := HT.out.trans HT18.out (fun k _ h => by have := (HS1'.out k).1 h; omega)
              have t2 := t1.trans (Turned.of_grown HG9.out) (fun k _ h => by have := Option.some.inj h; omega)
              exact t2.trans (Turned.of_grown HG10.out) (fun k _ h => by have := Option.some.inj h; omega)
            · rw [HRS.out]
              have hB := HL7.out.1
              have h1 := HL7.out.turned (Turned.of_below HB8.out) (fun k hk => by omega)
              have h2 := h1.turned (Turned.of_grown HG9.out) (fun k hk => by have := Option.some.inj hk; omega)
              exact h2.turned (Turned.of_grown HG10.out) (fun k hk => by have := Option.some.inj hk; omega)
            · rcases hsm k hk with h | h
              · exact HLO.out k h
              · exact .inr (by omega)
          case measure => simp [intOf]; omega
        · obtain rfl : j = d.length := by omega
          have hji : ¬ ((d.length : Int) < (d.length : Int)) := by omega
          have hlen := HFl.out.len (Nat.le_refl _) hdl 3
          have c1 : wr.cell? ⟨q + 3, 1, none⟩ = some (.map (some q)) := head_cellP HFl.out.head rfl
          have c2 : wr.cell? ⟨q + 3, 2, none⟩ = some (.int .i64 0) := head_cellP HFl.out.head rfl
          have z2 : wr.frozen? ⟨q + 3, 2, none⟩ = false := frozen_of_row wr (q + 3) 2 _ _ HFl.out.head
          have hh7 := head_setP HFl.out.head 2 (.int .i64 (d.length : Nat)) rfl
          have hT7 : Turned (fun k => k = q + 3 ∨ wr.heap.size ≤ k) wr (wr.setCell ⟨q + 3, 2, none⟩ (.int .i64 (d.length : Nat))) := (Turned.refl (fun k => k = q + 3 ∨ wr.heap.size ≤ k) wr).setCell (p := ⟨q + 3, 2, none⟩) (fun _ => .inl rfl) _
          obtain ⟨w7, hw7⟩ : ∃ w7, wr.setCell ⟨q + 3, 2, none⟩ (.int .i64 (d.length : Nat)) = w7 := ⟨_, rfl⟩
          rw [hw7] at hh7 hT7
          have c5 : w7.cell? ⟨q + 3, 5, none⟩ = some (.map (some (q + 2))) := head_cellP hh7 rfl
          have hq2 : q + 2 < wr.heap.size := HFl.out.names.lt_
          have hn7 := HFl.out.names.turned_ hT7 (by omega)
          rw [List.take_length] at hn7
          have CC := Lib.hid (pmclone_any (q + 2) _ _ w7 hn7)
          have HH7 := Lib.hid hh7
          have HT7 := Lib.hid hT7
          have hl3 := HFl.out.lt_head
          clear hh7 hT7 hn7
          go_wp2_with fail
          refine CC.out.mono ?_
          rintro e8 w8 ⟨rfl, hm8, hb8, hs8⟩
          have hh8 : IsHead w8 (q + 3) _ := (hb8.block (q + 3) (Nat.lt_of_lt_of_le hl3 HT7.out.size)).trans HH7.out
          have c3 : w8.cell? ⟨q + 3, 3, none⟩ = some (.map (some (q + 1))) := head_cellP hh8 rfl
          have z3 : w8.frozen? ⟨q + 3, 3, none⟩ = false := frozen_of_row w8 (q + 3) 3 _ _ hh8
          have hh9 := head_setP hh8 3 (.map (some w7.heap.size)) rfl
          have hT8 : Turned (fun k => k = q + 3 ∨ wr.heap.size ≤ k) wr w8 := HT7.out.trans (Turned.of_below hb8) (fun k _ h => .inr (Nat.le_trans HT7.out.size h))
          have hT9 : Turned (fun k => k = q + 3 ∨ wr.heap.size ≤ k) wr (w8.setCell ⟨q + 3, 3, none⟩ (.map (some w7.heap.size))) := hT8.setCell (p := ⟨q + 3, 3, none⟩) (fun _ => .inl rfl) _
          have hs79 : (w8.setCell ⟨q + 3, 3, none⟩ (.map (some w7.heap.size))).heap[w7.heap.size]? = w8.heap[w7.heap.size]? := by
            unfold World.setCell
            have : q + 3 ≠ w7.heap.size := by have := HT7.out.size; omega
            simp only [Array.getElem?_modify, this, if_false]
          obtain ⟨w9, hw9⟩ : ∃ w9, w8.setCell ⟨q + 3, 3, none⟩ (.map (some w7.heap.size)) = w9 := ⟨_, rfl⟩
          rw [hw9] at hh9 hT9 hs79
          have HM9 : Hid (IsMp dM w9 w7.heap.size d.length (Sf.dirF (Sf.numbered d))) := hm8.of_block hs79
          have HH9 := Lib.hid hh9
          have HT9 := Lib.hid hT9
          clear CC hm8 hb8 hs8 hh8 hh9 hT8 hT9 hs79
          go_wp2
          go_ret2
          have hsr2 := HSr.out
          have hnn := HNN.out
          obtain ⟨f', hPD, hFr⟩ := HFl.out.end_ (base := p) (sb := w7.heap.size) HDok.out hdl HH.out.good.room (fun k hk => by have := HLO.out k hk; omega) HT7.out.size (by omega) HT9.out HH9.out HM9.out l HDE.out.symm rfl
          refine ⟨q + 3, f', rfl, hPD, by rw [HP.out]; exact hFr, ?_⟩
          rw [HP.out]
          exact ((Turned.of_below HBr.out).trans HT9.out (fun k _ h => by omega)).below (by have := HP.out; omega) (fun k h => h)
end
end Go.Proofs.YtmcbjcbnckpfkaaGreat
namespace Go.Proofs.YtmcbjcbnckpfkaaGreat
open Go.RowKit
set_option linter.unusedVariables false
namespace Sf
def placeOf (t : St) (s : ByteArray) (a : Int) : Nat × Nat := if (get t s).2 ≠ 0 then (0, (get t s).2) else if a < 0 ∨ (len t (get t s).1 : Int) < a then (0, 2) else ((get t s).1, 0)
theorem len_used_p {t : St} {s : ByteArray} {k : Nat} (h : get t s = (k, 0)) : len t k ≤ used t := by
  obtain ⟨hd, hf⟩ := get_ok (t := t) (s := s) (by rw [h])
  rw [h] at hf
  rw [used_lens hd]
  have := lens_sub (t := t) (List.singleton_sublist.2 (find_mem hf))
  simpa [lens] using this
end Sf
section
variable {w : World} {fp : Fp} {s : Nat} {t : Sf.St} {b : Nat} {who : Who} {bf bs bn : Nat} {vr : Sl} {ff : Int → Option RawX} {rn : List RawN}
/-- What is looked up of a name's file. -/
theorem PHas.look (h : PHas w fp s t b who bf bs bn vr ff rn) (hs4 : s ≤ 4) {u : ByteArray} {k : Nat} (hg : Sf.get t u = (k, 0)) :
    ∃ x, ff (k : Int) = some x ∧ k < t.files.length ∧ HasX w who k x (Sf.fileAt t k) ∧ x.now.n = Sf.len t k ∧ Sf.len t k ≤ 1048576 ∧ Sf.len t k ≤ x.now.c ∧ x.now.c ≤ maxLen ∧ (Instr.lookup 77 (.map (some bf)) (.int .i64 (k : Nat)) false).run Tryz.prog w = .ok (.agg #[slV x.sure, slV x.row, slV x.now]) w := by
  obtain ⟨x, h1, h2, h3⟩ := h.file_of hg
  obtain ⟨e1, e2, e3⟩ := h3.now.form_.len_
  exact ⟨x, h1, h2, h3, e1, h3.len_le, e2, e3, look_file h.body.files h1 (by have := h.good.files; have := h.good.acts; omega)⟩
set_option maxHeartbeats 2000000 in
set_option maxRecDepth 100000 in
theorem pfindPlace_disk (h : PHas w fp s t b who bf bs bn vr ff rn) (hs4 : s ≤ 4) (u : ByteArray) (hu : u.size ≤ maxLen) (a : Int) :
    Calls Tryz.prog 75 #[.pointer (some ⟨b, 0, none⟩), .string u, .int .i64 a] w (fun e w' => e = .returned (.tuple #[.int .i64 ((Sf.placeOf t u a).1 : Nat), .int .i64 ((Sf.placeOf t u a).2 : Nat)]) ∧ w = w') := by
  have CF := Lib.hid (pfind_disk h u hu)
  have c1 : w.cell? ⟨b, 1, none⟩ = some (.map (some bf)) := h.cell rfl
  obtain ⟨k, er, hge⟩ : ∃ k er, Sf.get t u = (k, er) := ⟨_, _, rfl⟩
  have HE0 : Hid (Sf.placeOf t u a = if er ≠ 0 then (0, er) else if a < 0 ∨ (Sf.len t k : Int) < a then (0, 2) else (k, 0)) := by unfold Hid Sf.placeOf; rw [hge]
  rw [hge] at CF
  by_cases he : er = 0
  · subst he
    have HE1 := Lib.hid (HE0.out.trans (if_neg (by simp)))
    obtain ⟨x, _, _, _, hn, _, _, _, hlk⟩ := h.look hs4 hge
    obtain ⟨⟨a1, a2, a3⟩, ⟨a4, a5, a6⟩, ⟨a7, a8, a9⟩⟩ := x
    simp only [slV] at hn hlk
    obtain ⟨m, hm⟩ : ∃ m, Sf.len t k = m := ⟨_, rfl⟩
    rw [hm] at HE1 hn
    subst hn
    have hfd := fun w => file_now (.slice a1 a2 a3) (.slice a4 a5 a6) (.slice a7 a8 a9) w
    clear h hge hm HE0
    by_cases h0 : a < 0
    · have HE : Hid (Sf.placeOf t u a = (0, 2)) := HE1.out.trans (if_pos (.inl h0))
      clear HE1
      go_enter Tryz.func75, Tryz.ntmps75
      go_wp2_with fail
      refine CF.out.mono ?_
      rintro e1 w1 ⟨rfl, rfl⟩
      clear CF
      go_wp2
      go_ret2
      rw [HE.out]
      exact ⟨rfl, rfl⟩
    · by_cases h1 : (a8 : Int) < a
      · have HE : Hid (Sf.placeOf t u a = (0, 2)) := HE1.out.trans (if_pos (.inr h1))
        clear HE1
        go_enter Tryz.func75, Tryz.ntmps75
        go_wp2_with fail
        refine CF.out.mono ?_
        rintro e1 w1 ⟨rfl, rfl⟩
        clear CF
        go_wp2
        go_ret2
        rw [HE.out]
        exact ⟨rfl, rfl⟩
      · have HE : Hid (Sf.placeOf t u a = (k, 0)) := HE1.out.trans (if_neg (by omega))
        clear HE1
        go_enter Tryz.func75, Tryz.ntmps75
        go_wp2_with fail
        refine CF.out.mono ?_
        rintro e1 w1 ⟨rfl, rfl⟩
        clear CF
        go_wp2
        go_ret2
        rw [HE.out]
        exact ⟨rfl, rfl⟩
  · have hq : ((er : Int) != 0) = true := by rw [bne_iff_ne]; omega
    have HE : Hid (Sf.placeOf t u a = (0, er)) := HE0.out.trans (if_pos he)
    clear h hge HE0 he c1
    go_enter Tryz.func75, Tryz.ntmps75
    go_wp2_with fail
    refine CF.out.mono ?_
    rintro e1 w1 ⟨rfl, rfl⟩
    clear CF
    go_wp2
    go_ret2
    rw [HE.out]
    exact ⟨rfl, rfl⟩
set_option maxHeartbeats 2000000 in
set_option maxRecDepth 100000 in
theorem psizeOf_any (h : PDisk w fp t b) (u : ByteArray) (hu : u.size ≤ maxLen) : Calls Tryz.prog 51 #[.pointer (some ⟨b, 0, none⟩), .string u] w (IsNE (Sf.size t u) w) := by
  obtain ⟨who, bf, bs, bn, vr, ff, rn, h⟩ := h
  have CF := Lib.hid (pfind_disk h u hu)
  have c1 : w.cell? ⟨b, 1, none⟩ = some (.map (some bf)) := h.cell rfl
  obtain ⟨k, er, hge⟩ : ∃ k er, Sf.get t u = (k, er) := ⟨_, _, rfl⟩
  have HE0 : Hid (Sf.size t u = if er ≠ 0 then (0, er) else (Sf.len t k, 0)) := by unfold Hid Sf.size; rw [hge]
  rw [hge] at CF
  by_cases he : er = 0
  · subst he
    have HE := Lib.hid (HE0.out.trans (if_neg (by simp)))
    obtain ⟨x, _, _, _, hn, _, _, _, hlk⟩ := h.look (Nat.zero_le _) hge
    obtain ⟨⟨a1, a2, a3⟩, ⟨a4, a5, a6⟩, ⟨a7, a8, a9⟩⟩ := x
    simp only [slV] at hn hlk
    have HN := Lib.hid hn
    have hfd := fun w => file_now (.slice a1 a2 a3) (.slice a4 a5 a6) (.slice a7 a8 a9) w
    clear h hge HE0 hn
    go_enter Tryz.func51, Tryz.ntmps51
    go_wp2_with fail
    refine CF.out.mono ?_
    rintro e1 w1 ⟨rfl, rfl⟩
    clear CF
    go_wp2
    go_ret2
    rw [HE.out]
    exact ⟨by rw [HN.out]; rfl, Below.refl _ _⟩
  · have hq : ((er : Int) != 0) = true := by rw [bne_iff_ne]; omega
    have HE : Hid (Sf.size t u = (0, er)) := HE0.out.trans (if_pos he)
    clear h hge HE0 he c1
    go_enter Tryz.func51, Tryz.ntmps51
    go_wp2_with fail
    refine CF.out.mono ?_
    rintro e1 w1 ⟨rfl, rfl⟩
    clear CF
    go_wp2
    go_ret2
    rw [HE.out]
    exact ⟨rfl, Below.refl _ _⟩
set_option maxHeartbeats 4000000 in
set_option maxRecDepth 100000 in
theorem pread_any (h : PDisk w fp t b) (u : ByteArray) (hu : u.size ≤ maxLen) (a n : Int) (ha : I64 a) (hn : I64 n) : Calls Tryz.prog 24 #[.pointer (some ⟨b, 0, none⟩), .string u, .int .i64 a, .int .i64 n] w (IsLE yK (Sf.read t u a n) w) := by
  obtain ⟨who, bf, bs, bn, vr, ff, rn, h⟩ := h
  have CF := Lib.hid (pfind_disk h u hu)
  have c1 : w.cell? ⟨b, 1, none⟩ = some (.map (some bf)) := h.cell rfl
  obtain ⟨k, er, hge⟩ : ∃ k er, Sf.get t u = (k, er) := ⟨_, _, rfl⟩
  have HE0 : Hid (Sf.read t u a n = if er ≠ 0 then ([], er) else if a < 0 ∨ (Sf.len t k : Int) < a ∨ n < 0 then ([], 2) else (((Sf.now (Sf.fileAt t k)).drop a.toNat).take n.toNat, 0)) := by unfold Hid Sf.read; rw [hge]
  rw [hge] at CF
  by_cases he : er = 0
  · subst he
    have HE1 := Lib.hid (HE0.out.trans (if_neg (by simp)))
    obtain ⟨x, _, _, hX, hxn, hl20, hxc, hxm, hlk⟩ := h.look (Nat.zero_le _) hge
    have hnow := hX.now.form_
    obtain ⟨⟨a1, a2, a3⟩, ⟨a4, a5, a6⟩, ⟨a7, a8, a9⟩⟩ := x
    simp only [slV] at hxn hlk hnow hxc hxm
    have HNW := Lib.hid hnow
    have HLN : Hid ((Sf.now (Sf.fileAt t k)).length = a8) := hxn.symm
    have hfd := fun w => file_now (.slice a1 a2 a3) (.slice a4 a5 a6) (.slice a7 a8 a9) w
    obtain ⟨m, hm⟩ : ∃ m, Sf.len t k = m := ⟨_, rfl⟩
    rw [hm] at HE1 hxn hl20 hxc
    subst hxn
    obtain ⟨l, hl⟩ : ∃ l, Sf.now (Sf.fileAt t k) = l := ⟨_, rfl⟩
    rw [hl] at HE1 HNW HLN
    clear h hge hm HE0 hX hnow hl
    have bad : ∀ (hE : Sf.read t u a n = ([], 2)) (hor : a < 0 ∨ (a8 : Int) < a ∨ n < 0), Calls Tryz.prog 24 #[.pointer (some ⟨b, 0, none⟩), .string u, .int .i64 a, .int .i64 n] w (IsLE yK (Sf.read t u a n) w) := fun hE hor => by
      have HE := Lib.hid hE
      clear hE HE1
      by_cases h0 : a < 0
      · clear hor
        go_enter Tryz.func24, Tryz.ntmps24
        go_wp2_with fail
        refine CF.out.mono ?_
        rintro e1 w1 ⟨rfl, rfl⟩
        clear CF
        go_wp2
        go_ret2
        exact IsLE.none_ HE.out rfl
      · by_cases h1 : (a8 : Int) < a
        · clear hor
          go_enter Tryz.func24, Tryz.ntmps24
          go_wp2_with fail
          refine CF.out.mono ?_
          rintro e1 w1 ⟨rfl, rfl⟩
          clear CF
          go_wp2
          go_ret2
          exact IsLE.none_ HE.out rfl
        · have h2 : n < 0 := by omega
          clear hor
          go_enter Tryz.func24, Tryz.ntmps24
          go_wp2_with fail
          refine CF.out.mono ?_
          rintro e1 w1 ⟨rfl, rfl⟩
          clear CF
          go_wp2
          go_ret2
          exact IsLE.none_ HE.out rfl
    by_cases hor : a < 0 ∨ (a8 : Int) < a ∨ n < 0
    · exact bad (HE1.out.trans (if_pos hor)) hor
    · have HE := Lib.hid (HE1.out.trans (if_neg hor))
      have h0 : ¬ a < 0 := fun h => hor (.inl h)
      have h1 : ¬ (a8 : Int) < a := fun h => hor (.inr (.inl h))
      have h2 : ¬ n < 0 := fun h => hor (.inr (.inr h))
      clear bad HE1 hor
      obtain ⟨p, rfl⟩ : ∃ p : Nat, (p : Int) = a := ⟨a.toNat, by omega⟩
      obtain ⟨q, rfl⟩ : ∃ q : Nat, (q : Int) = n := ⟨n.toNat, by omega⟩
      rw [Int.toNat_natCast, Int.toNat_natCast] at HE
      obtain ⟨A', k1, k2, hdr, _⟩ := cut_from yK rfl a7 a8 a9 p (by omega) hxc
      change ∀ w, (Instr.slice 33 (.slice a7 a8 a9) (some (.int .i64 (p : Nat))) none none).run Tryz.prog w = .ok (.slice A' (a8 - p) (a9 - p)) w at k1
      change ∀ w, (Instr.sliceAt 33 (.slice a7 a8 a9) (some (.int .i64 (p : Nat))) none none).run Tryz.prog w = .ok (.slice A' (a8 - p) (a9 - p)) w at k2
      have hd := hdr w w.heap.size l HNW.out
      have hlen := HLN.out
      have HG : Hid (∀ g, g ≤ a8 - p → (∀ w, (Instr.slice 33 (.slice A' (a8 - p) (a9 - p)) none (some (.int .i64 (g : Nat))) none).run Tryz.prog w = .ok (.slice A' g (a9 - p)) w) ∧ (∀ w, (Instr.sliceAt 33 (.slice A' (a8 - p) (a9 - p)) none (some (.int .i64 (g : Nat))) none).run Tryz.prog w = .ok (.slice A' g (a9 - p)) w) ∧
          Calls Tryz.prog 74 #[.slice A' g (a9 - p)] w (IsL1 yK ((l.drop p).take g) w)) := fun g hg => by
        have htk := hd.take_ (k := g) (by rw [List.length_drop]; omega)
        exact ⟨fun w => cut_to yK rfl A' (a8 - p) (a9 - p) g (by omega) w, fun w => cutAt_to yK rfl A' (a8 - p) (a9 - p) g (by omega) w, pbclone_any _ _ w.heap.size w htk (Nat.le_refl _) (by rw [List.length_take, List.length_drop]; omega)⟩
      have nsub : ((a8 - p : Nat) : Int) = (a8 : Int) - (p : Int) := by omega
      clear hd hdr HNW
      by_cases hqq : (a8 : Int) - (p : Int) < (q : Int)
      · obtain ⟨k3, k4, hcl⟩ := HG.out (a8 - p) (Nat.le_refl _)
        rw [nsub] at k3 k4
        have HLE : Hid ((l.drop p).take (a8 - p) = (l.drop p).take q) := by
          unfold Hid
          rw [List.take_of_length_le (by rw [List.length_drop]; omega), List.take_of_length_le (by rw [List.length_drop]; omega)]
        rw [HLE.out] at hcl
        obtain ⟨D, hD⟩ : ∃ D, (l.drop p).take q = D := ⟨_, rfl⟩
        rw [hD] at hcl HE
        have CB := Lib.hid hcl
        have hmt : (min (q : Int) ((a8 - p : Nat) : Int)).toNat = a8 - p := by omega
        clear HG hcl HLN hlen nsub HLE hD
        go_enter Tryz.func24, Tryz.ntmps24
        go_wp2_with fail
        refine CF.out.mono ?_
        rintro e1 w1 ⟨rfl, rfl⟩
        clear CF
        go_wp2_with fail
        refine CB.out.mono ?_
        rintro e2 w2 ⟨A2, c2, rfl, ho, hb⟩
        have HO := Lib.hid ho
        have HB := Lib.hid hb
        clear CB ho hb
        go_wp2
        go_ret2
        exact IsLE.of HE.out rfl rfl HO.out HB.out
      · obtain ⟨k3, k4, hcl⟩ := HG.out q (by omega)
        obtain ⟨D, hD⟩ : ∃ D, (l.drop p).take q = D := ⟨_, rfl⟩
        rw [hD] at hcl HE
        have CB := Lib.hid hcl
        have hmt : (min (q : Int) ((a8 - p : Nat) : Int)).toNat = q := by omega
        clear HG hcl HLN hlen nsub hD
        go_enter Tryz.func24, Tryz.ntmps24
        go_wp2_with fail
        refine CF.out.mono ?_
        rintro e1 w1 ⟨rfl, rfl⟩
        clear CF
        go_wp2_with fail
        refine CB.out.mono ?_
        rintro e2 w2 ⟨A2, c2, rfl, ho, hb⟩
        have HO := Lib.hid ho
        have HB := Lib.hid hb
        clear CB ho hb
        go_wp2
        go_ret2
        exact IsLE.of HE.out rfl rfl HO.out HB.out
  · have hq : ((er : Int) != 0) = true := by rw [bne_iff_ne]; omega
    have HE : Hid (Sf.read t u a n = ([], er)) := HE0.out.trans (if_pos he)
    clear h hge HE0 he c1
    go_enter Tryz.func24, Tryz.ntmps24
    go_wp2_with fail
    refine CF.out.mono ?_
    rintro e1 w1 ⟨rfl, rfl⟩
    clear CF
    go_wp2
    go_ret2
    exact IsLE.none_ HE.out rfl
end
end Go.Proofs.YtmcbjcbnckpfkaaGreat
namespace Go.Proofs.YtmcbjcbnckpfkaaGreat
open Go.RowKit
set_option linter.unusedVariables false
def Sf.layOf (t : Sf.St) (n a : Nat) (l : List Nat) : Nat × Sf.St := if Sf.len t n < a + l.length ∧ t.room < Sf.used t + (a + l.length - Sf.len t n) then (9, t) else Sf.add t n ⟨false, a, l⟩
section
variable {w : World} {fp : Fp} {t : Sf.St} {b : Nat} {who : Who} {bf bs bn : Nat} {vr : Sl} {ff : Int → Option RawX} {rn : List RawN}
theorem PHas.used_le (h : PHas w fp 0 t b who bf bs bn vr ff rn) : Sf.used t ≤ 67108864 := by
  unfold Sf.used
  split
  · omega
  · have h1 := Sf.lens_bound (t := t) (m := 1048576) t.seen (fun e he => by
      obtain ⟨x, _, _, h3⟩ := h.file_at (n := e.2) ⟨t.seen, .inr (.inl rfl), e, he, rfl⟩
      exact h3.len_le)
    have h2 := (h.good.lens t.seen (.inr (.inl rfl))).1
    have h4 : t.seen.length * 1048576 ≤ 64 * 1048576 := Nat.mul_le_mul_right _ h2
    omega
set_option maxHeartbeats 4000000 in
set_option maxRecDepth 100000 in
theorem play_disk (h : PHas w fp 0 t b who bf bs bn vr ff rn) (hf : Sf.Few t) {u : ByteArray} {n : Nat} (hg : Sf.get t u = (n, 0)) (a : Nat) (ha : a ≤ Sf.len t n) (v : Value) (B : Nat) (l : List Nat) (hv : Lv yK w B v l) (hB : B ≤ w.heap.size) :
    Calls Tryz.prog 71 #[.pointer (some ⟨b, 0, none⟩), .int .i64 (n : Nat), .int .i64 (a : Nat), v] w (IsDeed PDisk fp b (Sf.layOf t n a l) w) := by
  have HH := Lib.hid h
  have HFEW := Lib.hid hf
  have CU := Lib.hid (pused_disk h (Nat.zero_le _))
  have hul := h.used_le
  have hlu := Sf.len_used_p hg
  have hroom := h.good.room
  obtain ⟨x, hx, hn, hX, hxn, hl20, hxc, hxm, hlk⟩ := h.look (Nat.zero_le _) hg
  have c1 : w.cell? ⟨b, 1, none⟩ = some (.map (some bf)) := h.cell rfl
  have c0 : w.cell? ⟨b, 0, none⟩ = some (.int .i64 (t.room : Nat)) := h.cell rfl
  have hbl : b < w.heap.size := h.lt b (by rw [h.mine]; rfl)
  have HX := Lib.hid hx
  have HXX := Lib.hid hX
  have HN := Lib.hid hn
  obtain ⟨⟨a1, a2, a3⟩, ⟨a4, a5, a6⟩, ⟨a7, a8, a9⟩⟩ := x
  simp only [slV] at hxn hlk hxc
  have hfd := fun w => file_now (.slice a1 a2 a3) (.slice a4 a5 a6) (.slice a7 a8 a9) w
  have HV := Lib.hid hv
  have HBB := Lib.hid hB
  obtain ⟨A0, c0', ev, hc1, hc2, _, _⟩ := hv
  have hll : l.length ≤ 9223372036854775807 := by simp only [maxLen] at hc2; omega
  have HE0 : Hid (Sf.layOf t n a l = if Sf.len t n < a + l.length ∧ t.room < Sf.used t + (a + l.length - Sf.len t n) then (9, t) else Sf.add t n ⟨false, a, l⟩) := rfl
  have HLEN : Hid (Sf.len t n = (Sf.now (Sf.fileAt t n)).length) := rfl
  obtain ⟨m, hm⟩ : ∃ m, Sf.len t n = m := ⟨_, rfl⟩
  obtain ⟨U, hU⟩ : ∃ U, Sf.used t = U := ⟨_, rfl⟩
  rw [hm] at HE0 hxn hl20 hxc hlu ha HLEN
  rw [hU] at HE0 hul hlu CU
  subst hxn
  have HDO : Hid (∀ w2 : World, Below w.heap.size w w2 → ∀ (A : Option Addr) (c : Nat), OwnL yK w2 w.heap.size (.slice A l.length c) l → l.length ≤ 1048576 → (Sf.done (Sf.now (Sf.fileAt t n)) ⟨false, a, l⟩).length ≤ 1048576 →
      Calls Tryz.prog 76 #[.pointer (some ⟨b, 0, none⟩), .int .i64 (n : Nat), .agg #[.int .i64 (a : Nat), .slice A l.length c, .bool false]] w2 (fun e w' => e = .returned (.int .i64 ((Sf.add t n ⟨false, a, l⟩).1 : Nat)) ∧ ∃ f', PDisk w' f' (Sf.add t n ⟨false, a, l⟩).2 b ∧ fp.Next f' w.heap.size ∧ Turned fp.M w2 w')) := fun w2 hb A c ho hd1 hd2 => by
    have h2 := HH.out.below hb
    obtain ⟨x', q1, q2, q3⟩ := h2.file_of hg
    exact pdoToFile_disk h2 HFEW.out q2 q1 q3 ⟨a, ⟨A, l.length, c⟩, false⟩ l ho.form_ (Nat.le_refl _) w.heap.size hb.size (fun hp k hk => ⟨HH.out.new (ho.lt_ k hk).1, (ho.lt_ k hk).2, (ho.lt_ k hk).1⟩) (by rw [← HLEN.out]; exact ha) hd1 (fun h => by cases h) hd2
  have HDN : Hid ((Sf.done (Sf.now (Sf.fileAt t n)) ⟨false, a, l⟩).length = max a8 (a + l.length)) := by unfold Hid; rw [Sf.done_len_put (by rw [← HLEN.out]; exact ha), ← HLEN.out]
  have HCL : Hid (∀ w2, Below w.heap.size w w2 → l.length ≤ 1048576 → Calls Tryz.prog 74 #[.slice A0 l.length c0'] w2 (IsL1 yK l w2)) := fun w2 hb h20 => by
    have hv2 := HV.out.below_ hb HBB.out
    rw [ev] at hv2
    exact pbclone_any _ l B w2 hv2 (Nat.le_trans HBB.out hb.size) (by omega)
  have HNX : Hid (∀ w2, Below w.heap.size w w2 → Turned fp.M w w2) := fun w2 hb => (Turned.of_below hb).mono fun k hk h => absurd hk (by omega)
  have HC : Hid (∀ w', Below w.heap.size w w' → w'.cell? ⟨b, 0, none⟩ = some (.int .i64 (t.room : Nat))) := fun w' hb' => (hb'.cell (p := ⟨b, 0, none⟩) hbl).trans c0
  have wr1 : IntKind.i64.wrap ((a : Int) - (a8 : Int)) = (a : Int) - (a8 : Int) := by rw [IntKind.wrap_i64]; omega
  have wr2 : IntKind.i64.wrap ((a : Int) - (a8 : Int) + (l.length : Int)) = (a : Int) - (a8 : Int) + (l.length : Int) := by rw [IntKind.wrap_i64]; omega
  have ws : IntKind.i64.wrap ((t.room : Int) - (U : Int)) = (t.room : Int) - (U : Int) := by rw [IntKind.wrap_i64]; omega
  have HD0 := Lib.hid (show PDisk w fp t b from ⟨_, _, _, _, _, _, _, h⟩)
  subst ev
  obtain ⟨Z, hZ⟩ : ∃ Z, Sf.add t n ⟨false, a, l⟩ = Z := ⟨_, rfl⟩
  rw [hZ] at HDO HE0
  obtain ⟨g, hg0⟩ : ∃ g : Int, (a : Int) - (a8 : Int) + (l.length : Int) = g := ⟨_, rfl⟩
  rw [hg0] at wr2
  have HCU2 : Hid (∀ w', Below w.heap.size w w' → Calls Tryz.prog 42 #[.pointer (some ⟨b, 0, none⟩)] w' (IsNum U w')) := fun w' hb => by
    rw [← hU]; exact pused_disk (HH.out.below hb) (Nat.zero_le _)
  clear h hf hx hX hB hc1 hc2 hxm hm hU hZ hg hn hxc hbl CU
  by_cases hgt : 0 < g
  · have hd0 : decide (0 < g) = true := decide_eq_true hgt
    by_cases hfull : (t.room : Int) - (U : Int) < g
    · have HE : Hid (Sf.layOf t n a l = (9, t)) := HE0.out.trans (if_pos (by omega))
      clear HE0 HDO HDN HCL
      go_enter Tryz.func71, Tryz.ntmps71
      have s0 := HC.out w.drew (Below.refl _ _).drew
      have CU2 := Lib.hid (HCU2.out w.drew (Below.refl _ _).drew)
      go_wp2
      try rw [hg0]
      go_region_held3 (fun w' => w'.cell? ⟨b, 0, none⟩ = some (.int .i64 (t.room : Nat)))
        (first | exact s0 | exact s1)
        (first | (go_at_call 42; (with_reducible refine CU2.out.mono ?_); rintro en w9 ⟨rfl, hb9⟩; have HB9 := Lib.hid ((Below.refl w.heap.size w).drew.trans hb9); have s1 := HC.out w9 ((Below.refl w.heap.size w).drew.trans hb9); clear hb9))
      clear s0 s1 CU2
      go_wp2
      go_ret
      rw [HE.out]
      exact ⟨rfl, fp, pdisk_law.below HD0.out HB9.out, Fp.Next.refl _ _, HNX.out _ HB9.out⟩
    · have HE : Hid (Sf.layOf t n a l = Z) := HE0.out.trans (if_neg (by omega))
      have HL20 : Hid (l.length ≤ 1048576) := by unfold Hid; omega
      have HDL : Hid ((Sf.done (Sf.now (Sf.fileAt t n)) ⟨false, a, l⟩).length ≤ 1048576) := by unfold Hid; rw [HDN.out]; omega
      clear HE0 HDN
      go_enter Tryz.func71, Tryz.ntmps71
      have s0 := HC.out w.drew (Below.refl _ _).drew
      have CU2 := Lib.hid (HCU2.out w.drew (Below.refl _ _).drew)
      go_wp2
      try rw [hg0]
      go_region_held3 (fun w' => w'.cell? ⟨b, 0, none⟩ = some (.int .i64 (t.room : Nat)))
        (first | exact s0 | exact s1)
        (first | (go_at_call 42; (with_reducible refine CU2.out.mono ?_); rintro en w9 ⟨rfl, hb9⟩; have HB9 := Lib.hid ((Below.refl w.heap.size w).drew.trans hb9); have s1 := HC.out w9 ((Below.refl w.heap.size w).drew.trans hb9); clear hb9))
      clear s0 s1 CU2
      have CC := Lib.hid (HCL.out w9 HB9.out HL20.out)
      go_wp2_with fail
      refine CC.out.mono ?_
      rintro e4 w4 ⟨A4, c4, rfl, ho4, hb4⟩
      have hB4 := HB9.out.trans (hb4.mono HB9.out.size)
      have CD := Lib.hid (HDO.out w4 hB4 A4 c4 (ho4.mono_ HB9.out.size) HL20.out HDL.out)
      have HB4 := Lib.hid hB4
      clear CC ho4 hb4 hB4 HDO HCL
      go_wp2_with fail
      refine CD.out.mono ?_
      rintro e6 w6 ⟨rfl, f', hD, hN, hT⟩
      have H1 := Lib.hid hD
      have H2 := Lib.hid hN
      have H3 := Lib.hid hT
      clear CD hD hN hT
      go_wp2
      go_ret
      rw [HE.out]
      exact ⟨rfl, f', H1.out, H2.out, (HNX.out _ HB4.out).trans H3.out (fun k _ h => h)⟩
  · have hd0 : decide (0 < g) = false := decide_eq_false hgt
    have HE : Hid (Sf.layOf t n a l = Z) := HE0.out.trans (if_neg (by omega))
    have HL20 : Hid (l.length ≤ 1048576) := by unfold Hid; omega
    have HDL : Hid ((Sf.done (Sf.now (Sf.fileAt t n)) ⟨false, a, l⟩).length ≤ 1048576) := by unfold Hid; rw [HDN.out]; omega
    clear HE0 HDN
    go_enter Tryz.func71, Tryz.ntmps71
    have s0 := HC.out w.drew (Below.refl _ _).drew
    go_wp2
    try rw [hg0]
    go_quiet (fail)
    clear s0
    generalize hW9 : w.drewN _ = w9
    have HB9 : Hid (Below w.heap.size w w9) := by unfold Hid; rw [← hW9]; exact below_drewN (Below.refl _ _) _
    clear hW9
    have CC := Lib.hid (HCL.out w9 HB9.out HL20.out)
    go_wp2_with fail
    refine CC.out.mono ?_
    rintro e4 w4 ⟨A4, c4, rfl, ho4, hb4⟩
    have hB4 := HB9.out.trans (hb4.mono HB9.out.size)
    have CD := Lib.hid (HDO.out w4 hB4 A4 c4 (ho4.mono_ HB9.out.size) HL20.out HDL.out)
    have HB4 := Lib.hid hB4
    clear CC ho4 hb4 hB4 HDO HCL
    go_wp2_with fail
    refine CD.out.mono ?_
    rintro e6 w6 ⟨rfl, f', hD, hN, hT⟩
    have H1 := Lib.hid hD
    have H2 := Lib.hid hN
    have H3 := Lib.hid hT
    clear CD hD hN hT
    go_wp2
    go_ret
    rw [HE.out]
    exact ⟨rfl, f', H1.out, H2.out, (HNX.out _ HB4.out).trans H3.out (fun k _ h => h)⟩
end
end Go.Proofs.YtmcbjcbnckpfkaaGreat
