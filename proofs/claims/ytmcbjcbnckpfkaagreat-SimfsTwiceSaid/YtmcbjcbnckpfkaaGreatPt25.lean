/-
  SfPro: Package simfs' side.
  PfClip: simfs: slices.Clip of a nil slice.
  PfCp: simfs.file.copied, of a file whose row is empty.
-/
import Derived.Test.YtmcbjcbnckpfkaaGreatPt17
import Derived.Test.YtmcbjcbnckpfkaaGreatPt19
import Derived.Test.YtmcbjcbnckpfkaaGreatPt20
import Derived.Test.YtmcbjcbnckpfkaaGreatPt21
import Derived.Test.YtmcbjcbnckpfkaaGreatPt22
import Derived.Test.YtmcbjcbnckpfkaaGreatPt24
import Derived.Test.YtmcbjcbnckpfkaaGreatPt04
import Derived.Deep.RegionHeld3

namespace Go.Proofs.YtmcbjcbnckpfkaaGreat
open Go.RowKit
set_option linter.unusedVariables false
set_option maxHeartbeats 1000000 in
set_option maxRecDepth 100000 in
theorem pclipC_nil (w : World) : Calls Tryz.prog 92 #[.slice none 0 0] w (fun e w' => e = .returned (.slice none 0 0) ∧ w = w') := by
  have k1 := cut_hm cK rfl none 0 0 0 0 (Nat.le_refl _) (Nat.le_refl _)
  go_enter Tryz.func92, Tryz.ntmps92
  go_wp2
  go_ret
  exact ⟨rfl, rfl⟩
set_option maxHeartbeats 1000000 in
set_option maxRecDepth 100000 in
theorem pclipN_nil (w : World) : Calls Tryz.prog 66 #[.slice none 0 0] w (fun e w' => e = .returned (.slice none 0 0) ∧ w = w') := by
  have k1 := cut_hm nK rfl none 0 0 0 0 (Nat.le_refl _) (Nat.le_refl _)
  go_enter Tryz.func66, Tryz.ntmps66
  go_wp2
  go_ret
  exact ⟨rfl, rfl⟩
end Go.Proofs.YtmcbjcbnckpfkaaGreat
namespace Go.Proofs.YtmcbjcbnckpfkaaGreat
open Go.RowKit
set_option linter.unusedVariables false
set_option maxHeartbeats 4000000 in
set_option maxRecDepth 100000 in
theorem pcopied_any {who : Who} {i : Nat} {x : RawX} {f : Sf.File} (w : World) (hX : HasX w who i x f) (hr : f.row = []) :
    Calls Tryz.prog 65 #[xV x] w (fun e w' => ∃ u v : Sl, e = .returned (xV ⟨u, ⟨none, 0, 0⟩, v⟩) ∧ OwnL yK w' w.heap.size (slV u) f.sure ∧ OwnL yK w' w.heap.size (slV v) (Sf.now f) ∧ Apart (slV u) (slV v) ∧ Below w.heap.size w w') := by
  have hsu := hX.sure
  have hno := hX.now
  have hnil := hX.nil hr
  have hl0 := hX.ok.len 0 (Nat.zero_le _)
  have hl1 := hX.ok.len f.row.length (Nat.le_refl _)
  rw [Sf.bytes_zero] at hl0
  rw [Sf.bytes_all] at hl1
  clear hX
  obtain ⟨⟨A1, n1, c1⟩, ⟨A2, n2, c2⟩, ⟨A3, n3, c3⟩⟩ := x
  injection hnil with e1 e2 e3
  subst e1 e2 e3
  simp only [slV] at hsu hno
  change Calls _ _ #[.agg #[.slice A1 n1 c1, .slice none 0 0, .slice A3 n3 c3]] w _
  obtain ⟨p, hp⟩ : ∃ p, w.heap.size = p := ⟨_, rfl⟩
  obtain ⟨W, hW⟩ : ∃ W, (w.alloc (.cells #[.slice A1 n1 c1, .slice none 0 0, .slice A3 n3 c3] 87)).alloc (.cells #[.slice none 0 0, .slice none 0 0, .slice none 0 0] 87) = W := ⟨_, rfl⟩
  have hWs : W.heap.size = p + 2 := by rw [← hW, ← hp]; simp
  have hW0 : Rw W p 87 #[.slice A1 n1 c1, .slice none 0 0, .slice A3 n3 c3] := by
    rw [← hW, ← hp]
    exact (Rw.new w _ _).old _
  have hW1 : Rw W (p + 1) 87 #[.slice none 0 0, .slice none 0 0, .slice none 0 0] := by
    rw [← hW, ← hp]
    exact Rw.at_ (by simp) _ _
  have hb : Below p w W := by rw [← hW, ← hp]; exact ((Below.refl _ _).alloc (Nat.le_refl _) _).alloc (by simp) _
  have HX : Hid (∀ w', Turned (fun k => p + 1 ≤ k) W w' → w'.cell? ⟨p, 0, none⟩ = some (.slice A1 n1 c1) ∧ w'.cell? ⟨p, 1, none⟩ = some (.slice none 0 0) ∧ w'.cell? ⟨p, 2, none⟩ = some (.slice A3 n3 c3)) := fun w' ht => by
    have h : Rw w' p 87 #[.slice A1 n1 c1, .slice none 0 0, .slice A3 n3 c3] := (ht.block p hW0.lt (by omega)).trans hW0
    exact ⟨by rw [h.cell]; rfl, by rw [h.cell]; rfl, by rw [h.cell]; rfl⟩
  have HZ : Hid (∀ w', Below (p + 2) W w' → Rw w' (p + 1) 87 #[.slice none 0 0, .slice none 0 0, .slice none 0 0]) := fun w' ht => hW1.below ht (by omega)
  have hb2 : Below p w W.drew := hb.drew
  have hlv1 : Lv yK w p (.slice A1 n1 c1) f.sure := by rw [← hp]; exact hsu.form_
  have hlv3 : Lv yK w p (.slice A3 n3 c3) (Sf.now f) := by rw [← hp]; exact hno.form_
  have CB1 := Lib.hid (pbclone_any (.slice A1 n1 c1) f.sure p W.drew (hlv1.below_ hb2 (Nat.le_refl _)) (by show p ≤ W.heap.size; omega) (by omega))
  have HLV : Hid (∀ w', Below p W w' → Lv yK w' p (.slice A3 n3 c3) (Sf.now f)) := fun w' ht => (hlv3.below_ hb (Nat.le_refl _)).below_ ht (Nat.le_refl _)
  have HL1 : Hid ((Sf.now f).length ≤ 1048576) := hl1
  have HS0 : Hid (Below (p + 2) W W.drew) := (Below.refl _ _).drew
  have HWS := Lib.hid hWs
  have HBW := Lib.hid hb
  have HP := Lib.hid hp
  clear hsu hno hl0 hl1 hW0 hW1 hb hb2 hlv1 hlv3 hWs
  go_enter Tryz.func65, Tryz.ntmps65
  go_wp2
  have HTO : Hid (∀ w', Below (p + 2) W w' → Turned (fun k => p + 1 ≤ k) W w') := fun w' h => (Turned.of_below h).mono fun k _ h => by omega
  refine wp_region_held_drew (S := fun w' => Turned (fun k => p + 1 ≤ k) W w') (by kernel_rfl) (HTO.out _ HS0.out) (fun hH => ?_)
  refine wpAnyH_take (i := 0) (v := ?_) rfl (by kernel_rfl) (by kernel_rfl) (by kernel_rfl) (fun _ _ _ h => h) (Or.inl ⟨by rfl, (by intro w' hSw; go_simp; first | done | with_reducible rfl)⟩) hH ?_
  try simp only [Act.put, List.getElem_toArray, List.getElem_cons_zero, List.setIfInBounds_toArray, List.set_cons_zero, List.set_cons_succ]
  refine wpAnyH_take (i := 1) (v := ?_) rfl (by kernel_rfl) (by kernel_rfl) (by kernel_rfl) (fun _ _ _ h => h) (Or.inl ⟨by rfl, (by intro w' hSw; obtain ⟨s0, s1, s2⟩ := HX.out w' hSw; go_simp; first | done | with_reducible rfl)⟩) hH ?_
  try simp only [Act.put, List.getElem_toArray, List.getElem_cons_succ, List.getElem_cons_zero, List.setIfInBounds_toArray, List.set_cons_zero, List.set_cons_succ]
  refine wpAnyH_take (i := 3) (v := ?_) rfl (by kernel_rfl) (by kernel_rfl) (by kernel_rfl) (fun _ _ _ h => h) (Or.inl ⟨by rfl, (by intro w' hSw; go_simp; first | done | with_reducible rfl)⟩) hH ?_
  try simp only [Act.put, List.getElem_toArray, List.getElem_cons_succ, List.getElem_cons_zero, List.setIfInBounds_toArray, List.set_cons_zero, List.set_cons_succ]
  refine wpAnyH_take (i := 4) (v := ?_) rfl (by kernel_rfl) (by kernel_rfl) (by kernel_rfl) (fun _ _ _ h => h) (Or.inl ⟨by rfl, (by intro w' hSw; obtain ⟨s0, s1, s2⟩ := HX.out w' hSw; go_simp; first | done | with_reducible rfl)⟩) hH ?_
  try simp only [Act.put, List.getElem_toArray, List.getElem_cons_succ, List.getElem_cons_zero, List.setIfInBounds_toArray, List.set_cons_zero, List.set_cons_succ]
  refine wpAnyH_take (i := 6) (v := ?_) rfl (by kernel_rfl) (by kernel_rfl) (by kernel_rfl) (fun _ _ _ h => h) (Or.inl ⟨by rfl, (by intro w' hSw; go_simp; first | done | with_reducible rfl)⟩) hH ?_
  try simp only [Act.put, List.getElem_toArray, List.getElem_cons_succ, List.getElem_cons_zero, List.setIfInBounds_toArray, List.set_cons_zero, List.set_cons_succ]
  refine wpAnyH_take (i := 7) (v := ?_) rfl (by kernel_rfl) (by kernel_rfl) (by kernel_rfl) (fun _ _ _ h => h) (Or.inl ⟨by rfl, (by intro w' hSw; obtain ⟨s0, s1, s2⟩ := HX.out w' hSw; go_simp; first | done | with_reducible rfl)⟩) hH ?_
  try simp only [Act.put, List.getElem_toArray, List.getElem_cons_succ, List.getElem_cons_zero, List.setIfInBounds_toArray, List.set_cons_zero, List.set_cons_succ]
  refine wpAnyH_ready (rs := [2]) (by kernel_rfl) (by simp) ?_
  refine AllReadyH.cons rfl (fun K hK => ?_) AllReadyH.nil
  go_simp
  refine CB1.out.mono ?_
  rintro e W3 ⟨Av, cv, rfl, ho3, hb3⟩
  have hs3 := HWS.out
  have hb3' : Below (p + 2) W W3 := HS0.out.trans (hb3.mono (by show p + 2 ≤ W.heap.size; omega))
  have HO3 := Lib.hid ho3
  have HB3 := Lib.hid hb3'
  refine hK.out _ _ (HTO.out _ hb3') (fun hH => ?_)
  clear hK K CB1 ho3 hb3 hb3' hs3
  try simp only [Act.put, List.getElem_toArray, List.getElem_cons_succ, List.getElem_cons_zero, List.setIfInBounds_toArray, List.set_cons_zero, List.set_cons_succ]
  refine wpAnyH_ready (rs := [5]) (by kernel_rfl) (by simp) ?_
  refine AllReadyH.cons rfl (fun K hK => ?_) AllReadyH.nil
  go_simp
  refine (pclipC_nil W3).mono ?_
  rintro e W3' ⟨rfl, rfl⟩
  have CB3 := Lib.hid (pbclone_any (.slice A3 n3 c3) (Sf.now f) p W3 (HLV.out W3 (HB3.out.mono (by omega))) (by have := HB3.out.size; have := HWS.out; omega) (by have := HL1.out; omega))
  refine hK.out _ _ (HTO.out _ HB3.out) (fun hH => ?_)
  clear hK K
  try simp only [Act.put, List.getElem_toArray, List.getElem_cons_succ, List.getElem_cons_zero, List.setIfInBounds_toArray, List.set_cons_zero, List.set_cons_succ]
  refine wpAnyH_ready (rs := [8]) (by kernel_rfl) (by simp) ?_
  refine AllReadyH.cons rfl (fun K hK => ?_) AllReadyH.nil
  go_simp
  refine CB3.out.mono ?_
  rintro e W5 ⟨Aw, cw, rfl, ho5, hb5⟩
  have hb5' : Below (p + 2) W W5 := HB3.out.trans (hb5.mono (by have := HB3.out.size; have := HWS.out; omega))
  have HO5 := Lib.hid ho5
  have HB5 := Lib.hid hb5'
  have HOU : Hid (OwnL yK W5 (p + 2) (.slice Av f.sure.length cv) f.sure) := (HO3.out.below_ hb5 (Nat.le_refl _)).mono_ (by show p + 2 ≤ W.heap.size; have := HWS.out; omega)
  have HAP : Hid (Apart (.slice Av f.sure.length cv) (.slice Aw (Sf.now f).length cw)) := fun k h1 h2 => by
    have h3 := (HO3.out.lt_ k h1).2
    have h4 := (ho5.lt_ k h2).1
    omega
  have HOV : Hid (OwnL yK W5 (p + 2) (.slice Aw (Sf.now f).length cw) (Sf.now f)) := ho5.mono_ (by have := HB3.out.size; have := HWS.out; omega)
  have HZ5 : Hid (Rw W5 (p + 1) 87 #[.slice none 0 0, .slice none 0 0, .slice none 0 0]) := HZ.out W5 hb5'
  refine hK.out _ _ (HTO.out _ hb5') (fun hH => ?_)
  clear hK K CB3 ho5 hb5 hb5'
  try simp only [Act.put, List.getElem_toArray, List.getElem_cons_succ, List.getElem_cons_zero, List.setIfInBounds_toArray, List.set_cons_zero, List.set_cons_succ]
  refine wpAnyH_take (i := 9) (v := ?_) rfl (by kernel_rfl) (by kernel_rfl) (by kernel_rfl) (fun _ _ _ h => h) (Or.inl ⟨by rfl, (by intro w' hSw; go_simp; first | done | with_reducible rfl)⟩) hH ?_
  try simp only [Act.put, List.getElem_toArray, List.getElem_cons_succ, List.getElem_cons_zero, List.setIfInBounds_toArray, List.set_cons_zero, List.set_cons_succ]
  refine wpAnyH_ready (rs := [10]) (by kernel_rfl) (by simp) ?_
  refine AllReadyH.cons rfl (fun K hK => ?_) AllReadyH.nil
  rw [if_pos (by rfl)]
  refine wp_store_row 87 (.tmp 2) (.tmp 12) rfl (p + 1) #[.slice Av f.sure.length cv, .slice none 0 0, .slice Aw (Sf.now f).length cw] rfl rfl 87 _ HZ5.out (by kernel_rfl) rfl (by simp [Value.oneCell']) ?_
  have HRZ := Lib.hid (HZ5.out.row #[.slice Av f.sure.length cv, .slice none 0 0, .slice Aw (Sf.now f).length cw])
  obtain ⟨W6, hW6⟩ : ∃ W6, W5.setRow (p + 1) #[.slice Av f.sure.length cv, .slice none 0 0, .slice Aw (Sf.now f).length cw] = W6 := ⟨_, rfl⟩
  have HT6 : Hid (Turned (fun k => p ≤ k) w W6) := by
    unfold Hid
    rw [← hW6]
    exact ((Turned.of_below HBW.out).trans (Turned.of_below HB5.out) (fun k _ h => by omega)).setRow (fun _ => by omega) _
  have hoff : ∀ k, k ≠ p + 1 → W6.heap[k]? = W5.heap[k]? := fun k hk => by rw [← hW6]; exact setRow_other _ _ _ _ hk
  have HU6 : Hid (OwnL yK W6 (p + 2) (.slice Av f.sure.length cv) f.sure) := HOU.out.of_block fun k hk => hoff k (by have := (HOU.out.lt_ k hk).1; omega)
  have HV6 : Hid (OwnL yK W6 (p + 2) (.slice Aw (Sf.now f).length cw) (Sf.now f)) := HOV.out.of_block fun k hk => hoff k (by have := (HOV.out.lt_ k hk).1; omega)
  rw [hW6] at HRZ
  have HS6 : Hid (Turned (fun k => p + 1 ≤ k) W W6) := by
    unfold Hid
    rw [← hW6]
    exact (HTO.out _ HB5.out).setRow (fun _ => Nat.le_refl _) _
  rw [hW6]
  refine hK.out _ _ HS6.out (fun hH => ?_)
  clear hK K hoff hW6
  refine wpAnyH_done (by kernel_rfl) ?_ _
  clear hH
  go_wp2
  try simp only [Act.put, List.getElem_toArray, List.getElem_cons_succ, List.getElem_cons_zero]
  exact bodyPost_ret (v := .agg #[.slice Av f.sure.length cv, .slice none 0 0, .slice Aw (Sf.now f).length cw]) (results_cell_row rfl _ _ (p + 1) 87 #[.slice Av f.sure.length cv, .slice none 0 0, .slice Aw (Sf.now f).length cw] (0, 0) _ rfl HRZ.out Tryz.underlying87 rfl (by kernel_rfl)) rfl
    ⟨⟨Av, f.sure.length, cv⟩, ⟨Aw, (Sf.now f).length, cw⟩, rfl, HU6.out.mono_ (by have := HP.out; omega), HV6.out.mono_ (by have := HP.out; omega), HAP.out, HT6.out.below (Nat.le_refl _) (fun k h => by have := HP.out; omega)⟩
end Go.Proofs.YtmcbjcbnckpfkaaGreat
