/-
  RSfZd: stookref14: Sync.
  RSfCb: stookref14: Copy.
  RSfD: stookref14.name: is a text one?
-/
import Derived.Test.YtmcbjcbnckpfkaaGreatPk30
import Derived.Deep.RegionHeld3
import Derived.StillTailTactics
import Derived.Test.YtmcbjcbnckpfkaaGreatPk10
import Derived.BigRegion
import Derived.JoinedCond
namespace Go.Proofs.YtmcbjcbnckpfkaaGreat
open Go.RowKit
set_option linter.unusedVariables false
/-- A cell of an own list is not frozen. -/
theorem own_cool {P : Program} {α : Type} {K : El P α} {w : World} {base g j n c : Nat} {l : List α} (h : OwnL K w base (.slice (some ⟨g, 0, none⟩) n c) l) : w.frozen? ⟨g, j, none⟩ = false := by
  rcases h.2 with ⟨e, _⟩ | ⟨g', s, e, _, _, _, hh⟩
  · cases e
  · injection e with e1 e2 e3
    injection e1 with e1
    injection e1 with e1
    subst e1
    exact frozen_of_row w g _ _ _ hh
theorem cell_set_else (w : World) (g j k : Nat) (v : Value) (h : j ≠ k) : (w.setCell ⟨g, k, none⟩ v).cell? ⟨g, j, none⟩ = w.cell? ⟨g, j, none⟩ := by
  exact World.cell?_setCell_other w ⟨g, k, none⟩ ⟨g, j, none⟩ v (fun e => by injection e with _ e _; exact h e.symm)
section
variable {w : World} {f : Fp} {t : Sf.St} {b : Nat}
set_option maxHeartbeats 4000000 in
set_option maxRecDepth 100000 in
theorem rsync_disk (h : RDiskM w f t b) (hf : Sf.Few t) (s : ByteArray) :
    Calls Tryz.prog 36 #[.pointer (some ⟨b, 0, none⟩), .string s] w (IsDeed RDiskM f b (Sf.sync t s) w) := by
  have HD := Lib.hid h
  obtain ⟨vf, vs, vr, vu, rf, rr, h⟩ := h
  have CG := Lib.hid (rget_head w t b vf vs vr vu h.head w.heap.size h.body.seen.lv s)
  have CB := Lib.hid (h.blown hf)
  obtain ⟨k, er, hge⟩ : ∃ k er, Sf.get t s = (k, er) := ⟨_, _, rfl⟩
  have HE : Hid (Sf.sync t s = if er ≠ 0 then (er, t) else if (Sf.blown t).1 ≠ 0 then Sf.blown t else (0, { (Sf.blown t).2 with files := t.files.set k ⟨Sf.now (Sf.fileAt t k), []⟩ })) := by unfold Hid Sf.sync; rw [hge]
  rw [hge] at CG
  by_cases he : er = 0
  · have hq : ((er : Int) == 0) = true := by rw [beq_iff_eq]; omega
    have HE1 : Hid (Sf.sync t s = if (Sf.blown t).1 ≠ 0 then Sf.blown t else (0, { (Sf.blown t).2 with files := t.files.set k ⟨Sf.now (Sf.fileAt t k), []⟩ })) := HE.out.trans (if_neg (by simpa using he))
    rw [he] at hge
    have hk := get_lt h.good hge
    have hM : f.M b := h.mine
    have HM := Lib.hid hM
    obtain ⟨h0, h1, h2, h3, h4, h5, h6⟩ := blown_same t
    have HFS := Lib.hid h1
    obtain ⟨⟨e, t1⟩, hbl⟩ : ∃ x, Sf.blown t = x := ⟨_, rfl⟩
    rw [hbl] at CB HFS HE1
    have HKT : Hid (k < t.files.length) := hk
    have hl0 : t.files.length ≤ 9223372036854775807 := by obtain ⟨_, _, _, _, hsl, _⟩ := h.now_at hk; exact hsl
    clear HE he hge h h0 h1 h2 h3 h4 h5 h6 hbl hf hk hM
    by_cases h0 : e = 0
    · have hq2 : ((e : Int) == 0) = true := by rw [beq_iff_eq]; omega
      have HE2 : Hid (Sf.sync t s = (0, { t1 with files := t.files.set k ⟨Sf.now (Sf.fileAt t k), []⟩ })) := HE1.out.trans (if_neg (by simpa using h0))
      subst h0
      clear HE1
      go_enter Tryz.func36, Tryz.ntmps36
      go_wp2_with fail
      refine CG.out.mono ?_
      rintro e1 w1 ⟨rfl, rfl⟩
      clear CG
      go_wp2_with fail
      refine CB.out.mono ?_
      rintro e2 w2 ⟨rfl, hR, hT⟩
      have HH := Lib.hid hR
      have HT2 := Lib.hid hT
      have hk1 : k < t1.files.length := by rw [show t1.files = t.files from HFS.out]; exact HKT.out
      have HFA : Hid (Sf.fileAt t1 k = Sf.fileAt t k) := by unfold Hid Sf.fileAt; rw [show t1.files = t.files from HFS.out]
      obtain ⟨g, cf, evf, hgl, hsl, hnow⟩ := hR.now_at hk1
      obtain ⟨g2, off2, cf2, x, evf2, _, _, hx, d0, d1, _⟩ := hR.file_at hk1
      have eoff : g2 = g ∧ off2 = 0 := by
        rw [evf] at evf2
        injection evf2 with e1 _ _
        injection e1 with e1
        injection e1 with e1 e2
        exact ⟨e1.symm, e2.symm⟩
      obtain ⟨rfl, rfl⟩ := eoff
      rw [Nat.zero_add] at d0 d1
      have hc1 : w2.cell? ⟨b, 1, none⟩ = some (.slice (some ⟨g2, 0, none⟩) t1.files.length cf) := by have := hR.cell (j := 1) rfl; rw [evf] at this; exact this
      have hb : b < w2.heap.size := hR.lt b (.inl hR.mine)
      have HC : Hid (∀ w', Below w2.heap.size w2 w' → w'.cell? ⟨b, 1, none⟩ = some (.slice (some ⟨g2, 0, none⟩) t1.files.length cf) ∧ w'.cell? ⟨g2, k * 2, none⟩ = some (slV x.sure) ∧ w'.cell? ⟨g2, k * 2 + 1, none⟩ = some (slV x.row)) := fun w' hb' => ⟨(hb'.cell (p := ⟨b, 1, none⟩) hb).trans hc1, (hb'.cell (p := ⟨g2, k * 2, none⟩) hgl).trans d0, (hb'.cell (p := ⟨g2, k * 2 + 1, none⟩) hgl).trans d1⟩
      have HEV : Hid (vf = .slice (some ⟨g2, 0, none⟩) t1.files.length cf) := evf
      have HFO : Hid (∀ w', Below w2.heap.size w2 w' → OwnL fK w' 0 vf rf) := fun w' hb' => hR.body.files.below_ hb' (Nat.le_refl _)
      have HX := Lib.hid hx
      have HK1 := Lib.hid hk1
      have HNW := Lib.hid (hnow w2.drew (Below.refl _ _).drew)
      rw [HFA.out] at HNW
      have hki : (k : Int) < (t1.files.length : Int) := by omega
      have hk0 : (0 : Int) ≤ (k : Int) := by omega
      have hl1 : t1.files.length ≤ 9223372036854775807 := hsl
      have s0 := (HC.out w2.drew (Below.refl _ _).drew).1
      have HGL : Hid (g2 < w2.heap.size) := hgl
      clear CB hR hT evf evf2 hgl hnow hx d0 d1 hc1 hb hk1 hsl
      go_wp2
      refine wp_region_m (fun w' => w'.cell? ⟨b, 1, none⟩ = some (.slice (some ⟨g2, 0, none⟩) t1.files.length cf)) 14 (by kernel_rfl) ?_
      refine wpAnyM_take (i := 0) (v := ?_) rfl (by kernel_rfl) (by kernel_rfl) (by kernel_rfl) (by kernel_rfl) (fun _ _ _ h => h) s0 (Or.inl ⟨by rfl, (by intro w' hSw; go_simp; first | done | with_reducible rfl)⟩) ?_
      try simp only [Act.put, List.getElem_toArray, List.getElem_cons_zero, List.setIfInBounds_toArray, List.set_cons_zero, List.set_cons_succ]
      refine wpAnyM_take (i := 1) (v := ?_) rfl (by kernel_rfl) (by kernel_rfl) (by kernel_rfl) (by kernel_rfl) (fun _ _ _ h => h) s0 (Or.inl ⟨by rfl, (by intro w' hSw; go_simp; first | done | with_reducible rfl)⟩) ?_
      try simp only [Act.put, List.getElem_toArray, List.getElem_cons_succ, List.getElem_cons_zero, List.setIfInBounds_toArray, List.set_cons_zero, List.set_cons_succ]
      refine wpAnyM_take (i := 2) (v := ?_) rfl (by kernel_rfl) (by kernel_rfl) (by kernel_rfl) (by kernel_rfl) (fun _ _ _ h => h) s0 (Or.inl ⟨by rfl, (by intro w' hSw; go_simp; first | done | with_reducible rfl)⟩) ?_
      try simp only [Act.put, List.getElem_toArray, List.getElem_cons_succ, List.getElem_cons_zero, List.setIfInBounds_toArray, List.set_cons_zero, List.set_cons_succ]
      refine wpAnyM_take (i := 3) (v := ?_) rfl (by kernel_rfl) (by kernel_rfl) (by kernel_rfl) (by kernel_rfl) (fun _ _ _ h => h) s0 (Or.inl ⟨by rfl, (by intro w' hSw; go_simp; first | done | with_reducible rfl)⟩) ?_
      try simp only [Act.put, List.getElem_toArray, List.getElem_cons_succ, List.getElem_cons_zero, List.setIfInBounds_toArray, List.set_cons_zero, List.set_cons_succ]
      refine wpAnyM_take (i := 4) (v := ?_) rfl (by kernel_rfl) (by kernel_rfl) (by kernel_rfl) (by kernel_rfl) (fun _ _ _ h => h) s0 (Or.inl ⟨by rfl, (by intro w' hSw; go_simp; first | done | with_reducible rfl)⟩) ?_
      try simp only [Act.put, List.getElem_toArray, List.getElem_cons_succ, List.getElem_cons_zero, List.setIfInBounds_toArray, List.set_cons_zero, List.set_cons_succ]
      refine wpAnyM_take (i := 5) (v := ?_) rfl (by kernel_rfl) (by kernel_rfl) (by kernel_rfl) (by kernel_rfl) (fun _ _ _ h => h) s0 (Or.inl ⟨by rfl, (by intro w' hSw; go_simp; first | done | with_reducible rfl)⟩) ?_
      try simp only [Act.put, List.getElem_toArray, List.getElem_cons_succ, List.getElem_cons_zero, List.setIfInBounds_toArray, List.set_cons_zero, List.set_cons_succ]
      refine wpAnyM_take (i := 6) (v := ?_) rfl (by kernel_rfl) (by kernel_rfl) (by kernel_rfl) (by kernel_rfl) (fun _ _ _ h => h) s0 (Or.inl ⟨by rfl, (by intro w' hSw; go_simp; first | done | with_reducible rfl)⟩) ?_
      try simp only [Act.put, List.getElem_toArray, List.getElem_cons_succ, List.getElem_cons_zero, List.setIfInBounds_toArray, List.set_cons_zero, List.set_cons_succ]
      refine wpAnyM_take (i := 7) (v := ?_) rfl (by kernel_rfl) (by kernel_rfl) (by kernel_rfl) (by kernel_rfl) (fun _ _ _ h => h) s0 (Or.inl ⟨by rfl, (by intro w' hSw; go_simp; first | done | with_reducible rfl)⟩) ?_
      try simp only [Act.put, List.getElem_toArray, List.getElem_cons_succ, List.getElem_cons_zero, List.setIfInBounds_toArray, List.set_cons_zero, List.set_cons_succ]
      refine wpAnyM_take (i := 8) (v := ?_) rfl (by kernel_rfl) (by kernel_rfl) (by kernel_rfl) (by kernel_rfl) (fun _ _ _ h => h) s0 (Or.inl ⟨by rfl, (by intro w' hSw; go_simp; first | done | with_reducible rfl)⟩) ?_
      try simp only [Act.put, List.getElem_toArray, List.getElem_cons_succ, List.getElem_cons_zero, List.setIfInBounds_toArray, List.set_cons_zero, List.set_cons_succ]
      refine wpAnyM_take (i := 9) (v := ?_) rfl (by kernel_rfl) (by kernel_rfl) (by kernel_rfl) (by kernel_rfl) (fun _ _ _ h => h) s0 (Or.inl ⟨by rfl, (by intro w' hSw; go_simp; first | done | with_reducible rfl)⟩) ?_
      try simp only [Act.put, List.getElem_toArray, List.getElem_cons_succ, List.getElem_cons_zero, List.setIfInBounds_toArray, List.set_cons_zero, List.set_cons_succ]
      refine wpAnyM_take (i := 10) (v := ?_) rfl (by kernel_rfl) (by kernel_rfl) (by kernel_rfl) (by kernel_rfl) (fun _ _ _ h => h) s0 (Or.inl ⟨by rfl, (by intro w' hSw; go_simp; first | done | with_reducible rfl)⟩) ?_
      try simp only [Act.put, List.getElem_toArray, List.getElem_cons_succ, List.getElem_cons_zero, List.setIfInBounds_toArray, List.set_cons_zero, List.set_cons_succ]
      refine wpAnyM_next (i := 11) (by kernel_rfl) rfl (fun K hK => ?_)
      go_simp
      refine HNW.out.mono ?_
      rintro e4 w4 ⟨A4, c4, rfl, ho4, hb4⟩
      have hb24 : Below w2.heap.size w2 w4 := (Below.refl w2.heap.size w2).drew.trans hb4
      have HB4 := Lib.hid hb24
      have HO4 : Hid (OwnL yK w4 w2.heap.size (.slice A4 (Sf.now (Sf.fileAt t k)).length c4) (Sf.now (Sf.fileAt t k))) := ho4
      have s1 := (HC.out w4 hb24).1
      refine hK.out _ _ (.inr s1) ?_
      clear hK K HNW ho4 hb4 hb24
      try simp only [Act.put, List.getElem_toArray, List.getElem_cons_succ, List.getElem_cons_zero, List.setIfInBounds_toArray, List.set_cons_zero, List.set_cons_succ]
      refine wpAnyM_take (i := 12) (v := ?_) rfl (by kernel_rfl) (by kernel_rfl) (by kernel_rfl) (by kernel_rfl) (fun _ _ _ h => h) s1 (Or.inl ⟨by rfl, (by intro w' hSw; go_simp; first | done | with_reducible rfl)⟩) ?_
      try simp only [Act.put, List.getElem_toArray, List.getElem_cons_succ, List.getElem_cons_zero, List.setIfInBounds_toArray, List.set_cons_zero, List.set_cons_succ]
      refine wpAnyM_next (i := 13) (by kernel_rfl) rfl (fun K hK => ?_)
      go_simp
      refine hK.out _ _ (.inr s1) ?_
      clear hK K
      try simp only [Act.put, List.getElem_toArray, List.getElem_cons_succ, List.getElem_cons_zero, List.setIfInBounds_toArray, List.set_cons_zero, List.set_cons_succ]
      obtain ⟨l, hl⟩ : ∃ l, Sf.now (Sf.fileAt t k) = l := ⟨_, rfl⟩
      rw [hl] at HO4
      rw [hl]
      have HL := Lib.hid hl
      clear hl
      have hf4 := HFO.out w4 HB4.out
      rw [HEV.out] at hf4
      have z0 : w4.frozen? ⟨g2, k * 2, none⟩ = false := own_cool hf4
      have y0 := (HC.out w4 HB4.out).2.1
      obtain ⟨hf5, hG5⟩ := hf4.setc_ (j := 0) (x' := (⟨⟨A4, l.length, c4⟩, x.row⟩ : RawF)) (u := .slice A4 l.length c4) HX.out (by decide) rfl trivial
      have z1 : (w4.setCell ⟨g2, k * 2, none⟩ (.slice A4 l.length c4)).frozen? ⟨g2, k * 2 + 1, none⟩ = false := own_cool hf5
      have y1 : (w4.setCell ⟨g2, k * 2, none⟩ (.slice A4 l.length c4)).cell? ⟨g2, k * 2 + 1, none⟩ = some (slV x.row) := by rw [cell_set_else _ _ _ _ _ (by omega)]; exact (HC.out w4 HB4.out).2.2
      obtain ⟨hf6, hG6⟩ := hf5.setc_ (j := 1) (x' := (⟨⟨A4, l.length, c4⟩, ⟨none, 0, 0⟩⟩ : RawF)) (u := .slice none 0 0) (List.getElem?_set_self (List.getElem?_eq_some_iff.1 HX.out).1) (by decide) rfl trivial
      rw [List.set_set, ← HEV.out] at hf6
      have HF6 : Hid (OwnL fK ((w4.setCell ⟨g2, k * 2, none⟩ (.slice A4 l.length c4)).setCell ⟨g2, k * 2 + 1, none⟩ (.slice none 0 0)) 0 vf (rf.set k ⟨⟨A4, l.length, c4⟩, ⟨none, 0, 0⟩⟩)) := hf6
      have T6 : Turned (fun k => k = g2) w4 ((w4.setCell ⟨g2, k * 2, none⟩ (.slice A4 l.length c4)).setCell ⟨g2, k * 2 + 1, none⟩ (.slice none 0 0)) := Turned.setCell (F := fun k => k = g2) (Turned.setCell (F := fun k => k = g2) (Turned.refl (fun k => k = g2) w4) (p := ⟨g2, k * 2, none⟩) (fun _ => rfl) _) (p := ⟨g2, k * 2 + 1, none⟩) (fun _ => rfl) _
      have HT6 := Lib.hid T6
      obtain ⟨w5, hw5⟩ : ∃ w5, w4.setCell ⟨g2, k * 2, none⟩ (.slice A4 l.length c4) = w5 := ⟨_, rfl⟩
      rw [hw5] at HF6 HT6 z1 y1
      obtain ⟨w6, hw6⟩ : ∃ w6, w5.setCell ⟨g2, k * 2 + 1, none⟩ (.slice none 0 0) = w6 := ⟨_, rfl⟩
      rw [hw6] at HF6 HT6
      clear hf4 hf5 hf6 hG5 hG6 T6
      refine wpAnyM_next (i := 14) (by kernel_rfl) rfl (fun K hK => ?_)
      go_simp
      refine hK.out _ _ (.inl (Nat.le_refl _)) ?_
      clear hK K
      try simp only [Act.put, List.getElem_toArray, List.getElem_cons_succ, List.getElem_cons_zero, List.setIfInBounds_toArray, List.set_cons_zero, List.set_cons_succ]
      refine wpAnyM_done (by kernel_rfl) ?_ _
      clear z0 y0 z1 y1 hw5 hw6 s0 s1
      have T24 : Turned (fun k => k = g2) w4 w6 := HT6.out
      have T2 : Turned (fun k => k = g2) w2 w6 := ((Turned.of_below HB4.out).mono (G := fun k => k = g2) (fun k hk hs => absurd hs (by omega))).trans T24 (fun k _ hk => hk)
      obtain ⟨hRR, hTT⟩ := HH.out.sync_file HX.out HK1.out (sl := ⟨A4, l.length, c4⟩) (g := g2) (by rw [HEV.out]; rfl) (w7 := w6) (by rw [HFA.out, HL.out]; exact (HO4.out.turned_ T24 (fun k hk e => by have := (HO4.out.lt_ k hk).1; have := HGL.out; omega)).form_) (fun k hk => (HO4.out.lt_ k hk).1) (fun _ k hk => Nat.lt_of_lt_of_le (HO4.out.lt_ k hk).2 T24.size) HF6.out T2
      rw [HFA.out, HL.out] at hRR
      have HRR := Lib.hid hRR
      have HTT := Lib.hid hTT
      have HNX : Hid (∀ k, (Value.slice A4 l.length c4).ownBlock = some k → w.heap.size ≤ k) := fun k hk => Nat.le_trans HT2.out.size (HO4.out.lt_ k hk).1
      clear T24 T2 hRR hTT
      go_wp2
      go_ret
      rw [HE2.out, HL.out]
      have e : ({ t1 with files := t1.files.set k ⟨l, []⟩ } : Sf.St) = { t1 with files := t.files.set k ⟨l, []⟩ } := by rw [show t1.files = t.files from HFS.out]
      rw [e] at HRR
      refine ⟨rfl, _, ⟨vf, vs, vr, vu, _, rr, HRR.out⟩, ⟨fun k hk => .inl hk, fun k hk => ?_⟩, ?_⟩
      · rcases hk with hk | hk
        · exact .inl hk
        · exact .inr (HNX.out k hk.2)
      · exact (HT2.out.mono (G := f.M) (fun k _ hk => hk ▸ HM.out)).trans HTT.out (fun k _ hk => hk)
    · have hq2 : ((e : Int) == 0) = false := by rw [beq_eq_false_iff_ne]; omega
      have HE2 : Hid (Sf.sync t s = (e, t1)) := HE1.out.trans (if_pos h0)
      clear HE1 h0
      go_enter Tryz.func36, Tryz.ntmps36
      go_wp2_with fail
      refine CG.out.mono ?_
      rintro e1 w1 ⟨rfl, rfl⟩
      clear CG
      go_wp2_with fail
      refine CB.out.mono ?_
      rintro e2 w2 ⟨rfl, hR, hT⟩
      have HH := Lib.hid hR
      have HT2 := Lib.hid hT
      clear CB hR hT
      go_wp2
      go_ret
      rw [HE2.out]
      exact ⟨rfl, f, ⟨_, _, _, _, _, _, HH.out⟩, Fp.Next.refl _ _, HT2.out.mono (fun k _ hk => hk ▸ HM.out)⟩
  · have hq : ((er : Int) == 0) = false := by rw [beq_eq_false_iff_ne]; omega
    have HE2 : Hid (Sf.sync t s = (er, t)) := HE.out.trans (if_pos he)
    clear HE he hge h hf CB
    go_enter Tryz.func36, Tryz.ntmps36
    go_wp2_with fail
    refine CG.out.mono ?_
    rintro e1 w1 ⟨rfl, rfl⟩
    clear CG
    go_wp2
    go_ret
    rw [HE2.out]
    exact ⟨rfl, f, HD.out, Fp.Next.refl _ _, Turned.refl _ _⟩
end
end Go.Proofs.YtmcbjcbnckpfkaaGreat
namespace Go.Proofs.YtmcbjcbnckpfkaaGreat
open Go.RowKit
set_option linter.unusedVariables false
section
variable {w : World} {f : Fp} {t : Sf.St} {b : Nat}
set_option maxHeartbeats 4000000 in
set_option maxRecDepth 100000 in
theorem rcopy_disk (h : RDiskM w f t b) : Calls Tryz.prog 18 #[.pointer (some ⟨b, 0, none⟩)] w (IsDisk1 RDiskM f t w) := by
  obtain ⟨vf, vs, vr, vu, rf, rr, h⟩ := h
  have HH := Lib.hid h
  have hb : b < w.heap.size := h.lt b (.inl h.mine)
  have hnf := h.body.nfiles
  have hfl : rf.length ≤ 1099511627840 := by have := h.good.files; have := h.good.acts; omega
  have hrl : rr.length ≤ 1099511627776 := by have := h.body.nrow; have := h.good.rows; have := h.good.acts; omega
  have HD := Lib.hid h.head
  have HVF := Lib.hid h.body.files.form_
  have HVR := Lib.hid h.body.row.form_
  obtain ⟨Af, cf, ef, _⟩ := h.body.files.form_
  obtain ⟨Ar, cr, er, _⟩ := h.body.row.form_
  obtain ⟨As, cs, es, _⟩ := h.body.sure.lv
  obtain ⟨Au, cu, eu, _⟩ := h.body.seen.lv
  subst ef er es eu
  obtain ⟨ns, hns⟩ : ∃ n, t.sure.length = n := ⟨_, rfl⟩
  obtain ⟨nu, hnu⟩ : ∃ n, t.seen.length = n := ⟨_, rfl⟩
  rw [hns, hnu] at HH HD
  have HNF := Lib.hid hnf
  have HC : Hid (∀ w', Below w.heap.size w w' → w'.heap[b]? = some (.cells (headC t (.slice Af rf.length cf) (.slice As ns cs) (.slice Ar rr.length cr) (.slice Au nu cu)) 53 (0, 0))) := fun w' hb' => (hb'.block b hb).trans HD.out
  have c0 : w.drew.cell? ⟨b, 0, none⟩ = some (.int .i64 (t.room : Nat)) := head_cell (HC.out _ (Below.refl _ _).drew) rfl
  have c2 : w.drew.cell? ⟨b, 2, none⟩ = some (.slice As ns cs) := head_cell (HC.out _ (Below.refl _ _).drew) rfl
  have c4 : w.drew.cell? ⟨b, 4, none⟩ = some (.slice Au nu cu) := head_cell (HC.out _ (Below.refl _ _).drew) rfl
  have c5 : w.drew.cell? ⟨b, 5, none⟩ = some (.int .i64 (t.acts : Nat)) := head_cell (HC.out _ (Below.refl _ _).drew) rfl
  have c6 : w.drew.cell? ⟨b, 6, none⟩ = some (.int .i64 (t.fuse : Nat)) := head_cell (HC.out _ (Below.refl _ _).drew) rfl
  have c7 : w.drew.cell? ⟨b, 7, none⟩ = some (.bool t.dead) := head_cell (HC.out _ (Below.refl _ _).drew) rfl
  clear h hnf hns hnu hb
  go_enter Tryz.func18, Tryz.ntmps18
  go_wp2
  refine wp_region_m (fun w' => w'.cell? ⟨b, 0, none⟩ = some (.int .i64 (t.room : Nat)) ∧ w'.cell? ⟨b, 2, none⟩ = some (.slice As ns cs) ∧ w'.cell? ⟨b, 4, none⟩ = some (.slice Au nu cu) ∧ w'.cell? ⟨b, 5, none⟩ = some (.int .i64 (t.acts : Nat)) ∧ w'.cell? ⟨b, 6, none⟩ = some (.int .i64 (t.fuse : Nat)) ∧ w'.cell? ⟨b, 7, none⟩ = some (.bool t.dead)) 25 (by kernel_rfl) ?_
  have s0 : w.drew.cell? ⟨b, 0, none⟩ = some (.int .i64 (t.room : Nat)) ∧ w.drew.cell? ⟨b, 2, none⟩ = some (.slice As ns cs) ∧ w.drew.cell? ⟨b, 4, none⟩ = some (.slice Au nu cu) ∧ w.drew.cell? ⟨b, 5, none⟩ = some (.int .i64 (t.acts : Nat)) ∧ w.drew.cell? ⟨b, 6, none⟩ = some (.int .i64 (t.fuse : Nat)) ∧ w.drew.cell? ⟨b, 7, none⟩ = some (.bool t.dead) := ⟨c0, c2, c4, c5, c6, c7⟩
  refine wpAnyM_take (i := 0) (v := ?_) rfl (by kernel_rfl) (by kernel_rfl) (by kernel_rfl) (by kernel_rfl) (fun _ _ _ h => h) s0 (Or.inl ⟨by rfl, (by intro w' hSw; obtain ⟨q0, q2, q4, q5, q6, q7⟩ := hSw; go_simp; first | done | with_reducible rfl)⟩) ?_
  try simp only [Act.put, List.getElem_toArray, List.getElem_cons_zero, List.setIfInBounds_toArray, List.set_cons_zero, List.set_cons_succ]
  refine wpAnyM_take (i := 1) (v := ?_) rfl (by kernel_rfl) (by kernel_rfl) (by kernel_rfl) (by kernel_rfl) (fun _ _ _ h => h) s0 (Or.inl ⟨by rfl, (by intro w' hSw; obtain ⟨q0, q2, q4, q5, q6, q7⟩ := hSw; go_simp; first | done | with_reducible rfl)⟩) ?_
  try simp only [Act.put, List.getElem_toArray, List.getElem_cons_succ, List.getElem_cons_zero, List.setIfInBounds_toArray, List.set_cons_zero, List.set_cons_succ]
  refine wpAnyM_take (i := 2) (v := ?_) rfl (by kernel_rfl) (by kernel_rfl) (by kernel_rfl) (by kernel_rfl) (fun _ _ _ h => h) s0 (Or.inl ⟨by rfl, (by intro w' hSw; obtain ⟨q0, q2, q4, q5, q6, q7⟩ := hSw; go_simp; first | done | with_reducible rfl)⟩) ?_
  try simp only [Act.put, List.getElem_toArray, List.getElem_cons_succ, List.getElem_cons_zero, List.setIfInBounds_toArray, List.set_cons_zero, List.set_cons_succ]
  refine wpAnyM_take (i := 3) (v := ?_) rfl (by kernel_rfl) (by kernel_rfl) (by kernel_rfl) (by kernel_rfl) (fun _ _ _ h => h) s0 (Or.inl ⟨by rfl, (by intro w' hSw; obtain ⟨q0, q2, q4, q5, q6, q7⟩ := hSw; go_simp; first | done | with_reducible rfl)⟩) ?_
  try simp only [Act.put, List.getElem_toArray, List.getElem_cons_succ, List.getElem_cons_zero, List.setIfInBounds_toArray, List.set_cons_zero, List.set_cons_succ]
  refine wpAnyM_take (i := 4) (v := ?_) rfl (by kernel_rfl) (by kernel_rfl) (by kernel_rfl) (by kernel_rfl) (fun _ _ _ h => h) s0 (Or.inl ⟨by rfl, (by intro w' hSw; obtain ⟨q0, q2, q4, q5, q6, q7⟩ := hSw; go_simp; first | done | with_reducible rfl)⟩) ?_
  try simp only [Act.put, List.getElem_toArray, List.getElem_cons_succ, List.getElem_cons_zero, List.setIfInBounds_toArray, List.set_cons_zero, List.set_cons_succ]
  refine wpAnyM_take (i := 5) (v := ?_) rfl (by kernel_rfl) (by kernel_rfl) (by kernel_rfl) (by kernel_rfl) (fun _ _ _ h => h) s0 (Or.inl ⟨by rfl, (by intro w' hSw; obtain ⟨q0, q2, q4, q5, q6, q7⟩ := hSw; go_simp; first | done | with_reducible rfl)⟩) ?_
  try simp only [Act.put, List.getElem_toArray, List.getElem_cons_succ, List.getElem_cons_zero, List.setIfInBounds_toArray, List.set_cons_zero, List.set_cons_succ]
  refine wpAnyM_take (i := 6) (v := ?_) rfl (by kernel_rfl) (by kernel_rfl) (by kernel_rfl) (by kernel_rfl) (fun _ _ _ h => h) s0 (Or.inl ⟨by rfl, (by intro w' hSw; obtain ⟨q0, q2, q4, q5, q6, q7⟩ := hSw; go_simp; first | done | with_reducible rfl)⟩) ?_
  try simp only [Act.put, List.getElem_toArray, List.getElem_cons_succ, List.getElem_cons_zero, List.setIfInBounds_toArray, List.set_cons_zero, List.set_cons_succ]
  refine wpAnyM_take (i := 7) (v := ?_) rfl (by kernel_rfl) (by kernel_rfl) (by kernel_rfl) (by kernel_rfl) (fun _ _ _ h => h) s0 (Or.inl ⟨by rfl, (by intro w' hSw; obtain ⟨q0, q2, q4, q5, q6, q7⟩ := hSw; go_simp; first | done | with_reducible rfl)⟩) ?_
  try simp only [Act.put, List.getElem_toArray, List.getElem_cons_succ, List.getElem_cons_zero, List.setIfInBounds_toArray, List.set_cons_zero, List.set_cons_succ]
  refine wpAnyM_take (i := 8) (v := ?_) rfl (by kernel_rfl) (by kernel_rfl) (by kernel_rfl) (by kernel_rfl) (fun _ _ _ h => h) s0 (Or.inl ⟨by rfl, (by intro w' hSw; obtain ⟨q0, q2, q4, q5, q6, q7⟩ := hSw; go_simp; first | done | with_reducible rfl)⟩) ?_
  try simp only [Act.put, List.getElem_toArray, List.getElem_cons_succ, List.getElem_cons_zero, List.setIfInBounds_toArray, List.set_cons_zero, List.set_cons_succ]
  refine wpAnyM_take (i := 9) (v := ?_) rfl (by kernel_rfl) (by kernel_rfl) (by kernel_rfl) (by kernel_rfl) (fun _ _ _ h => h) s0 (Or.inl ⟨by rfl, (by intro w' hSw; obtain ⟨q0, q2, q4, q5, q6, q7⟩ := hSw; go_simp; first | done | with_reducible rfl)⟩) ?_
  try simp only [Act.put, List.getElem_toArray, List.getElem_cons_succ, List.getElem_cons_zero, List.setIfInBounds_toArray, List.set_cons_zero, List.set_cons_succ]
  refine wpAnyM_take (i := 10) (v := ?_) rfl (by kernel_rfl) (by kernel_rfl) (by kernel_rfl) (by kernel_rfl) (fun _ _ _ h => h) s0 (Or.inl ⟨by rfl, (by intro w' hSw; obtain ⟨q0, q2, q4, q5, q6, q7⟩ := hSw; go_simp; first | done | with_reducible rfl)⟩) ?_
  try simp only [Act.put, List.getElem_toArray, List.getElem_cons_succ, List.getElem_cons_zero, List.setIfInBounds_toArray, List.set_cons_zero, List.set_cons_succ]
  refine wpAnyM_take (i := 11) (v := ?_) rfl (by kernel_rfl) (by kernel_rfl) (by kernel_rfl) (by kernel_rfl) (fun _ _ _ h => h) s0 (Or.inl ⟨by rfl, (by intro w' hSw; obtain ⟨q0, q2, q4, q5, q6, q7⟩ := hSw; go_simp; first | done | with_reducible rfl)⟩) ?_
  try simp only [Act.put, List.getElem_toArray, List.getElem_cons_succ, List.getElem_cons_zero, List.setIfInBounds_toArray, List.set_cons_zero, List.set_cons_succ]
  refine wpAnyM_take (i := 12) (v := ?_) rfl (by kernel_rfl) (by kernel_rfl) (by kernel_rfl) (by kernel_rfl) (fun _ _ _ h => h) s0 (Or.inl ⟨by rfl, (by intro w' hSw; obtain ⟨q0, q2, q4, q5, q6, q7⟩ := hSw; go_simp; first | done | with_reducible rfl)⟩) ?_
  try simp only [Act.put, List.getElem_toArray, List.getElem_cons_succ, List.getElem_cons_zero, List.setIfInBounds_toArray, List.set_cons_zero, List.set_cons_succ]
  refine wpAnyM_take (i := 13) (v := ?_) rfl (by kernel_rfl) (by kernel_rfl) (by kernel_rfl) (by kernel_rfl) (fun _ _ _ h => h) s0 (Or.inl ⟨by rfl, (by intro w' hSw; obtain ⟨q0, q2, q4, q5, q6, q7⟩ := hSw; go_simp; first | done | with_reducible rfl)⟩) ?_
  try simp only [Act.put, List.getElem_toArray, List.getElem_cons_succ, List.getElem_cons_zero, List.setIfInBounds_toArray, List.set_cons_zero, List.set_cons_succ]
  refine wpAnyM_take (i := 14) (v := ?_) rfl (by kernel_rfl) (by kernel_rfl) (by kernel_rfl) (by kernel_rfl) (fun _ _ _ h => h) s0 (Or.inl ⟨by rfl, (by intro w' hSw; obtain ⟨q0, q2, q4, q5, q6, q7⟩ := hSw; go_simp; first | done | with_reducible rfl)⟩) ?_
  try simp only [Act.put, List.getElem_toArray, List.getElem_cons_succ, List.getElem_cons_zero, List.setIfInBounds_toArray, List.set_cons_zero, List.set_cons_succ]
  refine wpAnyM_take (i := 15) (v := ?_) rfl (by kernel_rfl) (by kernel_rfl) (by kernel_rfl) (by kernel_rfl) (fun _ _ _ h => h) s0 (Or.inl ⟨by rfl, (by intro w' hSw; obtain ⟨q0, q2, q4, q5, q6, q7⟩ := hSw; go_simp; first | done | with_reducible rfl)⟩) ?_
  try simp only [Act.put, List.getElem_toArray, List.getElem_cons_succ, List.getElem_cons_zero, List.setIfInBounds_toArray, List.set_cons_zero, List.set_cons_succ]
  refine wpAnyM_take (i := 16) (v := ?_) rfl (by kernel_rfl) (by kernel_rfl) (by kernel_rfl) (by kernel_rfl) (fun _ _ _ h => h) s0 (Or.inl ⟨by rfl, (by intro w' hSw; obtain ⟨q0, q2, q4, q5, q6, q7⟩ := hSw; go_simp; first | done | with_reducible rfl)⟩) ?_
  try simp only [Act.put, List.getElem_toArray, List.getElem_cons_succ, List.getElem_cons_zero, List.setIfInBounds_toArray, List.set_cons_zero, List.set_cons_succ]
  refine wpAnyM_take (i := 17) (v := ?_) rfl (by kernel_rfl) (by kernel_rfl) (by kernel_rfl) (by kernel_rfl) (fun _ _ _ h => h) s0 (Or.inl ⟨by rfl, (by intro w' hSw; obtain ⟨q0, q2, q4, q5, q6, q7⟩ := hSw; go_simp; first | done | with_reducible rfl)⟩) ?_
  try simp only [Act.put, List.getElem_toArray, List.getElem_cons_succ, List.getElem_cons_zero, List.setIfInBounds_toArray, List.set_cons_zero, List.set_cons_succ]
  refine wpAnyM_take (i := 18) (v := ?_) rfl (by kernel_rfl) (by kernel_rfl) (by kernel_rfl) (by kernel_rfl) (fun _ _ _ h => h) s0 (Or.inl ⟨by rfl, (by intro w' hSw; obtain ⟨q0, q2, q4, q5, q6, q7⟩ := hSw; go_simp; first | done | with_reducible rfl)⟩) ?_
  try simp only [Act.put, List.getElem_toArray, List.getElem_cons_succ, List.getElem_cons_zero, List.setIfInBounds_toArray, List.set_cons_zero, List.set_cons_succ]
  refine wpAnyM_take (i := 19) (v := ?_) rfl (by kernel_rfl) (by kernel_rfl) (by kernel_rfl) (by kernel_rfl) (fun _ _ _ h => h) s0 (Or.inl ⟨by rfl, (by intro w' hSw; obtain ⟨q0, q2, q4, q5, q6, q7⟩ := hSw; go_simp; first | done | with_reducible rfl)⟩) ?_
  try simp only [Act.put, List.getElem_toArray, List.getElem_cons_succ, List.getElem_cons_zero, List.setIfInBounds_toArray, List.set_cons_zero, List.set_cons_succ]
  refine wpAnyM_take (i := 20) (v := ?_) rfl (by kernel_rfl) (by kernel_rfl) (by kernel_rfl) (by kernel_rfl) (fun _ _ _ h => h) s0 (Or.inl ⟨by rfl, (by intro w' hSw; obtain ⟨q0, q2, q4, q5, q6, q7⟩ := hSw; go_simp; first | done | with_reducible rfl)⟩) ?_
  try simp only [Act.put, List.getElem_toArray, List.getElem_cons_succ, List.getElem_cons_zero, List.setIfInBounds_toArray, List.set_cons_zero, List.set_cons_succ]
  refine wpAnyM_take (i := 21) (v := ?_) rfl (by kernel_rfl) (by kernel_rfl) (by kernel_rfl) (by kernel_rfl) (fun _ _ _ h => h) s0 (Or.inl ⟨by rfl, (by intro w' hSw; obtain ⟨q0, q2, q4, q5, q6, q7⟩ := hSw; go_simp; first | done | with_reducible rfl)⟩) ?_
  try simp only [Act.put, List.getElem_toArray, List.getElem_cons_succ, List.getElem_cons_zero, List.setIfInBounds_toArray, List.set_cons_zero, List.set_cons_succ]
  refine wpAnyM_take (i := 22) (v := ?_) rfl (by kernel_rfl) (by kernel_rfl) (by kernel_rfl) (by kernel_rfl) (fun _ _ _ h => h) s0 (Or.inl ⟨by rfl, (by intro w' hSw; obtain ⟨q0, q2, q4, q5, q6, q7⟩ := hSw; go_simp; first | done | with_reducible rfl)⟩) ?_
  try simp only [Act.put, List.getElem_toArray, List.getElem_cons_succ, List.getElem_cons_zero, List.setIfInBounds_toArray, List.set_cons_zero, List.set_cons_succ]
  refine wpAnyM_take (i := 23) (v := ?_) rfl (by kernel_rfl) (by kernel_rfl) (by kernel_rfl) (by kernel_rfl) (fun _ _ _ h => h) s0 (Or.inl ⟨by rfl, (by intro w' hSw; obtain ⟨q0, q2, q4, q5, q6, q7⟩ := hSw; go_simp; first | done | with_reducible rfl)⟩) ?_
  try simp only [Act.put, List.getElem_toArray, List.getElem_cons_succ, List.getElem_cons_zero, List.setIfInBounds_toArray, List.set_cons_zero, List.set_cons_succ]
  refine wpAnyM_take (i := 24) (v := ?_) rfl (by kernel_rfl) (by kernel_rfl) (by kernel_rfl) (by kernel_rfl) (fun _ _ _ h => h) s0 (Or.inl ⟨by rfl, (by intro w' hSw; obtain ⟨q0, q2, q4, q5, q6, q7⟩ := hSw; go_simp; first | done | with_reducible rfl)⟩) ?_
  try simp only [Act.put, List.getElem_toArray, List.getElem_cons_succ, List.getElem_cons_zero, List.setIfInBounds_toArray, List.set_cons_zero, List.set_cons_succ]
  obtain ⟨W, hW⟩ : ∃ W, (w.alloc (.cells (headC t (.slice none 0 0) (.slice As ns cs) (.slice none 0 0) (.slice Au nu cu)) 53)).drew = W := ⟨_, rfl⟩
  have HBW : Hid (Below w.heap.size w W) := by unfold Hid; rw [← hW]; exact ((Below.refl _ _).alloc (Nat.le_refl _) _).drew
  have HHW : Hid (W.heap[w.heap.size]? = some (.cells (headC t (.slice none 0 0) (.slice As ns cs) (.slice none 0 0) (.slice Au nu cu)) 53 (0, 0))) := by unfold Hid; rw [← hW]; exact heap_alloc_new w _
  refine wpAnyM_next (i := 25) (by kernel_rfl) rfl (fun K hK => ?_)
  go_simp
  change K _ ((w.alloc (.cells (headC t (.slice none 0 0) (.slice As ns cs) (.slice none 0 0) (.slice Au nu cu)) 53)).drew)
  rw [hW]
  refine hK.out _ _ (.inl (Nat.le_refl _)) ?_
  clear hK K
  try simp only [Act.put, List.getElem_toArray, List.getElem_cons_succ, List.getElem_cons_zero, List.setIfInBounds_toArray, List.set_cons_zero, List.set_cons_succ]
  refine wpAnyM_next (i := 26) (by kernel_rfl) rfl (fun K hK => ?_)
  go_simp
  refine hK.out _ _ (.inl (by omega)) ?_
  clear hK K
  try simp only [Act.put, List.getElem_toArray, List.getElem_cons_succ, List.getElem_cons_zero, List.setIfInBounds_toArray, List.set_cons_zero, List.set_cons_succ]
  refine wpAnyM_done (by kernel_rfl) ?_ _
  obtain ⟨ob, hob⟩ : ∃ ob, w.heap.size = ob := ⟨_, rfl⟩
  have HOB : Hid (w.heap.size ≤ ob) := by unfold Hid; omega
  have HHW2 : Hid (W.heap[ob]? = some (.cells (headC t (.slice none 0 0) (.slice As ns cs) (.slice none 0 0) (.slice Au nu cu)) 53 (0, 0))) := hob ▸ HHW.out
  rw [hob]
  have HOE : Hid (w.heap.size = ob) := hob
  clear s0 c0 c2 c4 c5 c6 c7 hW HHW hob
  have r0 : W.drew.cell? ⟨ob, 3, none⟩ = some (.slice none 0 0) ∧ W.drew.cell? ⟨b, 3, none⟩ = some (.slice Ar rr.length cr) := ⟨head_cell (w := W.drew) HHW2.out rfl, head_cell (HC.out _ HBW.out.drew) rfl⟩
  go_wp2
  refine wp_region_m (fun w' => w'.cell? ⟨ob, 3, none⟩ = some (.slice none 0 0) ∧ w'.cell? ⟨b, 3, none⟩ = some (.slice Ar rr.length cr)) 12 (by kernel_rfl) ?_
  refine wpAnyM_take (i := 0) (v := ?_) rfl (by kernel_rfl) (by kernel_rfl) (by kernel_rfl) (by kernel_rfl) (fun _ _ _ h => h) r0 (Or.inl ⟨by rfl, (by intro w' hSw; obtain ⟨q0, q2⟩ := hSw; go_simp; first | done | with_reducible rfl)⟩) ?_
  try simp only [Act.put, List.getElem_toArray, List.getElem_cons_zero, List.setIfInBounds_toArray, List.set_cons_zero, List.set_cons_succ]
  refine wpAnyM_take (i := 1) (v := ?_) rfl (by kernel_rfl) (by kernel_rfl) (by kernel_rfl) (by kernel_rfl) (fun _ _ _ h => h) r0 (Or.inl ⟨by rfl, (by intro w' hSw; obtain ⟨q0, q2⟩ := hSw; go_simp; first | done | with_reducible rfl)⟩) ?_
  try simp only [Act.put, List.getElem_toArray, List.getElem_cons_succ, List.getElem_cons_zero, List.setIfInBounds_toArray, List.set_cons_zero, List.set_cons_succ]
  refine wpAnyM_take (i := 2) (v := ?_) rfl (by kernel_rfl) (by kernel_rfl) (by kernel_rfl) (by kernel_rfl) (fun _ _ _ h => h) r0 (Or.inl ⟨by rfl, (by intro w' hSw; obtain ⟨q0, q2⟩ := hSw; go_simp; first | done | with_reducible rfl)⟩) ?_
  try simp only [Act.put, List.getElem_toArray, List.getElem_cons_succ, List.getElem_cons_zero, List.setIfInBounds_toArray, List.set_cons_zero, List.set_cons_succ]
  refine wpAnyM_take (i := 3) (v := ?_) rfl (by kernel_rfl) (by kernel_rfl) (by kernel_rfl) (by kernel_rfl) (fun _ _ _ h => h) r0 (Or.inl ⟨by rfl, (by intro w' hSw; obtain ⟨q0, q2⟩ := hSw; go_simp; first | done | with_reducible rfl)⟩) ?_
  try simp only [Act.put, List.getElem_toArray, List.getElem_cons_succ, List.getElem_cons_zero, List.setIfInBounds_toArray, List.set_cons_zero, List.set_cons_succ]
  refine wpAnyM_take (i := 4) (v := ?_) rfl (by kernel_rfl) (by kernel_rfl) (by kernel_rfl) (by kernel_rfl) (fun _ _ _ h => h) r0 (Or.inl ⟨by rfl, (by intro w' hSw; obtain ⟨q0, q2⟩ := hSw; go_simp; first | done | with_reducible rfl)⟩) ?_
  try simp only [Act.put, List.getElem_toArray, List.getElem_cons_succ, List.getElem_cons_zero, List.setIfInBounds_toArray, List.set_cons_zero, List.set_cons_succ]
  refine wpAnyM_take (i := 5) (v := ?_) rfl (by kernel_rfl) (by kernel_rfl) (by kernel_rfl) (by kernel_rfl) (fun _ _ _ h => h) r0 (Or.inl ⟨by rfl, (by intro w' hSw; obtain ⟨q0, q2⟩ := hSw; go_simp; first | done | with_reducible rfl)⟩) ?_
  try simp only [Act.put, List.getElem_toArray, List.getElem_cons_succ, List.getElem_cons_zero, List.setIfInBounds_toArray, List.set_cons_zero, List.set_cons_succ]
  refine wpAnyM_take (i := 6) (v := ?_) rfl (by kernel_rfl) (by kernel_rfl) (by kernel_rfl) (by kernel_rfl) (fun _ _ _ h => h) r0 (Or.inl ⟨by rfl, (by intro w' hSw; obtain ⟨q0, q2⟩ := hSw; go_simp; first | done | with_reducible rfl)⟩) ?_
  try simp only [Act.put, List.getElem_toArray, List.getElem_cons_succ, List.getElem_cons_zero, List.setIfInBounds_toArray, List.set_cons_zero, List.set_cons_succ]
  refine wpAnyM_take (i := 7) (v := ?_) rfl (by kernel_rfl) (by kernel_rfl) (by kernel_rfl) (by kernel_rfl) (fun _ _ _ h => h) r0 (Or.inl ⟨by rfl, (by intro w' hSw; obtain ⟨q0, q2⟩ := hSw; go_simp; first | done | with_reducible rfl)⟩) ?_
  try simp only [Act.put, List.getElem_toArray, List.getElem_cons_succ, List.getElem_cons_zero, List.setIfInBounds_toArray, List.set_cons_zero, List.set_cons_succ]
  refine wpAnyM_take (i := 8) (v := ?_) rfl (by kernel_rfl) (by kernel_rfl) (by kernel_rfl) (by kernel_rfl) (fun _ _ _ h => h) r0 (Or.inl ⟨by rfl, (by intro w' hSw; obtain ⟨q0, q2⟩ := hSw; go_simp; first | done | with_reducible rfl)⟩) ?_
  try simp only [Act.put, List.getElem_toArray, List.getElem_cons_succ, List.getElem_cons_zero, List.setIfInBounds_toArray, List.set_cons_zero, List.set_cons_succ]
  refine wpAnyM_next (i := 9) (by kernel_rfl) rfl (fun K hK => ?_)
  refine step_append_m W.drew rK rfl _ _ rfl w.heap.size (.slice none 0 0) rfl [] (OwnL.nil_ _ _ _) _ rfl w.heap.size rr (HVR.out.below_ HBW.out.drew (Nat.le_refl _)) (by show (0 + _) * 24 ≤ _; omega) (by simp only [maxLen, List.length_nil]; omega) HBW.out.drew.size ?_
  intro A3 c3 w5 hA hG hM
  rw [List.nil_append] at hA hM ⊢
  have T5 : Below W.heap.size W w5 := (Below.refl W.heap.size W).drew.grown hG (Nat.le_refl _) (fun j hj => by cases hj)
  have hob5 : ob < W.heap.size := (Array.getElem?_eq_some_iff.1 HHW2.out).1
  have h5 := (T5.block ob hob5).trans HHW2.out
  have HB5 := Lib.hid (HBW.out.trans (T5.mono HBW.out.size))
  have r1 : w5.cell? ⟨ob, 3, none⟩ = some (.slice none 0 0) ∧ w5.cell? ⟨b, 3, none⟩ = some (.slice Ar rr.length cr) := ⟨head_cell h5 rfl, head_cell (HC.out _ HB5.out) rfl⟩
  refine hK.out _ _ (.inr r1) ?_
  clear hK K
  try simp only [Act.put, List.getElem_toArray, List.getElem_cons_succ, List.getElem_cons_zero, List.setIfInBounds_toArray, List.set_cons_zero, List.set_cons_succ]
  refine wpAnyM_next (i := 10) (by kernel_rfl) rfl (fun K hK => ?_)
  go_simp
  refine hK.out _ _ (.inr r1) ?_
  clear hK K
  try simp only [Act.put, List.getElem_toArray, List.getElem_cons_succ, List.getElem_cons_zero, List.setIfInBounds_toArray, List.set_cons_zero, List.set_cons_succ]
  refine wpAnyM_next (i := 11) (by kernel_rfl) rfl (fun K hK => ?_)
  go_simp
  refine hK.out _ _ (.inr r1) ?_
  clear hK K
  try simp only [Act.put, List.getElem_toArray, List.getElem_cons_succ, List.getElem_cons_zero, List.setIfInBounds_toArray, List.set_cons_zero, List.set_cons_succ]
  have z3 : w5.frozen? ⟨ob, 3, none⟩ = false := frozen_of_row w5 ob 3 _ _ h5
  have y3 := r1.1
  have h6 := head_set h5 3 (.slice A3 rr.length c3) (C' := headC t (.slice none 0 0) (.slice As ns cs) (.slice A3 rr.length c3) (.slice Au nu cu)) rfl
  have T6 := Turned.setCell (F := fun k => k = ob) (Turned.refl (fun k => k = ob) w5) (p := ⟨ob, 3, none⟩) (fun _ => rfl) (.slice A3 rr.length c3)
  have hAo : (Value.slice A3 rr.length c3).ownBlock ≠ some ob := own_kind hA h5 (by decide)
  obtain ⟨w6, hw6⟩ : ∃ w6, w5.setCell ⟨ob, 3, none⟩ (.slice A3 rr.length c3) = w6 := ⟨_, rfl⟩
  rw [hw6] at h6 T6
  refine wpAnyM_next (i := 12) (by kernel_rfl) rfl (fun K hK => ?_)
  go_simp
  refine hK.out _ _ (.inl (Nat.le_refl _)) ?_
  clear hK K
  try simp only [Act.put, List.getElem_toArray, List.getElem_cons_succ, List.getElem_cons_zero, List.setIfInBounds_toArray, List.set_cons_zero, List.set_cons_succ]
  refine wpAnyM_done (by kernel_rfl) ?_ _
  have HI : Hid (CopyIn w w6 f t ob (.slice none 0 0) (.slice As ns cs) (.slice A3 rr.length c3) (.slice Au nu cu) rf [] rr 0) :=
    { head := h6, ob := HOB.out, files := OwnL.nil_ _ _ _, len := rfl, each := fun j x y g _ hy => (by simp at hy), apart := fun j k x y _ hy => (by simp at hy), row := hA.turned_ T6 (fun k hk e => hAo (e ▸ hk)), below := HB5.out.trans (T6.below HB5.out.size (fun k hk => hk ▸ HOB.out)) }
  clear r0 r1 z3 y3 hw6 h5 h6 T5 T6 hA hG hM hAo hob5 HB5
  go_wp2
  go_loopw [4, 5] (fun i u wr => ∃ (k : Nat) (vq : Value) (rq : List RawF), k ≤ rf.length ∧ i = .int .i64 (k : Nat) ∧ Hid (CopyIn w wr f t ob vq (.slice As ns cs) (.slice A3 rr.length c3) (.slice Au nu cu) rf rq rr k)) (fun i _ _ => rf.length - (intOf i).toNat)
  case atStart => exact ⟨0, .slice none 0 0, [], by omega, rfl, HI.out⟩
  case round =>
    obtain ⟨k, vq, rq, hk, rfl, HQ⟩ := hrel
    clear HI
    have d1 : wr.cell? ⟨b, 1, none⟩ = some (.slice Af rf.length cf) := head_cell (HC.out _ HQ.out.below) rfl
    by_cases hlt : k < rf.length
    · have hki : (k : Int) < (rf.length : Int) := by omega
      have hk0 : (0 : Int) ≤ (k : Int) := by omega
      have wk : IntKind.i64.wrap ((k : Int) + 1) = (k : Int) + 1 := by rw [IntKind.wrap_i64]; omega
      have hkt : k < t.files.length := by have := HNF.out; omega
      obtain ⟨g, off, cf2, x, ef2, hsl, hgl, hx, e0, e1, hF⟩ := HH.out.file_at hkt
      simp only [Value.slice.injEq] at ef2
      obtain ⟨rfl, _, rfl⟩ := ef2
      obtain ⟨ra, hra, hOr, hrel⟩ := hF.acts
      have hgood := HH.out.good.frow _ (List.mem_of_getElem? (Sf.fileAt_some hkt))
      have hact := HH.out.good.acts
      have hral : ra.length ≤ 1099511627776 := by omega
      obtain ⟨⟨sA, sn, sc⟩, ⟨rA, rn, rc⟩⟩ := x
      change w.cell? ⟨g, off + k * 2, none⟩ = some (.slice sA sn sc) at e0
      change w.cell? ⟨g, off + k * 2 + 1, none⟩ = some (.slice rA rn rc) at e1
      have HX := Lib.hid hx
      have HRA := Lib.hid hra
      have HREL := Lib.hid hrel
      have HLR : Hid (∀ w', Below w.heap.size w w' → Lv aK w' w.heap.size (.slice rA rn rc) ra) := fun w' hb' => hOr.form_.below_ hb' (Nat.le_refl _)
      have HCX : Hid (∀ w', Below w.heap.size w w' → w'.cell? ⟨g, off + k * 2, none⟩ = some (.slice sA sn sc) ∧ w'.cell? ⟨g, off + k * 2 + 1, none⟩ = some (.slice rA rn rc)) := fun w' hb' => ⟨(hb'.cell (p := ⟨g, off + k * 2, none⟩) hgl).trans e0, (hb'.cell (p := ⟨g, off + k * 2 + 1, none⟩) hgl).trans e1⟩
      have f1 := (HCX.out wr HQ.out.below).2
      have HKT := Lib.hid hkt
      clear hkt hx hra hOr hrel hF e0 e1 hgl hgood hact
      go_wp2_with (at_builtin; go_must (refine wpList_append_m _ aK rfl _ _ rfl wr.heap.size (.slice none 0 0) rfl [] (OwnL.nil_ _ _ _) _ rfl w.heap.size ra (HLR.out wr HQ.out.below) (by show (0 + _) * 40 ≤ _; omega) (by simp only [maxLen, List.length_nil]; omega) (Nat.le_refl _) ?_; intro A4 c4 w2 hA2 hG2 hM2))
      rw [List.nil_append] at hA2
      have hb2 : Below wr.heap.size wr w2 := (Below.refl _ _).grown hG2 (Nat.le_refl _) (fun j hj => by cases hj)
      have HQ2 := Lib.hid (HQ.out.fresh hb2)
      have HA2 : Hid (OwnL aK w2 wr.heap.size (.slice A4 ra.length c4) ra) := hA2
      obtain ⟨Aq, cq, eq_, _⟩ := HQ2.out.files.form_
      have hql : rq.length ≤ 1099511627840 := by have := HQ2.out.len; omega
      subst eq_
      have HNW : Hid (CopyRow w w2 f ⟨⟨sA, sn, sc⟩, ⟨rA, rn, rc⟩⟩ ⟨⟨sA, sn, sc⟩, ⟨A4, ra.length, c4⟩⟩ (Sf.fileAt t k)) := ⟨rfl, ra, HRA.out, HA2.out.mono_ HQ.out.below.size, HREL.out⟩
      have HFAR : Hid (∀ k, (Value.slice A4 ra.length c4).ownBlock = some k → wr.heap.size ≤ k) := fun k hk => (HA2.out.lt_ k hk).1
      have HOLD : Hid (∀ (j : Nat) (y : RawF), rq[j]? = some y → ∀ q, (slV y.row).ownBlock = some q → q < wr.heap.size) := fun j y hy q hq => by
        have hj : j < rf.length := by have := (List.getElem?_eq_some_iff.1 hy).1; have := HQ.out.len; omega
        have hjt : j < t.files.length := by have := HNF.out; omega
        exact ((HQ.out.each j _ y _ (List.getElem?_eq_getElem hj) hy (Sf.fileAt_some hjt)).lt hq).2
      have hB2 := HQ2.out.below
      have s0 : w2.drew.cell? ⟨ob, 1, none⟩ = some (.slice Aq rq.length cq) ∧ w2.drew.cell? ⟨b, 1, none⟩ = some (.slice (some ⟨g, off, none⟩) rf.length cf) ∧ w2.drew.cell? ⟨g, off + k * 2, none⟩ = some (.slice sA sn sc) := ⟨head_cell (w := w2.drew) HQ2.out.head rfl, head_cell (HC.out _ hB2.drew) rfl, (HCX.out _ hB2.drew).1⟩
      have HB2 := Lib.hid hB2
      clear hA2 hG2 hM2 hb2 hB2 d1 f1
      go_wp2
      refine wp_region_m (fun w' => w'.cell? ⟨ob, 1, none⟩ = some (.slice Aq rq.length cq) ∧ w'.cell? ⟨b, 1, none⟩ = some (.slice (some ⟨g, off, none⟩) rf.length cf) ∧ w'.cell? ⟨g, off + k * 2, none⟩ = some (.slice sA sn sc)) 19 (by kernel_rfl) ?_
      refine wpAnyM_take (i := 0) (v := ?_) rfl (by kernel_rfl) (by kernel_rfl) (by kernel_rfl) (by kernel_rfl) (fun _ _ _ h => h) s0 (Or.inl ⟨by rfl, (by intro w' hSw; obtain ⟨q0, q2, q3⟩ := hSw; go_simp; first | done | with_reducible rfl)⟩) ?_
      try simp only [Act.put, List.getElem_toArray, List.getElem_cons_zero, List.setIfInBounds_toArray, List.set_cons_zero, List.set_cons_succ]
      refine wpAnyM_take (i := 1) (v := ?_) rfl (by kernel_rfl) (by kernel_rfl) (by kernel_rfl) (by kernel_rfl) (fun _ _ _ h => h) s0 (Or.inl ⟨by rfl, (by intro w' hSw; obtain ⟨q0, q2, q3⟩ := hSw; go_simp; first | done | with_reducible rfl)⟩) ?_
      try simp only [Act.put, List.getElem_toArray, List.getElem_cons_succ, List.getElem_cons_zero, List.setIfInBounds_toArray, List.set_cons_zero, List.set_cons_succ]
      refine wpAnyM_take (i := 2) (v := ?_) rfl (by kernel_rfl) (by kernel_rfl) (by kernel_rfl) (by kernel_rfl) (fun _ _ _ h => h) s0 (Or.inl ⟨by rfl, (by intro w' hSw; obtain ⟨q0, q2, q3⟩ := hSw; go_simp; first | done | with_reducible rfl)⟩) ?_
      try simp only [Act.put, List.getElem_toArray, List.getElem_cons_succ, List.getElem_cons_zero, List.setIfInBounds_toArray, List.set_cons_zero, List.set_cons_succ]
      refine wpAnyM_take (i := 3) (v := ?_) rfl (by kernel_rfl) (by kernel_rfl) (by kernel_rfl) (by kernel_rfl) (fun _ _ _ h => h) s0 (Or.inl ⟨by rfl, (by intro w' hSw; obtain ⟨q0, q2, q3⟩ := hSw; go_simp; first | done | with_reducible rfl)⟩) ?_
      try simp only [Act.put, List.getElem_toArray, List.getElem_cons_succ, List.getElem_cons_zero, List.setIfInBounds_toArray, List.set_cons_zero, List.set_cons_succ]
      refine wpAnyM_take (i := 4) (v := ?_) rfl (by kernel_rfl) (by kernel_rfl) (by kernel_rfl) (by kernel_rfl) (fun _ _ _ h => h) s0 (Or.inl ⟨by rfl, (by intro w' hSw; obtain ⟨q0, q2, q3⟩ := hSw; go_simp; first | done | with_reducible rfl)⟩) ?_
      try simp only [Act.put, List.getElem_toArray, List.getElem_cons_succ, List.getElem_cons_zero, List.setIfInBounds_toArray, List.set_cons_zero, List.set_cons_succ]
      refine wpAnyM_take (i := 5) (v := ?_) rfl (by kernel_rfl) (by kernel_rfl) (by kernel_rfl) (by kernel_rfl) (fun _ _ _ h => h) s0 (Or.inl ⟨by rfl, (by intro w' hSw; obtain ⟨q0, q2, q3⟩ := hSw; go_simp; first | done | with_reducible rfl)⟩) ?_
      try simp only [Act.put, List.getElem_toArray, List.getElem_cons_succ, List.getElem_cons_zero, List.setIfInBounds_toArray, List.set_cons_zero, List.set_cons_succ]
      refine wpAnyM_take (i := 6) (v := ?_) rfl (by kernel_rfl) (by kernel_rfl) (by kernel_rfl) (by kernel_rfl) (fun _ _ _ h => h) s0 (Or.inl ⟨by rfl, (by intro w' hSw; obtain ⟨q0, q2, q3⟩ := hSw; go_simp; first | done | with_reducible rfl)⟩) ?_
      try simp only [Act.put, List.getElem_toArray, List.getElem_cons_succ, List.getElem_cons_zero, List.setIfInBounds_toArray, List.set_cons_zero, List.set_cons_succ]
      refine wpAnyM_take (i := 7) (v := ?_) rfl (by kernel_rfl) (by kernel_rfl) (by kernel_rfl) (by kernel_rfl) (fun _ _ _ h => h) s0 (Or.inl ⟨by rfl, (by intro w' hSw; obtain ⟨q0, q2, q3⟩ := hSw; go_simp; first | done | with_reducible rfl)⟩) ?_
      try simp only [Act.put, List.getElem_toArray, List.getElem_cons_succ, List.getElem_cons_zero, List.setIfInBounds_toArray, List.set_cons_zero, List.set_cons_succ]
      refine wpAnyM_take (i := 8) (v := ?_) rfl (by kernel_rfl) (by kernel_rfl) (by kernel_rfl) (by kernel_rfl) (fun _ _ _ h => h) s0 (Or.inl ⟨by rfl, (by intro w' hSw; obtain ⟨q0, q2, q3⟩ := hSw; go_simp; first | done | with_reducible rfl)⟩) ?_
      try simp only [Act.put, List.getElem_toArray, List.getElem_cons_succ, List.getElem_cons_zero, List.setIfInBounds_toArray, List.set_cons_zero, List.set_cons_succ]
      refine wpAnyM_take (i := 9) (v := ?_) rfl (by kernel_rfl) (by kernel_rfl) (by kernel_rfl) (by kernel_rfl) (fun _ _ _ h => h) s0 (Or.inl ⟨by rfl, (by intro w' hSw; obtain ⟨q0, q2, q3⟩ := hSw; go_simp; first | done | with_reducible rfl)⟩) ?_
      try simp only [Act.put, List.getElem_toArray, List.getElem_cons_succ, List.getElem_cons_zero, List.setIfInBounds_toArray, List.set_cons_zero, List.set_cons_succ]
      refine wpAnyM_take (i := 10) (v := ?_) rfl (by kernel_rfl) (by kernel_rfl) (by kernel_rfl) (by kernel_rfl) (fun _ _ _ h => h) s0 (Or.inl ⟨by rfl, (by intro w' hSw; obtain ⟨q0, q2, q3⟩ := hSw; go_simp; first | done | with_reducible rfl)⟩) ?_
      try simp only [Act.put, List.getElem_toArray, List.getElem_cons_succ, List.getElem_cons_zero, List.setIfInBounds_toArray, List.set_cons_zero, List.set_cons_succ]
      refine wpAnyM_take (i := 11) (v := ?_) rfl (by kernel_rfl) (by kernel_rfl) (by kernel_rfl) (by kernel_rfl) (fun _ _ _ h => h) s0 (Or.inl ⟨by rfl, (by intro w' hSw; obtain ⟨q0, q2, q3⟩ := hSw; go_simp; first | done | with_reducible rfl)⟩) ?_
      try simp only [Act.put, List.getElem_toArray, List.getElem_cons_succ, List.getElem_cons_zero, List.setIfInBounds_toArray, List.set_cons_zero, List.set_cons_succ]
      refine wpAnyM_take (i := 12) (v := ?_) rfl (by kernel_rfl) (by kernel_rfl) (by kernel_rfl) (by kernel_rfl) (fun _ _ _ h => h) s0 (Or.inl ⟨by rfl, (by intro w' hSw; obtain ⟨q0, q2, q3⟩ := hSw; go_simp; first | done | with_reducible rfl)⟩) ?_
      try simp only [Act.put, List.getElem_toArray, List.getElem_cons_succ, List.getElem_cons_zero, List.setIfInBounds_toArray, List.set_cons_zero, List.set_cons_succ]
      refine wpAnyM_take (i := 13) (v := ?_) rfl (by kernel_rfl) (by kernel_rfl) (by kernel_rfl) (by kernel_rfl) (fun _ _ _ h => h) s0 (Or.inl ⟨by rfl, (by intro w' hSw; obtain ⟨q0, q2, q3⟩ := hSw; go_simp; first | done | with_reducible rfl)⟩) ?_
      try simp only [Act.put, List.getElem_toArray, List.getElem_cons_succ, List.getElem_cons_zero, List.setIfInBounds_toArray, List.set_cons_zero, List.set_cons_succ]
      refine wpAnyM_take (i := 14) (v := ?_) rfl (by kernel_rfl) (by kernel_rfl) (by kernel_rfl) (by kernel_rfl) (fun _ _ _ h => h) s0 (Or.inl ⟨by rfl, (by intro w' hSw; obtain ⟨q0, q2, q3⟩ := hSw; go_simp; first | done | with_reducible rfl)⟩) ?_
      try simp only [Act.put, List.getElem_toArray, List.getElem_cons_succ, List.getElem_cons_zero, List.setIfInBounds_toArray, List.set_cons_zero, List.set_cons_succ]
      refine wpAnyM_next (i := 15) (by kernel_rfl) rfl (fun K hK => ?_)
      go_simp
      have hob2 : ob < w2.heap.size := (Array.getElem?_eq_some_iff.1 HQ2.out.head).1
      have s1 : (w2.drew.alloc (.cells #[.slice sA sn sc, .slice A4 ra.length c4] 96)).cell? ⟨ob, 1, none⟩ = some (.slice Aq rq.length cq) ∧ (w2.drew.alloc (.cells #[.slice sA sn sc, .slice A4 ra.length c4] 96)).cell? ⟨b, 1, none⟩ = some (.slice (some ⟨g, off, none⟩) rf.length cf) ∧ (w2.drew.alloc (.cells #[.slice sA sn sc, .slice A4 ra.length c4] 96)).cell? ⟨g, off + k * 2, none⟩ = some (.slice sA sn sc) :=
        ⟨(((Below.refl w2.heap.size w2).drew.alloc (Nat.le_refl _) _).cell (p := ⟨ob, 1, none⟩) hob2).trans (head_cell HQ2.out.head rfl), head_cell (HC.out _ (HB2.out.drew.alloc HB2.out.size _)) rfl, (HCX.out _ (HB2.out.drew.alloc HB2.out.size _)).1⟩
      refine hK.out _ _ (.inr s1) ?_
      clear hK K
      try simp only [Act.put, List.getElem_toArray, List.getElem_cons_succ, List.getElem_cons_zero, List.setIfInBounds_toArray, List.set_cons_zero, List.set_cons_succ]
      refine wpAnyM_next (i := 16) (by kernel_rfl) rfl (fun K hK => ?_)
      refine step_push_m w2.drew fK rfl _ _ rfl w.heap.size (.slice Aq rq.length cq) rfl rq HQ2.out.files.drew_ rfl (⟨⟨sA, sn, sc⟩, ⟨A4, ra.length, c4⟩⟩ : RawF) trivial _ rfl _ rfl (by show (_ + 1) * 48 ≤ _; omega) (by simp only [maxLen]; omega) HB2.out.drew.size ?_
      intro A5 c5 w5 hA hG hM
      have hqo : (Value.slice Aq rq.length cq).ownBlock ≠ some ob := own_kind HQ2.out.files HQ2.out.head (by decide)
      have h5 : w5.heap[ob]? = some (.cells (headC t (.slice Aq rq.length cq) (.slice As ns cs) (.slice A3 rr.length c3) (.slice Au nu cu)) 53 (0, 0)) := (hG.block ob hob2 (fun e => hqo e.symm)).trans HQ2.out.head
      have hG' : w2.grownBy w5 (Value.slice Aq rq.length cq).ownBlock := ⟨hG.os, hG.tape, hG.output, hG.size, hG.block⟩
      have HB5 : Hid (Below w.heap.size w w5) := HB2.out.trans ((Turned.of_grown hG').below HB2.out.size (fun q hq => (HQ2.out.files.lt_ q hq).1))
      have s2 : w5.cell? ⟨ob, 1, none⟩ = some (.slice Aq rq.length cq) ∧ w5.cell? ⟨b, 1, none⟩ = some (.slice (some ⟨g, off, none⟩) rf.length cf) ∧ w5.cell? ⟨g, off + k * 2, none⟩ = some (.slice sA sn sc) := ⟨head_cell h5 rfl, head_cell (HC.out _ HB5.out) rfl, (HCX.out _ HB5.out).1⟩
      refine hK.out _ _ (.inr s2) ?_
      clear hK K s1 s0
      try simp only [Act.put, List.getElem_toArray, List.getElem_cons_succ, List.getElem_cons_zero, List.setIfInBounds_toArray, List.set_cons_zero, List.set_cons_succ]
      refine wpAnyM_next (i := 17) (by kernel_rfl) rfl (fun K hK => ?_)
      go_simp
      refine hK.out _ _ (.inr s2) ?_
      clear hK K
      try simp only [Act.put, List.getElem_toArray, List.getElem_cons_succ, List.getElem_cons_zero, List.setIfInBounds_toArray, List.set_cons_zero, List.set_cons_succ]
      refine wpAnyM_next (i := 18) (by kernel_rfl) rfl (fun K hK => ?_)
      go_simp
      refine hK.out _ _ (.inr s2) ?_
      clear hK K
      try simp only [Act.put, List.getElem_toArray, List.getElem_cons_succ, List.getElem_cons_zero, List.setIfInBounds_toArray, List.set_cons_zero, List.set_cons_succ]
      have z1 : w5.frozen? ⟨ob, 1, none⟩ = false := frozen_of_row w5 ob 1 _ _ h5
      have y1 := s2.1
      have h6 := head_set h5 1 (.slice A5 (rq.length + 1) c5) (C' := headC t (.slice A5 (rq.length + 1) c5) (.slice As ns cs) (.slice A3 rr.length c3) (.slice Au nu cu)) rfl
      have T6 := Turned.setCell (F := fun k => k = ob) (Turned.refl (fun k => k = ob) w5) (p := ⟨ob, 1, none⟩) (fun _ => rfl) (.slice A5 (rq.length + 1) c5)
      have hAo : (Value.slice A5 (rq.length + 1) c5).ownBlock ≠ some ob := own_kind hA h5 (by decide)
      obtain ⟨w6, hw6⟩ : ∃ w6, w5.setCell ⟨ob, 1, none⟩ (.slice A5 (rq.length + 1) c5) = w6 := ⟨_, rfl⟩
      rw [hw6] at h6 T6
      refine wpAnyM_next (i := 19) (by kernel_rfl) rfl (fun K hK => ?_)
      go_simp
      refine hK.out _ _ (.inl (Nat.le_refl _)) ?_
      clear hK K
      try simp only [Act.put, List.getElem_toArray, List.getElem_cons_succ, List.getElem_cons_zero, List.setIfInBounds_toArray, List.set_cons_zero, List.set_cons_succ]
      refine wpAnyM_done (by kernel_rfl) ?_ _
      have HS := Lib.hid (HQ2.out.step HX.out (Sf.fileAt_some HKT.out) (s2 := ⟨A4, ra.length, c4⟩) (n0 := wr.heap.size) HNW.out HFAR.out HOLD.out hA hG' T6 h6 hAo HKT.out HNF.out)
      clear s2 z1 y1 h5 h6 T6 hA hG hG' hM hAo hqo hw6 hob2
      go_wp2
      go_roundw
      case rel => exact ⟨k + 1, _, _, by omega, by go_num, HS.out⟩
      case measure => simp [intOf]; omega
    · have hki : ¬ (k : Int) < (rf.length : Int) := by omega
      have HE := Lib.hid (HQ.out.end_ (by omega) HH.out)
      have HBQ := Lib.hid HQ.out.below
      clear HQ
      go_wp2
      go_ret
      exact ⟨ob, _, rfl, ⟨_, _, _, _, _, _, HE.out⟩, fun k hk => hk.1, fun k hk => .inl hk, HBQ.out⟩
end
end Go.Proofs.YtmcbjcbnckpfkaaGreat
namespace Go.Proofs.YtmcbjcbnckpfkaaGreat
open Go.RowKit
set_option linter.unusedVariables false
theorem isName_bad {s : ByteArray} {k : Nat} {c : UInt8} (h : s.toList[k]? = some c) (hc : Sf.okChar c = false) : Sf.isName s = false := by
  unfold Sf.isName
  have : s.toList.all Sf.okChar = false := by
    rw [List.all_eq_false]
    exact ⟨c, List.mem_of_getElem? h, by simp [hc]⟩
  rw [this]; rfl
theorem toList_size (s : ByteArray) : s.toList.length = s.size := by rw [ByteArray.toList_eq]; rfl
theorem okChar_iff (c : UInt8) : Sf.okChar c = true ↔ (97 ≤ c.toNat ∧ c.toNat ≤ 122) ∨ (48 ≤ c.toNat ∧ c.toNat ≤ 57) ∨ c.toNat = 46 ∨ c.toNat = 45 := by
  unfold Sf.okChar
  simp only [Bool.or_eq_true, Bool.and_eq_true, decide_eq_true_eq]
  omega
set_option maxHeartbeats 2000000 in
set_option maxRecDepth 100000 in
theorem rname_any (s : ByteArray) (hs : s.size ≤ maxLen) (w : World) : Calls Tryz.prog 77 #[.string s] w (fun e w' => e = .returned (.bool (Sf.isName s)) ∧ w = w') := by
  have hl : s.size ≤ 9223372036854775807 := by simp only [maxLen] at hs; omega
  go_enter Tryz.func77, Tryz.ntmps77
  go_wp2
  go_loop [3, 4] (fun i _ => ∃ k : Nat, k ≤ s.size ∧ i = .int .i64 (k : Nat) ∧ Hid ((s.toList.take k).all Sf.okChar = true)) (fun i _ => s.size - (intOf i).toNat)
  case atStart => exact ⟨0, by omega, rfl, by simp [Hid]⟩
  case round =>
    obtain ⟨k, hk, rfl, HA⟩ := hrel
    by_cases hlt : k < s.size
    · have hki : (k : Int) < (s.size : Int) := by omega
      have hk0 : (0 : Int) ≤ (k : Int) := by omega
      have wk : IntKind.i64.wrap ((k : Int) + 1) = (k : Int) + 1 := by rw [IntKind.wrap_i64]; omega
      have hkl : k < s.toList.length := by rw [toList_size]; exact hlt
      obtain ⟨c, hc⟩ : ∃ c, s.toList[k]? = some c := ⟨_, List.getElem?_eq_getElem hkl⟩
      have hix : (Instr.index 9 (.string s) (.int .i64 (k : Nat))).run Tryz.prog w = .ok (.int .u8 (c.toNat : Nat)) w := by
        rw [run_index_string (P := Tryz.prog) w 9 s .i64 (k : Nat) Tryz.underlying9]
        rw [ByteArray.toList_eq] at hc
        have hd : s.data[k]? = some c := by simpa using hc
        rw [dif_pos ⟨by omega, by omega⟩]
        have hk2 : k < s.data.size := hlt
        rw [Array.getElem?_eq_getElem hk2] at hd
        have he := Option.some.inj hd
        have h2 : (s[((k : Nat) : Int).toNat]'(by rw [Int.toNat_natCast]; exact hlt)) = c := he
        rw [h2]
      obtain ⟨x, hx⟩ : ∃ x : Nat, c.toNat = x := ⟨_, rfl⟩
      have HC := Lib.hid hc
      have HOK := Lib.hid (okChar_iff c)
      rw [hx] at hix HOK
      have HA2 : Hid (Sf.okChar c = true → (s.toList.take (k + 1)).all Sf.okChar = true) := fun h => by
        rw [List.take_add_one, HC.out, List.all_append, HA.out]; simp [h]
      have HBAD : Hid (Sf.okChar c = false → Sf.isName s = false) := fun h => isName_bad HC.out h
      clear hc hkl hx HA HC
      by_cases c1 : x < 97
      · skip
        by_cases c2 : x < 48
        · skip
          by_cases c3 : x = 46
          · skip
            have q0 : (x : Int) < 97 := by omega
            have q1 : (x : Int) < 48 := by omega
            have e46 : ((x : Int) != 46) = false := by rw [bne_eq_false_iff_eq]; omega
            have HG := Lib.hid (HA2.out (HOK.out.2 (by omega)))
            clear HA2 HBAD HOK
            go_wp2
            go_round
            case rel => exact ⟨k + 1, by omega, by go_num, HG.out⟩
            case measure => simp [intOf]; omega
          · skip
            by_cases c4 : x = 45
            · skip
              have q0 : (x : Int) < 97 := by omega
              have q1 : (x : Int) < 48 := by omega
              have e46 : ((x : Int) != 46) = true := by rw [bne_iff_ne]; omega
              have e45 : ((x : Int) != 45) = false := by rw [bne_eq_false_iff_eq]; omega
              have HG := Lib.hid (HA2.out (HOK.out.2 (by omega)))
              clear HA2 HBAD HOK
              go_wp2
              go_round
              case rel => exact ⟨k + 1, by omega, by go_num, HG.out⟩
              case measure => simp [intOf]; omega
            · skip
              have q0 : (x : Int) < 97 := by omega
              have q1 : (x : Int) < 48 := by omega
              have e46 : ((x : Int) != 46) = true := by rw [bne_iff_ne]; omega
              have e45 : ((x : Int) != 45) = true := by rw [bne_iff_ne]; omega
              have HG := Lib.hid (HBAD.out (by cases h : Sf.okChar c with | false => rfl | true => exact absurd (HOK.out.1 h) (by omega)))
              clear HA2 HBAD HOK
              go_wp2
              go_ret
              exact ⟨congrArg (fun b => Ending.returned (Value.bool b)) HG.out.symm, rfl⟩
        · skip
          by_cases c5 : 57 < x
          · skip
            have q0 : (x : Int) < 97 := by omega
            have q1 : ¬ (x : Int) < 48 := by omega
            have q2 : (57 : Int) < (x : Int) := by omega
            have e46 : ((x : Int) != 46) = true := by rw [bne_iff_ne]; omega
            have e45 : ((x : Int) != 45) = true := by rw [bne_iff_ne]; omega
            have HG := Lib.hid (HBAD.out (by cases h : Sf.okChar c with | false => rfl | true => exact absurd (HOK.out.1 h) (by omega)))
            clear HA2 HBAD HOK
            go_wp2
            go_ret
            exact ⟨congrArg (fun b => Ending.returned (Value.bool b)) HG.out.symm, rfl⟩
          · skip
            have q0 : (x : Int) < 97 := by omega
            have q1 : ¬ (x : Int) < 48 := by omega
            have q2 : ¬ (57 : Int) < (x : Int) := by omega
            have HG := Lib.hid (HA2.out (HOK.out.2 (by omega)))
            clear HA2 HBAD HOK
            go_wp2
            go_round
            case rel => exact ⟨k + 1, by omega, by go_num, HG.out⟩
            case measure => simp [intOf]; omega
      · skip
        by_cases c6 : 122 < x
        · skip
          have q0 : ¬ (x : Int) < 97 := by omega
          have q1 : (122 : Int) < (x : Int) := by omega
          have q2 : ¬ (x : Int) < 48 := by omega
          have q3 : (57 : Int) < (x : Int) := by omega
          have e46 : ((x : Int) != 46) = true := by rw [bne_iff_ne]; omega
          have e45 : ((x : Int) != 45) = true := by rw [bne_iff_ne]; omega
          have HG := Lib.hid (HBAD.out (by cases h : Sf.okChar c with | false => rfl | true => exact absurd (HOK.out.1 h) (by omega)))
          clear HA2 HBAD HOK
          go_wp2
          go_ret
          exact ⟨congrArg (fun b => Ending.returned (Value.bool b)) HG.out.symm, rfl⟩
        · skip
          have q0 : ¬ (x : Int) < 97 := by omega
          have q1 : ¬ (122 : Int) < (x : Int) := by omega
          have HG := Lib.hid (HA2.out (HOK.out.2 (by omega)))
          clear HA2 HBAD HOK
          go_wp2
          go_round
          case rel => exact ⟨k + 1, by omega, by go_num, HG.out⟩
          case measure => simp [intOf]; omega
    · have hki : ¬ (k : Int) < (s.size : Int) := by omega
      have hall : s.toList.all Sf.okChar = true := by
        have h := HA.out
        rw [List.take_of_length_le (by rw [toList_size]; omega)] at h
        exact h
      have HE : Hid (Sf.isName s = (decide (1 ≤ s.size) && decide (s.size ≤ 32))) := by unfold Hid Sf.isName; rw [hall]; rfl
      clear hall HA
      by_cases h1 : (1 : Int) ≤ (s.size : Int)
      · by_cases h2 : (s.size : Int) ≤ 32
        · have HT : Hid ((decide (1 ≤ s.size) && decide (s.size ≤ 32)) = true) := by unfold Hid; rw [Bool.and_eq_true, decide_eq_true_eq, decide_eq_true_eq]; omega
          go_wp2
          go_ret
          exact ⟨congrArg (fun b => Ending.returned (Value.bool b)) (HE.out.trans HT.out).symm, rfl⟩
        · have HT : Hid ((decide (1 ≤ s.size) && decide (s.size ≤ 32)) = false) := by unfold Hid; rw [Bool.and_eq_false_iff]; right; rw [decide_eq_false_iff_not]; omega
          go_wp2
          go_ret
          exact ⟨congrArg (fun b => Ending.returned (Value.bool b)) (HE.out.trans HT.out).symm, rfl⟩
      · have HT : Hid ((decide (1 ≤ s.size) && decide (s.size ≤ 32)) = false) := by unfold Hid; rw [Bool.and_eq_false_iff]; left; rw [decide_eq_false_iff_not]; omega
        go_wp2
        go_ret
        exact ⟨congrArg (fun b => Ending.returned (Value.bool b)) (HE.out.trans HT.out).symm, rfl⟩
end Go.Proofs.YtmcbjcbnckpfkaaGreat
