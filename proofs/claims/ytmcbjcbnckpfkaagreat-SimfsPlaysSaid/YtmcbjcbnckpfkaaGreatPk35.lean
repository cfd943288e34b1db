/-
  RSfZc: stookref14: Cut.
  RSfSb: stookref14: turn, the walk.
  RSfV: stookref14: turn with a new directory; Remove, Rename.
-/
import Derived.Test.YtmcbjcbnckpfkaaGreatPk30
import Derived.Deep.QuietTactic
import Derived.BigQuiet
import Derived.Deep.RegionHeld3
import Derived.Test.YtmcbjcbnckpfkaaGreatPk27
import Derived.Test.YtmcbjcbnckpfkaaGreatPk25
import Derived.Test.YtmcbjcbnckpfkaaGreatPk31
namespace Go.Proofs.YtmcbjcbnckpfkaaGreat
open Go.RowKit
set_option linter.unusedVariables false
section
variable {w : World} {f : Fp} {t : Sf.St} {b : Nat}
set_option maxHeartbeats 4000000 in
set_option maxRecDepth 100000 in
theorem rcut_disk (h : RDiskM w f t b) (hf : Sf.Few t) (s : ByteArray) (a : Int) (ha : I64 a) :
    Calls Tryz.prog 33 #[.pointer (some ⟨b, 0, none⟩), .string s, .int .i64 a] w (IsDeed RDiskM f b (Sf.cut t s a) w) := by
  have HD := Lib.hid h
  obtain ⟨vf, vs, vr, vu, rf, rr, h⟩ := h
  have CG := Lib.hid (rget_head w t b vf vs vr vu h.head w.heap.size h.body.seen.lv s)
  have HH := Lib.hid h
  have HF := Lib.hid hf
  have HLT := Lib.hid h.lt
  obtain ⟨k, er, hge⟩ : ∃ k er, Sf.get t s = (k, er) := ⟨_, _, rfl⟩
  have HE : Hid (Sf.cut t s a = if er ≠ 0 then (er, t) else if a < 0 ∨ (Sf.len t k : Int) < a then (2, t) else Sf.add t k ⟨true, a.toNat, []⟩) := by unfold Hid Sf.cut; rw [hge]
  rw [hge] at CG
  unfold I64 at ha
  by_cases he : er = 0
  · have hq : ((er : Int) == 0) = true := by rw [beq_iff_eq]; omega
    have HE1 : Hid (Sf.cut t s a = if a < 0 ∨ (Sf.len t k : Int) < a then (2, t) else Sf.add t k ⟨true, a.toNat, []⟩) := HE.out.trans (if_neg (by simpa using he))
    rw [he] at hge
    have hk := get_lt h.good hge
    have hlen := h.len_le hk
    obtain ⟨g, cf, evf, hgl, hsl, hnow⟩ := h.now_at hk
    have HK := Lib.hid hk
    have HNW := Lib.hid hnow
    have hb : b < w.heap.size := h.lt b (.inl h.mine)
    have hc1' : w.cell? ⟨b, 1, none⟩ = some (.slice (some ⟨g, 0, none⟩) t.files.length cf) := by have := h.cell (j := 1) rfl; rw [evf] at this; exact this
    have HC : Hid (∀ w', Below w.heap.size w w' → w'.cell? ⟨b, 1, none⟩ = some (.slice (some ⟨g, 0, none⟩) t.files.length cf)) := fun w' hb' => (hb'.cell (p := ⟨b, 1, none⟩) hb).trans hc1'
    have hki : (k : Int) < (t.files.length : Int) := by omega
    have hk0 : (0 : Int) ≤ (k : Int) := by omega
    have HLN : Hid (Sf.len t k = (Sf.now (Sf.fileAt t k)).length) := rfl
    clear HE he hge h hk evf hgl hnow hb hc1' hf
    obtain ⟨m, hm⟩ : ∃ m, Sf.len t k = m := ⟨_, rfl⟩
    rw [hm] at HE1 HLN hlen
    clear hm
    by_cases hneg : a < 0
    · have HE2 : Hid (Sf.cut t s a = (2, t)) := HE1.out.trans (if_pos (.inl hneg))
      have HB4 : Hid (Below w.heap.size w w) := Below.refl _ _
      clear HE1
      go_enter Tryz.func33, Tryz.ntmps33
      have c1n := HC.out w (Below.refl _ _)
      have CN := Lib.hid (HNW.out w (Below.refl _ _))
      go_wp2_with fail
      refine CG.out.mono ?_
      rintro e1 w1 ⟨rfl, rfl⟩
      clear CG
      go_wp2
      go_ret
      rw [HE2.out]
      exact ⟨rfl, f, HH.out.disk_below HB4.out, Fp.Next.refl _ _, (Turned.of_below HB4.out).mono (fun k hk hs => absurd hs (by omega))⟩
    · by_cases hbig : (m : Int) < a
      · have HE2 : Hid (Sf.cut t s a = (2, t)) := HE1.out.trans (if_pos (.inr hbig))
        clear HE1
        go_enter Tryz.func33, Tryz.ntmps33
        have c1n := HC.out w (Below.refl _ _)
        have CN := Lib.hid (HNW.out w (Below.refl _ _))
        go_wp2_with fail
        refine CG.out.mono ?_
        rintro e1 w1 ⟨rfl, rfl⟩
        clear CG
        go_wp2_with fail
        refine CN.out.mono ?_
        rintro e4 w4 ⟨A4, c4, rfl, ho4, hb4⟩
        rw [← HLN.out]
        have HB4 := Lib.hid hb4
        clear CN ho4 hb4 c1n
        go_wp2
        go_ret
        rw [HE2.out]
        exact ⟨rfl, f, HH.out.disk_below HB4.out, Fp.Next.refl _ _, (Turned.of_below HB4.out).mono (fun k hk hs => absurd hs (by omega))⟩
      · have HE3 : Hid (Sf.cut t s a = Sf.add t k ⟨true, a.toNat, []⟩) := HE1.out.trans (if_neg (by omega))
        obtain ⟨p, hp⟩ : ∃ p : Nat, a.toNat = p := ⟨_, rfl⟩
        have hap : a = (p : Int) := by omega
        rw [hp] at HE3
        subst hap
        have hpm : p ≤ m := by omega
        have HE2 : Hid (Sf.cut t s (p : Int) = Sf.add t k ⟨true, p, []⟩) := HE3.out
        have HDN : Hid ((Sf.done (Sf.now (Sf.fileAt t k)) ⟨true, p, []⟩).length ≤ 1048576) := by unfold Hid; rw [Sf.done_len_cut (by rw [← HLN.out]; omega)]; omega
        clear hp HE1 HE3
        go_enter Tryz.func33, Tryz.ntmps33
        have c1n := HC.out w (Below.refl _ _)
        have CN := Lib.hid (HNW.out w (Below.refl _ _))
        go_wp2_with fail
        refine CG.out.mono ?_
        rintro e1 w1 ⟨rfl, rfl⟩
        clear CG
        go_wp2_with fail
        refine CN.out.mono ?_
        rintro e4 w4 ⟨A4, c4, rfl, ho4, hb4⟩
        rw [← HLN.out]
        have HB4 := Lib.hid hb4
        clear CN ho4 hb4 c1n
        have CA := Lib.hid (radd_disk (HH.out.disk_below HB4.out) HF.out w.heap.size HB4.out.size k HK.out true p (.slice none 0 0) [] (Lv.nil_ _ _ _) (fun h => absurd h (by simp)) (by rw [← HLN.out]; omega) (by simp) (fun _ => rfl) HDN.out)
        go_wp2_with fail
        refine CA.out.mono ?_
        rintro e6 w6 ⟨rfl, f', hD, hN, hT⟩
        have HR := Lib.hid hD
        have HN := Lib.hid hN
        have HT := Lib.hid hT
        clear CA hD hN hT
        go_wp2
        go_ret
        rw [HE2.out]
        exact ⟨rfl, f', HR.out, HN.out, ((Turned.of_below HB4.out).mono (G := f.M) (fun k hk hs => absurd hs (by omega))).trans HT.out (fun k _ hk => hk)⟩
  · have hq : ((er : Int) == 0) = false := by rw [beq_eq_false_iff_ne]; omega
    have HE2 : Hid (Sf.cut t s a = (er, t)) := HE.out.trans (if_pos he)
    clear HE he hge h hf
    go_enter Tryz.func33, Tryz.ntmps33
    go_wp2_with fail
    refine CG.out.mono ?_
    rintro e1 w1 ⟨rfl, rfl⟩
    clear CG
    go_wp2
    go_ret
    rw [HE2.out]
    exact ⟨rfl, f, HD.out, Fp.Next.refl _ _, Turned.refl _ _⟩
end
end Go.Proofs.YtmcbjcbnckpfkaaGreat
namespace Go.Proofs.YtmcbjcbnckpfkaaGreat
open Go.RowKit
set_option linter.unusedVariables false
section
variable {w : World} {f : Fp} {t : Sf.St} {b : Nat}
set_option maxHeartbeats 2000000 in
set_option maxRecDepth 100000 in
theorem rturn_disk (h : RDiskM w f t b) (hf : Sf.Few t) (n0 : Nat) (hn0 : n0 ≤ w.heap.size) (vd : Value) (d : Sf.Dir) (hv : Lv eK w w.heap.size vd d)
    (hblk : 0 < d.length → ∀ k, vd.ownBlock = some k → ¬ f.M k ∧ k < w.heap.size ∧ (f.R k ∨ n0 ≤ k))
    (hlen : d.length ≤ 64) (hlt : ∀ e ∈ d, e.2 < t.files.length) (hnd : (d.map (·.2)).Nodup) :
    Calls Tryz.prog 79 #[.pointer (some ⟨b, 0, none⟩), vd] w (fun e w' => e = .returned (.int .i64 ((Sf.turn t d).1 : Nat)) ∧ ∃ f', RDiskM w' f' (Sf.turn t d).2 b ∧ f.Next f' n0 ∧ Turned f.M w w') := by
  obtain ⟨vf, vs, vr, vu, rf, rr, h⟩ := h
  obtain ⟨Au, cu, eu, _⟩ := h.body.seen.lv
  obtain ⟨nu, hnu⟩ : ∃ n, t.seen.length = n := ⟨_, rfl⟩
  rw [hnu] at eu
  subst eu
  obtain ⟨Ar, cr, er, _⟩ := h.body.row.form_
  subst er
  have HV0 := Lib.hid hv
  obtain ⟨Ad, cd, ed, _⟩ := hv
  obtain ⟨nd, hnd2⟩ : ∃ n, d.length = n := ⟨_, rfl⟩
  rw [hnd2] at ed
  subst ed
  have HV : Hid (Lv eK w w.heap.size (slV ⟨Ad, nd, cd⟩) d) := HV0.out
  have HH := Lib.hid h
  have hb : b < w.heap.size := h.lt b (.inl h.mine)
  have hrn : rr.length ≤ 1099511627776 := by have := h.body.nrow; have := h.good.rows; have := h.good.acts; omega
  have ha := h.good.acts
  have d4 : w.cell? ⟨b, 4, none⟩ = some (.slice Au nu cu) := h.cell rfl
  have z4 : w.frozen? ⟨b, 4, none⟩ = false := frozen_of_row w b 4 _ _ h.head
  have h1 := head_set h.head 4 (.slice Ad nd cd) (C' := headC t vf vs (.slice Ar rr.length cr) (.slice Ad nd cd)) rfl
  have T1 := Turned.setCell (F := fun k => k = b) (Turned.refl (fun k => k = b) w) (p := ⟨b, 4, none⟩) (fun _ => rfl) (.slice Ad nd cd)
  obtain ⟨w1, hw1⟩ : ∃ w1, w.setCell ⟨b, 4, none⟩ (.slice Ad nd cd) = w1 := ⟨_, rfl⟩
  rw [hw1] at h1 T1
  have d3 : w1.cell? ⟨b, 3, none⟩ = some (.slice Ar rr.length cr) := head_cell h1 rfl
  have HO := Lib.hid (h.body.row.turned_ T1 (fun k hk e => h.row_ne (e ▸ hk)))
  have HNE : Hid ((Value.slice Ar rr.length cr).ownBlock ≠ some b) := h.row_ne
  have H1 := Lib.hid h1
  have HT1 := Lib.hid T1
  have HF := Lib.hid hf
  have HFU := Lib.hid h.good.fuse
  have hb1 : b < w1.heap.size := Nat.lt_of_lt_of_le hb T1.size
  have HSZ : Hid (w.heap.size ≤ w1.heap.size) := T1.size
  have HP := Lib.hid hblk
  have HL := Lib.hid hlen
  have HLT := Lib.hid hlt
  have HND := Lib.hid hnd
  clear h HV0 h1 T1 hf hblk hlen hlt hnd hnd2 hnu
  go_enter Tryz.func79, Tryz.ntmps79
  go_wp2_with (at_builtin; go_must (refine wpList_push_m _ rK rfl _ _ rfl 0 _ rfl rr HO.out rfl (⟨Ad, nd, cd⟩ : Sl) trivial _ rfl _ rfl (by show _ * 24 ≤ _; omega) (by simp only [maxLen]; omega) (Nat.zero_le _) ?_; intro A3 c3 w5 hA hG hM; have h5 := (hG.block b hb1 (fun e => HNE.out e.symm)).trans H1.out; have d35 := head_cell h5 (j := 3) rfl; have z35 : w5.frozen? ⟨b, 3, none⟩ = false := frozen_of_row w5 b 3 _ _ h5; have h6 := head_set h5 3 (.slice A3 (rr.length + 1) c3) (C' := headC t vf vs (.slice A3 (rr.length + 1) c3) (.slice Ad nd cd)) rfl; have T6 := Turned.setCell (F := fun k => k = b) (Turned.refl (fun k => k = b) w5) (p := ⟨b, 3, none⟩) (fun _ => rfl) (.slice A3 (rr.length + 1) c3); obtain ⟨w6, hw6⟩ : ∃ w6, w5.setCell ⟨b, 3, none⟩ (.slice A3 (rr.length + 1) c3) = w6 := ⟨_, rfl⟩; rw [hw6] at h6 T6; have H6 := Lib.hid h6; have HT6 := Lib.hid T6; have HA := Lib.hid hA; have HG := Lib.hid hG; have HM := Lib.hid hM; clear hA hG hM h6 T6 h5))
  refine (rblown_head w6 { t with seen := d, row := t.row ++ [d] } b vf vs (.slice A3 (rr.length + 1) c3) (.slice Ad nd cd) H6.out (by show t.acts ≤ _; omega) HFU.out).mono ?_
  rintro e7 w7 ⟨rfl, hw7, T7⟩
  have T5 := HT6.out.trans T7 (fun k _ hk => hk)
  have TG : Turned (fun k => k = b ∨ (Value.slice Ar rr.length cr).ownBlock = some k) w w5 := (HT1.out.mono (G := fun k => k = b ∨ (Value.slice Ar rr.length cr).ownBlock = some k) (fun k _ hk => .inl hk)).trans ((Turned.of_grown HG.out).mono (G := fun k => k = b ∨ (Value.slice Ar rr.length cr).ownBlock = some k) (fun k _ hk => .inr hk)) (fun k _ hk => hk)
  have T := TG.trans (T5.mono (G := fun k => k = b ∨ (Value.slice Ar rr.length cr).ownBlock = some k) (fun k _ hk => .inl hk)) (fun k _ hk => hk)
  have HX := Lib.hid (HH.out.turn_dir HF.out (sl := ⟨Ad, nd, cd⟩) (d := d) HV.out (fun hp k hk => ⟨(HP.out hp k hk).1, (HP.out hp k hk).2.1⟩) HL.out HLT.out HND.out HA.out (fun k hk => (HM.out k hk).imp id (fun h => Nat.le_trans HSZ.out h)) T T5 hw7)
  have HTT := Lib.hid (T.mono (G := f.M) (fun k _ hk => hk.elim (fun e => e ▸ HH.out.mine) (fun e => HH.out.body.rowM k e)))
  clear hw7 T7 T5 TG T
  go_wp2
  go_ret
  refine ⟨rfl, _, ⟨_, _, _, _, _, _, HX.out⟩, ⟨?_, ?_⟩, HTT.out⟩
  · rintro k (hk | hk)
    · exact .inl hk
    · exact (HM.out k hk).elim (fun e => .inl (HH.out.body.rowM k e)) (fun e => .inr (by have := HSZ.out; omega))
  · rintro k (hk | hk)
    · exact .inl hk
    · exact (HP.out hk.1 k hk.2).2.2
end
end Go.Proofs.YtmcbjcbnckpfkaaGreat
namespace Go.Proofs.YtmcbjcbnckpfkaaGreat
open Go.RowKit
set_option linter.unusedVariables false
section
variable {w : World} {f : Fp} {t : Sf.St} {b : Nat}
/-- turn, with a directory in new memory. -/
theorem rturn_new (h : RDiskM w f t b) (hf : Sf.Few t) {w1 : World} (hb : Below w.heap.size w w1) {vd : Value} {d : Sf.Dir} (ho : OwnL eK w1 w.heap.size vd d)
    (hlen : d.length ≤ 64) (hlt : ∀ e ∈ d, e.2 < t.files.length) (hnd : (d.map (·.2)).Nodup) :
    Calls Tryz.prog 79 #[.pointer (some ⟨b, 0, none⟩), vd] w1 (IsDeed RDiskM f b (Sf.turn t d) w) := by
  have hl := rdiskM_lt h
  have h1 := rdiskM_turned h (Turned.of_below hb) (hl.off (fun k hk => hk))
  refine (rturn_disk h1 hf w.heap.size hb.size vd d ho.form_ (fun _ k hk => ⟨fun hm => ?_, (ho.lt_ k hk).2, .inr (ho.lt_ k hk).1⟩) hlen hlt hnd).mono ?_
  · have := hl k (.inl hm); have := (ho.lt_ k hk).1; omega
  · rintro e w2 ⟨rfl, f', hD, hN, hT⟩
    exact ⟨rfl, f', hD, hN, ((Turned.of_below hb).mono (G := f.M) (fun k hk hs => absurd hs (by omega))).trans hT (fun k _ hk => hk)⟩
set_option maxHeartbeats 2000000 in
set_option maxRecDepth 100000 in
theorem rremove_disk (h : RDiskM w f t b) (hf : Sf.Few t) (s : ByteArray) : Calls Tryz.prog 35 #[.pointer (some ⟨b, 0, none⟩), .string s] w (IsDeed RDiskM f b (Sf.remove t s) w) := by
  have HD := Lib.hid h
  obtain ⟨vf, vs, vr, vu, rf, rr, h⟩ := h
  have CG := Lib.hid (rget_head w t b vf vs vr vu h.head w.heap.size h.body.seen.lv s)
  have d4 : w.cell? ⟨b, 4, none⟩ = some vu := h.cell rfl
  have hs64 := h.good.seen.1
  have CW := Lib.hid (rwithout_ent vu t.seen w.heap.size w h.body.seen.lv (Nat.le_refl _) s (by omega))
  have hsub := Sf.without_sub t.seen s
  have HL : Hid ((Sf.without t.seen s).length ≤ 64) := Nat.le_trans hsub.length_le hs64
  have HLT : Hid (∀ e ∈ Sf.without t.seen s, e.2 < t.files.length) := fun e he => h.good.seen.2 e (hsub.subset he)
  have HND : Hid (((Sf.without t.seen s).map (·.2)).Nodup) := h.good.inv.nums.sublist (hsub.map _)
  have HF := Lib.hid hf
  obtain ⟨Au, cu, eu, _⟩ := h.body.seen.lv
  subst eu
  obtain ⟨k, er, hge⟩ : ∃ k er, Sf.get t s = (k, er) := ⟨_, _, rfl⟩
  have HE : Hid (Sf.remove t s = if er ≠ 0 then (er, t) else Sf.turn t (Sf.without t.seen s)) := by unfold Hid Sf.remove; rw [hge]
  rw [hge] at CG
  clear h hge hsub hf hs64
  by_cases he : er = 0
  · have hq : ((er : Int) == 0) = true := by rw [beq_iff_eq]; omega
    have HE2 : Hid (Sf.remove t s = Sf.turn t (Sf.without t.seen s)) := HE.out.trans (if_neg (by simpa using he))
    clear HE he
    go_enter Tryz.func35, Tryz.ntmps35
    go_wp2_with fail
    refine CG.out.mono ?_
    rintro e1 w1 ⟨rfl, rfl⟩
    clear CG
    go_wp2_with fail
    refine CW.out.mono ?_
    rintro e2 w2 ⟨A2, c2, rfl, ho2, hb2⟩
    have CT := Lib.hid (rturn_new HD.out HF.out hb2 ho2 HL.out HLT.out HND.out)
    clear CW ho2 hb2
    go_wp2_with fail
    refine CT.out.mono ?_
    rintro e3 w3 ⟨rfl, hr⟩
    have HR := Lib.hid hr
    clear CT hr
    go_wp2
    go_ret
    rw [HE2.out]
    exact ⟨rfl, HR.out⟩
  · have hq : ((er : Int) == 0) = false := by rw [beq_eq_false_iff_ne]; omega
    have HE2 : Hid (Sf.remove t s = (er, t)) := HE.out.trans (if_pos he)
    clear HE he CW
    go_enter Tryz.func35, Tryz.ntmps35
    go_wp2_with fail
    refine CG.out.mono ?_
    rintro e1 w1 ⟨rfl, rfl⟩
    clear CG
    go_wp2
    go_ret
    rw [HE2.out]
    exact ⟨rfl, f, HD.out, Fp.Next.refl _ _, Turned.refl _ _⟩
end
end Go.Proofs.YtmcbjcbnckpfkaaGreat
