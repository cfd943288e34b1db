/-
  RSfSb: stookref14: turn, the walk.
  RSfV: stookref14: turn with a new directory; Remove, Rename.
  RSfVr: stookref14: Rename.
-/
import Derived.Test.YtmcbjcbnckpfkaaGreatPt29
import Derived.Test.YtmcbjcbnckpfkaaGreatPt27
import Derived.Test.YtmcbjcbnckpfkaaGreatPt33
import Derived.Test.YtmcbjcbnckpfkaaGreatPt30
namespace Go.Proofs.YtmcbjcbnckpfkaaGreat
open Go.RowKit
set_option linter.unusedVariables false
section
variable {w : World} {f : Fp} {t : Sf.St} {b : Nat}
set_option maxHeartbeats 2000000 in
set_option maxRecDepth 100000 in
theorem rturn_disk (h : RDiskM w f t b) (hf : Sf.Few t) (n0 : Nat) (hn0 : n0 ≤ w.heap.size) (vd : Value) (d : Sf.Dir) (hv : Lv eK w w.heap.size vd d)
    (hblk : 0 < d.length → ∀ k, vd.ownBlock = some k → ¬ f.M k ∧ k < w.heap.size ∧ (f.R k ∨ n0 ≤ k))
    (hlen : d.length ≤ 64) (hlt : ∀ e ∈ d, e.2 < t.files.length) (hnd : (d.map (·.2)).Nodup) :
    Calls Tryz.prog 79 #[.pointer (some ⟨b, 0, none⟩), vd] w (fun e w' => e = .returned (.int .i64 ((Sf.turn t d).1 : Nat)) ∧ ∃ f', RDiskM w' f' (Sf.turn t d).2 b ∧ f.Next f' n0 ∧ Turned f.M w w') := by
  obtain ⟨vf, vs, vr, vu, rf, rr, h⟩ := h
  obtain ⟨Au, cu, eu, _⟩ := h.body.seen.lv
  obtain ⟨nu, hnu⟩ : ∃ n, t.seen.length = n := ⟨_, rfl⟩
  rw [hnu] at eu
  subst eu
  obtain ⟨Ar, cr, er, _⟩ := h.body.row.form_
  subst er
  have HV0 := Lib.hid hv
  obtain ⟨Ad, cd, ed, _⟩ := hv
  obtain ⟨nd, hnd2⟩ : ∃ n, d.length = n := ⟨_, rfl⟩
  rw [hnd2] at ed
  subst ed
  have HV : Hid (Lv eK w w.heap.size (slV ⟨Ad, nd, cd⟩) d) := HV0.out
  have HH := Lib.hid h
  have hb : b < w.heap.size := h.lt b (.inl h.mine)
  have hrn : rr.length ≤ 1099511627776 := by have := h.body.nrow; have := h.good.rows; have := h.good.acts; omega
  have ha := h.good.acts
  have d4 : w.cell? ⟨b, 4, none⟩ = some (.slice Au nu cu) := h.cell rfl
  have z4 : w.frozen? ⟨b, 4, none⟩ = false := frozen_of_row w b 4 _ _ h.head
  have h1 := head_set h.head 4 (.slice Ad nd cd) (C' := headC t vf vs (.slice Ar rr.length cr) (.slice Ad nd cd)) rfl
  have T1 := Turned.setCell (F := fun k => k = b) (Turned.refl (fun k => k = b) w) (p := ⟨b, 4, none⟩) (fun _ => rfl) (.slice Ad nd cd)
  obtain ⟨w1, hw1⟩ : ∃ w1, w.setCell ⟨b, 4, none⟩ (.slice Ad nd cd) = w1 := ⟨_, rfl⟩
  rw [hw1] at h1 T1
  have d3 : w1.cell? ⟨b, 3, none⟩ = some (.slice Ar rr.length cr) := head_cell h1 rfl
  have HO := Lib.hid (h.body.row.turned_ T1 (fun k hk e => h.row_ne (e ▸ hk)))
  have HNE : Hid ((Value.slice Ar rr.length cr).ownBlock ≠ some b) := h.row_ne
  have H1 := Lib.hid h1
  have HT1 := Lib.hid T1
  have HF := Lib.hid hf
  have HFU := Lib.hid h.good.fuse
  have hb1 : b < w1.heap.size := Nat.lt_of_lt_of_le hb T1.size
  have HSZ : Hid (w.heap.size ≤ w1.heap.size) := T1.size
  have HP := Lib.hid hblk
  have HL := Lib.hid hlen
  have HLT := Lib.hid hlt
  have HND := Lib.hid hnd
  clear h HV0 h1 T1 hf hblk hlen hlt hnd hnd2 hnu
  go_enter Tryz.func79, Tryz.ntmps79
  go_wp2_with (at_builtin; go_must (refine wpList_push_m _ rK rfl _ _ rfl 0 _ rfl rr HO.out rfl (⟨Ad, nd, cd⟩ : Sl) trivial _ rfl _ rfl (by show _ * 24 ≤ _; omega) (by simp only [maxLen]; omega) (Nat.zero_le _) ?_; intro A3 c3 w5 hA hG hM; have h5 := (hG.block b hb1 (fun e => HNE.out e.symm)).trans H1.out; have d35 := head_cell h5 (j := 3) rfl; have z35 : w5.frozen? ⟨b, 3, none⟩ = false := frozen_of_row w5 b 3 _ _ h5; have h6 := head_set h5 3 (.slice A3 (rr.length + 1) c3) (C' := headC t vf vs (.slice A3 (rr.length + 1) c3) (.slice Ad nd cd)) rfl; have T6 := Turned.setCell (F := fun k => k = b) (Turned.refl (fun k => k = b) w5) (p := ⟨b, 3, none⟩) (fun _ => rfl) (.slice A3 (rr.length + 1) c3); obtain ⟨w6, hw6⟩ : ∃ w6, w5.setCell ⟨b, 3, none⟩ (.slice A3 (rr.length + 1) c3) = w6 := ⟨_, rfl⟩; rw [hw6] at h6 T6; have H6 := Lib.hid h6; have HT6 := Lib.hid T6; have HA := Lib.hid hA; have HG := Lib.hid hG; have HM := Lib.hid hM; clear hA hG hM h6 T6 h5))
  refine (rblown_head w6 { t with seen := d, row := t.row ++ [d] } b vf vs (.slice A3 (rr.length + 1) c3) (.slice Ad nd cd) H6.out (by show t.acts ≤ _; omega) HFU.out).mono ?_
  rintro e7 w7 ⟨rfl, hw7, T7⟩
  have T5 := HT6.out.trans T7 (fun k _ hk => hk)
  have TG : Turned (fun k => k = b ∨ (Value.slice Ar rr.length cr).ownBlock = some k) w w5 := (HT1.out.mono (G := fun k => k = b ∨ (Value.slice Ar rr.length cr).ownBlock = some k) (fun k _ hk => .inl hk)).trans ((Turned.of_grown HG.out).mono (G := fun k => k = b ∨ (Value.slice Ar rr.length cr).ownBlock = some k) (fun k _ hk => .inr hk)) (fun k _ hk => hk)
  have T := TG.trans (T5.mono (G := fun k => k = b ∨ (Value.slice Ar rr.length cr).ownBlock = some k) (fun k _ hk => .inl hk)) (fun k _ hk => hk)
  have HX := Lib.hid (HH.out.turn_dir HF.out (sl := ⟨Ad, nd, cd⟩) (d := d) HV.out (fun hp k hk => ⟨(HP.out hp k hk).1, (HP.out hp k hk).2.1⟩) HL.out HLT.out HND.out HA.out (fun k hk => (HM.out k hk).imp id (fun h => Nat.le_trans HSZ.out h)) T T5 hw7)
  have HTT := Lib.hid (T.mono (G := f.M) (fun k _ hk => hk.elim (fun e => e ▸ HH.out.mine) (fun e => HH.out.body.rowM k e)))
  clear hw7 T7 T5 TG T
  go_wp2
  go_ret
  refine ⟨rfl, _, ⟨_, _, _, _, _, _, HX.out⟩, ⟨?_, ?_⟩, HTT.out⟩
  · rintro k (hk | hk)
    · exact .inl hk
    · exact (HM.out k hk).elim (fun e => .inl (HH.out.body.rowM k e)) (fun e => .inr (by have := HSZ.out; omega))
  · rintro k (hk | hk)
    · exact .inl hk
    · exact (HP.out hk.1 k hk.2).2.2
end
end Go.Proofs.YtmcbjcbnckpfkaaGreat
namespace Go.Proofs.YtmcbjcbnckpfkaaGreat
open Go.RowKit
set_option linter.unusedVariables false
section
variable {w : World} {f : Fp} {t : Sf.St} {b : Nat}
/-- turn, with a directory in new memory. -/
theorem rturn_new (h : RDiskM w f t b) (hf : Sf.Few t) {w1 : World} (hb : Below w.heap.size w w1) {vd : Value} {d : Sf.Dir} (ho : OwnL eK w1 w.heap.size vd d)
    (hlen : d.length ≤ 64) (hlt : ∀ e ∈ d, e.2 < t.files.length) (hnd : (d.map (·.2)).Nodup) :
    Calls Tryz.prog 79 #[.pointer (some ⟨b, 0, none⟩), vd] w1 (IsDeed RDiskM f b (Sf.turn t d) w) := by
  have hl := rdiskM_lt h
  have h1 := rdiskM_turned h (Turned.of_below hb) (hl.off (fun k hk => hk))
  refine (rturn_disk h1 hf w.heap.size hb.size vd d ho.form_ (fun _ k hk => ⟨fun hm => ?_, (ho.lt_ k hk).2, .inr (ho.lt_ k hk).1⟩) hlen hlt hnd).mono ?_
  · have := hl k (.inl hm); have := (ho.lt_ k hk).1; omega
  · rintro e w2 ⟨rfl, f', hD, hN, hT⟩
    exact ⟨rfl, f', hD, hN, ((Turned.of_below hb).mono (G := f.M) (fun k hk hs => absurd hs (by omega))).trans hT (fun k _ hk => hk)⟩
set_option maxHeartbeats 2000000 in
set_option maxRecDepth 100000 in
theorem rremove_disk (h : RDiskM w f t b) (hf : Sf.Few t) (s : ByteArray) : Calls Tryz.prog 35 #[.pointer (some ⟨b, 0, none⟩), .string s] w (IsDeed RDiskM f b (Sf.remove t s) w) := by
  have HD := Lib.hid h
  obtain ⟨vf, vs, vr, vu, rf, rr, h⟩ := h
  have CG := Lib.hid (rget_head w t b vf vs vr vu h.head w.heap.size h.body.seen.lv s)
  have d4 : w.cell? ⟨b, 4, none⟩ = some vu := h.cell rfl
  have hs64 := h.good.seen.1
  have CW := Lib.hid (rwithout_ent vu t.seen w.heap.size w h.body.seen.lv (Nat.le_refl _) s (by omega))
  have hsub := Sf.without_sub t.seen s
  have HL : Hid ((Sf.without t.seen s).length ≤ 64) := Nat.le_trans hsub.length_le hs64
  have HLT : Hid (∀ e ∈ Sf.without t.seen s, e.2 < t.files.length) := fun e he => h.good.seen.2 e (hsub.subset he)
  have HND : Hid (((Sf.without t.seen s).map (·.2)).Nodup) := h.good.inv.nums.sublist (hsub.map _)
  have HF := Lib.hid hf
  obtain ⟨Au, cu, eu, _⟩ := h.body.seen.lv
  subst eu
  obtain ⟨k, er, hge⟩ : ∃ k er, Sf.get t s = (k, er) := ⟨_, _, rfl⟩
  have HE : Hid (Sf.remove t s = if er ≠ 0 then (er, t) else Sf.turn t (Sf.without t.seen s)) := by unfold Hid Sf.remove; rw [hge]
  rw [hge] at CG
  clear h hge hsub hf hs64
  by_cases he : er = 0
  · have hq : ((er : Int) == 0) = true := by rw [beq_iff_eq]; omega
    have HE2 : Hid (Sf.remove t s = Sf.turn t (Sf.without t.seen s)) := HE.out.trans (if_neg (by simpa using he))
    clear HE he
    go_enter Tryz.func35, Tryz.ntmps35
    go_wp2_with fail
    refine CG.out.mono ?_
    rintro e1 w1 ⟨rfl, rfl⟩
    clear CG
    go_wp2_with fail
    refine CW.out.mono ?_
    rintro e2 w2 ⟨A2, c2, rfl, ho2, hb2⟩
    have CT := Lib.hid (rturn_new HD.out HF.out hb2 ho2 HL.out HLT.out HND.out)
    clear CW ho2 hb2
    go_wp2_with fail
    refine CT.out.mono ?_
    rintro e3 w3 ⟨rfl, hr⟩
    have HR := Lib.hid hr
    clear CT hr
    go_wp2
    go_ret
    rw [HE2.out]
    exact ⟨rfl, HR.out⟩
  · have hq : ((er : Int) == 0) = false := by rw [beq_eq_false_iff_ne]; omega
    have HE2 : Hid (Sf.remove t s = (er, t)) := HE.out.trans (if_pos he)
    clear HE he CW
    go_enter Tryz.func35, Tryz.ntmps35
    go_wp2_with fail
    refine CG.out.mono ?_
    rintro e1 w1 ⟨rfl, rfl⟩
    clear CG
    go_wp2
    go_ret
    rw [HE2.out]
    exact ⟨rfl, f, HD.out, Fp.Next.refl _ _, Turned.refl _ _⟩
end
end Go.Proofs.YtmcbjcbnckpfkaaGreat
namespace Go.Proofs.YtmcbjcbnckpfkaaGreat
open Go.RowKit
set_option linter.unusedVariables false
theorem ren_dir {t : Sf.St} (h : Good t) {s : ByteArray} {n : Nat} (hge : Sf.get t s = (n, 0)) (u : ByteArray) :
    (Sf.with_ (Sf.without (Sf.without t.seen s) u) u n).length ≤ 64 ∧ (∀ e ∈ Sf.with_ (Sf.without (Sf.without t.seen s) u) u n, e.2 < t.files.length) ∧ ((Sf.with_ (Sf.without (Sf.without t.seen s) u) u n).map (·.2)).Nodup := by
  have hk := get_lt h hge
  have hf := (Sf.get_ok (t := t) (s := s) (by rw [hge])).2
  rw [hge] at hf
  have hm : (s, n) ∈ t.seen := Sf.find_mem hf
  have hs := (Sf.without_sub (Sf.without t.seen s) u).trans (Sf.without_sub t.seen s)
  have hp := Sf.with_perm (Sf.without (Sf.without t.seen s) u) u n
  have hnot : n ∉ (Sf.without (Sf.without t.seen s) u).map (·.2) := by
    intro hx
    obtain ⟨e, he, e2⟩ := List.mem_map.1 hx
    have h1 := (Sf.mem_without.1 he).1
    have h2 := Sf.mem_without.1 h1
    have h3 : e = (s, n) := by
      have hn := h.inv.nums
      rw [List.nodup_iff_pairwise_ne, List.pairwise_map] at hn
      apply Classical.byContradiction
      intro hne
      obtain ⟨i, hi, ei⟩ := List.mem_iff_getElem.1 h2.1
      obtain ⟨j, hj, ej⟩ := List.mem_iff_getElem.1 hm
      rw [List.pairwise_iff_getElem] at hn
      rcases Nat.lt_trichotomy i j with hij | hij | hij
      · exact hn i j hi hj hij (by rw [ei, ej]; exact e2)
      · subst hij; exact hne (ei.symm.trans ej)
      · exact hn j i hj hi hij (by rw [ei, ej]; exact e2.symm)
    exact h2.2 (by rw [h3])
  refine ⟨?_, ?_, ?_⟩
  · have h1 : (Sf.without t.seen s).length < t.seen.length := List.length_filter_lt_length_iff_exists.2 ⟨(s, n), hm, by simp⟩
    have h2 := (Sf.without_sub (Sf.without t.seen s) u).length_le
    have h3 := hp.length_eq
    have h4 := h.seen.1
    simp only [List.length_cons] at h3
    omega
  · intro e he
    rcases Sf.mem_with.1 he with e1 | e1
    · subst e1; exact hk
    · exact h.seen.2 e (hs.subset e1)
  · refine ((hp.map (·.2)).nodup_iff).2 ?_
    rw [List.map_cons, List.nodup_cons]
    exact ⟨hnot, h.inv.nums.sublist (hs.map _)⟩
section
variable {w : World} {f : Fp} {t : Sf.St} {b : Nat}
set_option maxHeartbeats 2000000 in
set_option maxRecDepth 100000 in
theorem rrename_disk (h : RDiskM w f t b) (hf : Sf.Few t) (s u : ByteArray) (hsz : s.size ≤ maxLen) (huz : u.size ≤ maxLen) : Calls Tryz.prog 34 #[.pointer (some ⟨b, 0, none⟩), .string s, .string u] w (IsDeed RDiskM f b (Sf.rename t s u) w) := by
  have HD := Lib.hid h
  obtain ⟨vf, vs, vr, vu, rf, rr, h⟩ := h
  have CG := Lib.hid (rget_head w t b vf vs vr vu h.head w.heap.size h.body.seen.lv s)
  have CI := Lib.hid (rname_any u huz w)
  have d4 : w.cell? ⟨b, 4, none⟩ = some vu := h.cell rfl
  have hs64 := h.good.seen.1
  have CW := Lib.hid (rwithout_ent vu t.seen w.heap.size w h.body.seen.lv (Nat.le_refl _) s (by omega))
  have h65 := (Sf.without_sub t.seen s).length_le
  have h66 := (Sf.without_sub (Sf.without t.seen s) u).length_le
  have HG := Lib.hid h.good
  have HF := Lib.hid hf
  obtain ⟨Au, cu, eu, _⟩ := h.body.seen.lv
  subst eu
  obtain ⟨k, er, hge⟩ : ∃ k er, Sf.get t s = (k, er) := ⟨_, _, rfl⟩
  have HE : Hid (Sf.rename t s u = if er ≠ 0 then (er, t) else if Sf.isName u = false then (2, t) else Sf.turn t (Sf.with_ (Sf.without (Sf.without t.seen s) u) u k)) := by unfold Hid Sf.rename; rw [hge]
  rw [hge] at CG
  clear h hf
  by_cases he : er = 0
  · have hq : ((er : Int) == 0) = true := by rw [beq_iff_eq]; omega
    have HE1 : Hid (Sf.rename t s u = if Sf.isName u = false then (2, t) else Sf.turn t (Sf.with_ (Sf.without (Sf.without t.seen s) u) u k)) := HE.out.trans (if_neg (by simpa using he))
    rw [he] at hge
    obtain ⟨r1, r2, r3⟩ := ren_dir HG.out hge u
    have hkl := get_lt HG.out hge
    have hka := HG.out.files
    have hkb := HG.out.acts
    have HR1 := Lib.hid r1
    have HR2 := Lib.hid r2
    have HR3 := Lib.hid r3
    clear HE he hge r1 r2 r3
    cases hi : Sf.isName u with
    | false =>
      have HE2 : Hid (Sf.rename t s u = (2, t)) := HE1.out.trans (if_pos hi)
      rw [hi] at CI
      clear HE1 hi CW
      go_enter Tryz.func34, Tryz.ntmps34
      go_wp2_with fail
      refine CG.out.mono ?_
      rintro e1 w1 ⟨rfl, rfl⟩
      clear CG
      go_wp2_with fail
      refine CI.out.mono ?_
      rintro e1 w1 ⟨rfl, rfl⟩
      clear CI
      go_wp2
      go_ret
      rw [HE2.out]
      exact ⟨rfl, f, HD.out, Fp.Next.refl _ _, Turned.refl _ _⟩
    | true =>
      have HE2 : Hid (Sf.rename t s u = Sf.turn t (Sf.with_ (Sf.without (Sf.without t.seen s) u) u k)) := HE1.out.trans (if_neg (by rw [hi]; decide))
      rw [hi] at CI
      clear HE1 hi
      go_enter Tryz.func34, Tryz.ntmps34
      go_wp2_with fail
      refine CG.out.mono ?_
      rintro e1 w1 ⟨rfl, rfl⟩
      clear CG
      go_wp2_with fail
      refine CI.out.mono ?_
      rintro e1 w1 ⟨rfl, rfl⟩
      clear CI
      go_wp2_with fail
      refine CW.out.mono ?_
      rintro e2 w2 ⟨A2, c2, rfl, ho2, hb2⟩
      have CW2 := Lib.hid (rwithout_ent _ (Sf.without t.seen s) w2.heap.size w2 ho2.form_ (Nat.le_refl _) u (by omega))
      have HB2 := Lib.hid hb2
      clear CW ho2 hb2
      go_wp2_with fail
      refine CW2.out.mono ?_
      rintro e3 w3 ⟨A3, c3, rfl, ho3, hb3⟩
      have CW3 := Lib.hid (rwith_ent _ (Sf.without (Sf.without t.seen s) u) w3.heap.size w3 ho3.form_ (Nat.le_refl _) u huz k (by omega) (by omega))
      have HB3 := Lib.hid (HB2.out.trans (hb3.mono HB2.out.size))
      clear CW2 ho3 hb3
      go_wp2_with fail
      refine CW3.out.mono ?_
      rintro e4 w4 ⟨A4, c4, rfl, ho4, hb4⟩
      have CT := Lib.hid (rturn_new HD.out HF.out (HB3.out.trans (hb4.mono HB3.out.size)) (ho4.mono_ HB3.out.size) HR1.out HR2.out HR3.out)
      clear CW3 ho4 hb4
      go_wp2_with fail
      refine CT.out.mono ?_
      rintro e5 w5 ⟨rfl, hr⟩
      have HR := Lib.hid hr
      clear CT hr
      go_wp2
      go_ret
      rw [HE2.out]
      exact ⟨rfl, HR.out⟩
  · have hq : ((er : Int) == 0) = false := by rw [beq_eq_false_iff_ne]; omega
    have HE2 : Hid (Sf.rename t s u = (er, t)) := HE.out.trans (if_pos he)
    clear HE he CW CI hge
    go_enter Tryz.func34, Tryz.ntmps34
    go_wp2_with fail
    refine CG.out.mono ?_
    rintro e1 w1 ⟨rfl, rfl⟩
    clear CG
    go_wp2
    go_ret
    rw [HE2.out]
    exact ⟨rfl, f, HD.out, Fp.Next.refl _ _, Turned.refl _ _⟩
end
end Go.Proofs.YtmcbjcbnckpfkaaGreat
