/-
  RSfZe: stookref14: Create; New.
  RSfPro: stookref14's disk: what its functions answer.
  RSfDo: stooklaw14.did: a deed, of the document's disk.
-/
import Derived.Test.YtmcbjcbnckpfkaaGreatPt32
import Derived.Test.YtmcbjcbnckpfkaaGreatPt37
import Derived.Deep.RegionHeld3
import Derived.Test.YtmcbjcbnckpfkaaGreatPt33
import Derived.Test.YtmcbjcbnckpfkaaGreatPt35
import Derived.Test.YtmcbjcbnckpfkaaGreatPt36
import Derived.Test.YtmcbjcbnckpfkaaGreatPt05
import Derived.BigRegion
namespace Go.Proofs.YtmcbjcbnckpfkaaGreat
open Go.RowKit
set_option linter.unusedVariables false
/-- A directory with one more name. -/
theorem new_dir {t : Sf.St} (h : Good t) (h64 : t.seen.length < 64) (s : ByteArray) :
    (Sf.with_ t.seen s t.files.length).length ≤ 64 ∧ (∀ e ∈ Sf.with_ t.seen s t.files.length, e.2 < (t.files ++ [Sf.noFile]).length) ∧ ((Sf.with_ t.seen s t.files.length).map (·.2)).Nodup := by
  have hp := Sf.with_perm t.seen s t.files.length
  refine ⟨?_, ?_, ?_⟩
  · have h3 := hp.length_eq
    simp only [List.length_cons] at h3
    omega
  · intro e he
    rw [List.length_append, List.length_singleton]
    rcases Sf.mem_with.1 he with e1 | e1
    · subst e1; exact Nat.lt_succ_self _
    · have := h.seen.2 e e1; omega
  · refine ((hp.map (·.2)).nodup_iff).2 ?_
    rw [List.map_cons, List.nodup_cons]
    refine ⟨fun hx => ?_, h.inv.nums⟩
    obtain ⟨e, he, e2⟩ := List.mem_map.1 hx
    have := h.seen.2 e he
    simp only at e2
    omega
section
variable {w : World} {f : Fp} {t : Sf.St} {b : Nat}
set_option maxHeartbeats 4000000 in
set_option maxRecDepth 100000 in
theorem rcreate_disk (h : RDiskM w f t b) (hf : Sf.Few t) (hnm : Sf.Num t) (s : ByteArray) (hs : s.size ≤ maxLen) :
    Calls Tryz.prog 30 #[.pointer (some ⟨b, 0, none⟩), .string s] w (IsDeed RDiskM f b (Sf.create t s) w) := by
  have HD := Lib.hid h
  obtain ⟨vf, vs, vr, vu, rf, rr, h⟩ := h
  have d7 : w.cell? ⟨b, 7, none⟩ = some (.bool t.dead) := h.cell rfl
  have d4 : w.cell? ⟨b, 4, none⟩ = some vu := h.cell rfl
  have d1 : w.cell? ⟨b, 1, none⟩ = some vf := h.cell rfl
  have CI := Lib.hid (rname_any s hs w)
  have CF := Lib.hid (rfind_ent vu t.seen w.heap.size w h.body.seen.lv s)
  have HE : Hid (Sf.create t s = if t.dead then (13, t) else if Sf.isName s = false then (2, t) else if (Sf.find t.seen s).isSome then (8, t) else if 64 ≤ t.seen.length then (3, t) else Sf.turn { t with files := t.files ++ [Sf.noFile] } (Sf.with_ t.seen s t.files.length)) := rfl
  have HVU := Lib.hid h.body.seen
  obtain ⟨Au, cu, eu, hu1, hu2, _⟩ := h.body.seen.lv
  have hsl : t.seen.length ≤ 9223372036854775807 := by simp only [maxLen] at hu2; omega
  subst eu
  have HH := Lib.hid h
  have HF := Lib.hid hf
  have HNM := Lib.hid hnm
  have HS := Lib.hid hs
  clear hu1 hu2 hf hnm hs
  cases hd : t.dead with
  | true =>
    have HE2 : Hid (Sf.create t s = (13, t)) := by unfold Hid; rw [HE.out, hd]; rfl
    rw [hd] at d7
    clear hd HE h CI CF
    go_enter Tryz.func30, Tryz.ntmps30
    go_wp2
    go_ret
    rw [HE2.out]
    exact ⟨rfl, f, HD.out, Fp.Next.refl _ _, Turned.refl _ _⟩
  | false =>
    have HE1 : Hid (Sf.create t s = if Sf.isName s = false then (2, t) else if (Sf.find t.seen s).isSome then (8, t) else if 64 ≤ t.seen.length then (3, t) else Sf.turn { t with files := t.files ++ [Sf.noFile] } (Sf.with_ t.seen s t.files.length)) := by unfold Hid; rw [HE.out, hd]; rfl
    rw [hd] at d7
    clear hd HE
    cases hi : Sf.isName s with
    | false =>
      have HE2 : Hid (Sf.create t s = (2, t)) := HE1.out.trans (if_pos hi)
      rw [hi] at CI
      clear HE1 hi h CF
      go_enter Tryz.func30, Tryz.ntmps30
      go_wp2_with fail
      refine CI.out.mono ?_
      rintro e1 w1 ⟨rfl, rfl⟩
      clear CI
      go_wp2
      go_ret
      rw [HE2.out]
      exact ⟨rfl, f, HD.out, Fp.Next.refl _ _, Turned.refl _ _⟩
    | true =>
      have HE2 : Hid (Sf.create t s = if (Sf.find t.seen s).isSome then (8, t) else if 64 ≤ t.seen.length then (3, t) else Sf.turn { t with files := t.files ++ [Sf.noFile] } (Sf.with_ t.seen s t.files.length)) := HE1.out.trans (if_neg (by rw [hi]; decide))
      rw [hi] at CI
      clear HE1 hi
      cases hp : Sf.place t.seen s with
      | some i =>
        have HE3 : Hid (Sf.create t s = (8, t)) := by
          unfold Hid
          rw [HE2.out, Sf.find_place, hp]
          have hil : i < t.seen.length := by unfold Sf.place at hp; exact (List.findIdx?_eq_some_iff_getElem.1 hp).1
          simp [List.getElem?_eq_getElem hil]
        rw [hp] at CF
        have hpos : placeI (some i) = (i : Int) := rfl
        rw [hpos] at CF
        have hi0 : (0 : Int) ≤ (i : Int) := by omega
        clear HE2 hp h
        go_enter Tryz.func30, Tryz.ntmps30
        go_wp2_with fail
        refine CI.out.mono ?_
        rintro e1 w1 ⟨rfl, rfl⟩
        clear CI
        go_wp2_with fail
        refine CF.out.mono ?_
        rintro e1 w1 ⟨rfl, rfl⟩
        clear CF
        go_wp2
        go_ret
        rw [HE3.out]
        exact ⟨rfl, f, HD.out, Fp.Next.refl _ _, Turned.refl _ _⟩
      | none =>
        have HE3 : Hid (Sf.create t s = if 64 ≤ t.seen.length then (3, t) else Sf.turn { t with files := t.files ++ [Sf.noFile] } (Sf.with_ t.seen s t.files.length)) := by
          unfold Hid
          rw [HE2.out, Sf.find_place, hp]
          rfl
        rw [hp] at CF
        have hneg : placeI none = -1 := rfl
        rw [hneg] at CF
        clear HE2 hp
        by_cases h64 : 64 ≤ t.seen.length
        · have HE4 : Hid (Sf.create t s = (3, t)) := HE3.out.trans (if_pos h64)
          have h64i : (64 : Int) ≤ (t.seen.length : Int) := by omega
          clear HE3 h
          go_enter Tryz.func30, Tryz.ntmps30
          go_wp2_with fail
          refine CI.out.mono ?_
          rintro e1 w1 ⟨rfl, rfl⟩
          clear CI
          go_wp2_with fail
          refine CF.out.mono ?_
          rintro e1 w1 ⟨rfl, rfl⟩
          clear CF
          go_wp2
          go_ret
          rw [HE4.out]
          exact ⟨rfl, f, HD.out, Fp.Next.refl _ _, Turned.refl _ _⟩
        · have HE4 : Hid (Sf.create t s = Sf.turn { t with files := t.files ++ [Sf.noFile] } (Sf.with_ t.seen s t.files.length)) := HE3.out.trans (if_neg h64)
          have h64i : ¬ (64 : Int) ≤ (t.seen.length : Int) := by omega
          obtain ⟨q1, q2, q3⟩ := new_dir h.good (by omega) s
          have HQ1 := Lib.hid q1
          have HQ2 := Lib.hid q2
          have HQ3 := Lib.hid q3
          have hfn := h.good.files
          have hac := h.good.acts
          have hg64 := HNM.out (by omega)
          have HG64 := Lib.hid hg64
          have hnf := h.body.nfiles
          have HNF := Lib.hid hnf
          have HOF := Lib.hid h.body.files
          have hb : b < w.heap.size := h.lt b (.inl h.mine)
          have HBL := Lib.hid hb
          have HFB := Lib.hid h.files_ne
          have HHD := Lib.hid h.head
          obtain ⟨Af, cf, ef, _⟩ := h.body.files.form_
          subst ef
          have hrn : rf.length ≤ 1099511627840 := by omega
          clear HE3 q1 q2 q3 h hg64 hb hnf
          go_enter Tryz.func30, Tryz.ntmps30
          go_wp2_with fail
          refine CI.out.mono ?_
          rintro e1 w1 ⟨rfl, rfl⟩
          clear CI
          go_wp2_with fail
          refine CF.out.mono ?_
          rintro e1 w1 ⟨rfl, rfl⟩
          clear CF
          go_wp2_with (at_builtin; go_must (refine wpList_push_m _ fK rfl _ _ rfl 0 _ rfl rf HOF.out rfl noRaw trivial _ rfl _ rfl (by show _ * 48 ≤ _; omega) (by simp only [maxLen]; omega) (Nat.zero_le _) ?_; intro A3 c3 w5 hA hG hM; have h5 := (hG.block b HBL.out (fun e => HFB.out e.symm)).trans HHD.out; have d15 := head_cell h5 (j := 1) rfl; have z15 : w5.frozen? ⟨b, 1, none⟩ = false := frozen_of_row w5 b 1 _ _ h5; have h6 := head_set h5 1 (.slice A3 (rf.length + 1) c3) (C' := headC { t with files := t.files ++ [Sf.noFile] } (.slice A3 (rf.length + 1) c3) vs vr (.slice Au t.seen.length cu)) rfl; have T6 := Turned.setCell (F := fun k => k = b) (Turned.refl (fun k => k = b) w5) (p := ⟨b, 1, none⟩) (fun _ => rfl) (.slice A3 (rf.length + 1) c3); obtain ⟨w6, hw6⟩ : ∃ w6, w5.setCell ⟨b, 1, none⟩ (.slice A3 (rf.length + 1) c3) = w6 := ⟨_, rfl⟩; rw [hw6] at h6 T6; have H6 := Lib.hid h6; have HT6 := Lib.hid T6; have HA := Lib.hid hA; have HG := Lib.hid hG; have HM := Lib.hid hM; clear hA hG hM h6 T6 h5))
          have hbk : (Value.slice A3 (rf.length + 1) c3).ownBlock ≠ some b := fun e => (HM.out b e).elim (fun e => HFB.out e) (fun e => by have := HBL.out; omega)
          have TG : Turned (fun k => (Value.slice Af rf.length cf).ownBlock = some k ∨ k = b) w w6 := ((Turned.of_grown HG.out).mono (G := fun k => (Value.slice Af rf.length cf).ownBlock = some k ∨ k = b) (fun k _ hk => .inl hk)).trans (HT6.out.mono (G := fun k => (Value.slice Af rf.length cf).ownBlock = some k ∨ k = b) (fun k _ hk => .inr hk)) (fun k _ hk => hk)
          obtain ⟨hR7, hT7⟩ := HH.out.more_file HG64.out (HA.out.turned_ HT6.out (fun k hk e => hbk (e ▸ hk))) HM.out TG H6.out
          have HR7 := Lib.hid hR7
          have HT7 := Lib.hid hT7
          have CW := Lib.hid (rwith_ent (.slice Au t.seen.length cu) t.seen w6.drew.heap.size w6.drew (hR7.body.seen.lv) (Nat.le_refl _) s HS.out t.files.length (by omega) (by omega))
          have s0 : w6.drew.cell? ⟨b, 4, none⟩ = some (.slice Au t.seen.length cu) ∧ w6.drew.cell? ⟨b, 1, none⟩ = some (.slice A3 (rf.length + 1) c3) := ⟨head_cell H6.out rfl, head_cell H6.out rfl⟩
          have wsub : IntKind.i64.wrap (rf.length : Int) = (t.files.length : Int) := by rw [IntKind.wrap_i64]; have := HNF.out; omega
          clear hbk TG hR7 hT7 d7 d4 d1 d15 z15 hw6
          go_wp2
          refine wp_region_m (fun w' => w'.cell? ⟨b, 4, none⟩ = some (.slice Au t.seen.length cu) ∧ w'.cell? ⟨b, 1, none⟩ = some (.slice A3 (rf.length + 1) c3)) 13 (by kernel_rfl) ?_
          refine wpAnyM_take (i := 0) (v := ?_) rfl (by kernel_rfl) (by kernel_rfl) (by kernel_rfl) (by kernel_rfl) (fun _ _ _ h => h) s0 (Or.inl ⟨by rfl, (by intro w' hSw; obtain ⟨q1, q2⟩ := hSw; go_simp; first | done | with_reducible rfl)⟩) ?_
          try simp only [Act.put, List.getElem_toArray, List.getElem_cons_zero, List.setIfInBounds_toArray, List.set_cons_zero, List.set_cons_succ]
          refine wpAnyM_take (i := 1) (v := ?_) rfl (by kernel_rfl) (by kernel_rfl) (by kernel_rfl) (by kernel_rfl) (fun _ _ _ h => h) s0 (Or.inl ⟨by rfl, (by intro w' hSw; obtain ⟨q1, q2⟩ := hSw; go_simp; first | done | with_reducible rfl)⟩) ?_
          try simp only [Act.put, List.getElem_toArray, List.getElem_cons_succ, List.getElem_cons_zero, List.setIfInBounds_toArray, List.set_cons_zero, List.set_cons_succ]
          refine wpAnyM_take (i := 2) (v := ?_) rfl (by kernel_rfl) (by kernel_rfl) (by kernel_rfl) (by kernel_rfl) (fun _ _ _ h => h) s0 (Or.inl ⟨by rfl, (by intro w' hSw; obtain ⟨q1, q2⟩ := hSw; go_simp; first | done | with_reducible rfl)⟩) ?_
          try simp only [Act.put, List.getElem_toArray, List.getElem_cons_succ, List.getElem_cons_zero, List.setIfInBounds_toArray, List.set_cons_zero, List.set_cons_succ]
          refine wpAnyM_take (i := 3) (v := ?_) rfl (by kernel_rfl) (by kernel_rfl) (by kernel_rfl) (by kernel_rfl) (fun _ _ _ h => h) s0 (Or.inl ⟨by rfl, (by intro w' hSw; obtain ⟨q1, q2⟩ := hSw; go_simp; first | done | with_reducible rfl)⟩) ?_
          try simp only [Act.put, List.getElem_toArray, List.getElem_cons_succ, List.getElem_cons_zero, List.setIfInBounds_toArray, List.set_cons_zero, List.set_cons_succ]
          refine wpAnyM_take (i := 4) (v := ?_) rfl (by kernel_rfl) (by kernel_rfl) (by kernel_rfl) (by kernel_rfl) (fun _ _ _ h => h) s0 (Or.inl ⟨by rfl, (by intro w' hSw; obtain ⟨q1, q2⟩ := hSw; go_simp; first | done | with_reducible rfl)⟩) ?_
          try simp only [Act.put, List.getElem_toArray, List.getElem_cons_succ, List.getElem_cons_zero, List.setIfInBounds_toArray, List.set_cons_zero, List.set_cons_succ]
          refine wpAnyM_take (i := 5) (v := ?_) rfl (by kernel_rfl) (by kernel_rfl) (by kernel_rfl) (by kernel_rfl) (fun _ _ _ h => h) s0 (Or.inl ⟨by rfl, (by intro w' hSw; obtain ⟨q1, q2⟩ := hSw; go_simp; first | done | with_reducible rfl)⟩) ?_
          try simp only [Act.put, List.getElem_toArray, List.getElem_cons_succ, List.getElem_cons_zero, List.setIfInBounds_toArray, List.set_cons_zero, List.set_cons_succ]
          refine wpAnyM_take (i := 6) (v := ?_) rfl (by kernel_rfl) (by kernel_rfl) (by kernel_rfl) (by kernel_rfl) (fun _ _ _ h => h) s0 (Or.inl ⟨by rfl, (by intro w' hSw; obtain ⟨q1, q2⟩ := hSw; go_simp; first | done | with_reducible rfl)⟩) ?_
          try simp only [Act.put, List.getElem_toArray, List.getElem_cons_succ, List.getElem_cons_zero, List.setIfInBounds_toArray, List.set_cons_zero, List.set_cons_succ]
          refine wpAnyM_take (i := 7) (v := ?_) rfl (by kernel_rfl) (by kernel_rfl) (by kernel_rfl) (by kernel_rfl) (fun _ _ _ h => h) s0 (Or.inl ⟨by rfl, (by intro w' hSw; obtain ⟨q1, q2⟩ := hSw; go_simp; first | done | with_reducible rfl)⟩) ?_
          try simp only [Act.put, List.getElem_toArray, List.getElem_cons_succ, List.getElem_cons_zero, List.setIfInBounds_toArray, List.set_cons_zero, List.set_cons_succ]
          refine wpAnyM_take (i := 8) (v := ?_) rfl (by kernel_rfl) (by kernel_rfl) (by kernel_rfl) (by kernel_rfl) (fun _ _ _ h => h) s0 (Or.inl ⟨by rfl, (by intro w' hSw; obtain ⟨q1, q2⟩ := hSw; go_simp; first | done | with_reducible rfl)⟩) ?_
          try simp only [Act.put, List.getElem_toArray, List.getElem_cons_succ, List.getElem_cons_zero, List.setIfInBounds_toArray, List.set_cons_zero, List.set_cons_succ]
          refine wpAnyM_take (i := 9) (v := ?_) rfl (by kernel_rfl) (by kernel_rfl) (by kernel_rfl) (by kernel_rfl) (fun _ _ _ h => h) s0 (Or.inl ⟨by rfl, (by intro w' hSw; obtain ⟨q1, q2⟩ := hSw; go_simp; first | done | with_reducible rfl)⟩) ?_
          try simp only [Act.put, List.getElem_toArray, List.getElem_cons_succ, List.getElem_cons_zero, List.setIfInBounds_toArray, List.set_cons_zero, List.set_cons_succ]
          refine wpAnyM_take (i := 10) (v := ?_) rfl (by kernel_rfl) (by kernel_rfl) (by kernel_rfl) (by kernel_rfl) (fun _ _ _ h => h) s0 (Or.inl ⟨by rfl, (by intro w' hSw; obtain ⟨q1, q2⟩ := hSw; go_simp; first | done | with_reducible rfl)⟩) ?_
          try simp only [Act.put, List.getElem_toArray, List.getElem_cons_succ, List.getElem_cons_zero, List.setIfInBounds_toArray, List.set_cons_zero, List.set_cons_succ]
          refine wpAnyM_take (i := 11) (v := ?_) rfl (by kernel_rfl) (by kernel_rfl) (by kernel_rfl) (by kernel_rfl) (fun _ _ _ h => h) s0 (Or.inl ⟨by rfl, (by intro w' hSw; obtain ⟨q1, q2⟩ := hSw; go_simp; first | done | with_reducible rfl)⟩) ?_
          try simp only [Act.put, List.getElem_toArray, List.getElem_cons_succ, List.getElem_cons_zero, List.setIfInBounds_toArray, List.set_cons_zero, List.set_cons_succ]
          refine wpAnyM_next (i := 12) (by kernel_rfl) rfl (fun K hK => ?_)
          go_simp

          refine CW.out.mono ?_
          rintro e8 w8 ⟨A8, c8, rfl, ho8, hb8⟩
          have hb68 : Below w6.heap.size w6 w8 := (Below.refl w6.heap.size w6).drew.trans hb8
          have HB8 := Lib.hid hb68
          have HO8 : Hid (OwnL eK w8 w6.heap.size (.slice A8 (Sf.with_ t.seen s t.files.length).length c8) (Sf.with_ t.seen s t.files.length)) := ho8
          have s1 : w8.cell? ⟨b, 4, none⟩ = some (.slice Au t.seen.length cu) ∧ w8.cell? ⟨b, 1, none⟩ = some (.slice A3 (rf.length + 1) c3) := by
            have hb6 : b < w6.heap.size := HR7.out.lt b (.inl HR7.out.mine)
            exact ⟨(hb68.cell (p := ⟨b, 4, none⟩) hb6).trans s0.1, (hb68.cell (p := ⟨b, 1, none⟩) hb6).trans s0.2⟩
          refine hK.out _ _ (.inr s1) ?_
          clear hK K CW ho8 hb8 hb68 s0
          try simp only [Act.put, List.getElem_toArray, List.getElem_cons_succ, List.getElem_cons_zero, List.setIfInBounds_toArray, List.set_cons_zero, List.set_cons_succ]
          have CT := Lib.hid (rturn_disk (HR7.out.disk_below HB8.out) HF.out w6.heap.size HB8.out.size (.slice A8 (Sf.with_ t.seen s t.files.length).length c8) (Sf.with_ t.seen s t.files.length) HO8.out.form_ (fun _ k hk => ⟨fun hm => by have := HR7.out.lt k (.inl hm); have := (HO8.out.lt_ k hk).1; omega, (HO8.out.lt_ k hk).2, .inr (HO8.out.lt_ k hk).1⟩) HQ1.out HQ2.out HQ3.out)
          refine wpAnyM_next (i := 13) (by kernel_rfl) rfl (fun K hK => ?_)
          go_simp
          refine CT.out.mono ?_
          rintro e9 w9 ⟨rfl, f', hD, hN, hT⟩
          have HRR := Lib.hid hD
          have HNN := Lib.hid hN
          have HTT := Lib.hid hT
          refine hK.out _ _ (.inl (Nat.le_refl _)) ?_
          clear hK K CT hD hN hT s1
          try simp only [Act.put, List.getElem_toArray, List.getElem_cons_succ, List.getElem_cons_zero, List.setIfInBounds_toArray, List.set_cons_zero, List.set_cons_succ]
          refine wpAnyM_next (i := 14) (by kernel_rfl) rfl (fun K hK => ?_)
          go_simp
          refine hK.out _ _ (.inl (by omega)) ?_
          clear hK K
          try simp only [Act.put, List.getElem_toArray, List.getElem_cons_succ, List.getElem_cons_zero, List.setIfInBounds_toArray, List.set_cons_zero, List.set_cons_succ]
          refine wpAnyM_done (by kernel_rfl) ?_ _
          go_wp2
          go_ret
          rw [HE4.out]
          have hsz := HT7.out.size
          refine ⟨rfl, f', HRR.out, ⟨fun k hk => ?_, fun k hk => ?_⟩, ?_⟩
          · rcases HNN.out.m k hk with h1 | h1
            · rcases h1 with h2 | h2
              · exact .inl h2
              · exact (HM.out k h2).elim (fun e => .inl (HH.out.body.filesM k e)) .inr
            · exact .inr (by omega)
          · exact (HNN.out.r k hk).imp id (fun h1 => by omega)
          · refine (HT7.out.trans ((Turned.of_below HB8.out).mono (G := f.M) (fun k hk hs => absurd hs (by omega))) (fun k _ hk => hk)).trans HTT.out (fun k hk hm => ?_)
            rcases hm with h2 | h2
            · exact h2
            · exact (HM.out k h2).elim (fun e => HH.out.body.filesM k e) (fun e => absurd e (by omega))
end
set_option maxHeartbeats 1000000 in
set_option maxRecDepth 100000 in
theorem rnew_disk (n : Int) (hn : I64 n) (w : World) : Calls Tryz.prog 7 #[.int .i64 n] w (fun e w' =>
  if n < 0 ∨ 1048576 < n then e = .returned (.tuple #[.pointer none, .int .i64 2]) ∧ Below w.heap.size w w'
  else ∃ (b : Nat) (f' : Fp), e = .returned (.tuple #[.pointer (some ⟨b, 0, none⟩), .int .i64 0]) ∧ RDiskM w' f' (Sf.new n.toNat) b ∧ f'.From w.heap.size ∧ Below w.heap.size w w') := by
  by_cases h : n < 0 ∨ 1048576 < n
  · simp only [if_pos h]
    by_cases h0 : n < 0
    · clear h
      go_enter Tryz.func7, Tryz.ntmps7
      go_wp2
      go_ret2
      exact ⟨rfl, Below.refl _ _⟩
    · have h1 : 1048576 < n := by omega
      clear h
      go_enter Tryz.func7, Tryz.ntmps7
      go_wp2
      go_ret2
      exact ⟨rfl, Below.refl _ _⟩
  · simp only [if_neg h]
    have h0 : ¬ n < 0 := by omega
    have h1 : ¬ 1048576 < n := by omega
    obtain ⟨m, hm⟩ : ∃ m : Nat, n = (m : Int) := ⟨n.toNat, by omega⟩
    subst hm
    have HX : Hid (RHas (w.alloc (.cells (headC (Sf.new m) (.slice none 0 0) (.slice none 0 0) (.slice none 0 0) (.slice none 0 0)) 53)) ⟨fun k => k = w.heap.size, fun _ => False⟩ (Sf.new m) w.heap.size (.slice none 0 0) (.slice none 0 0) (.slice none 0 0) (.slice none 0 0) [] []) := rhas_new (by omega) (by simp) (heap_alloc_new w _)
    clear h
    go_enter Tryz.func7, Tryz.ntmps7
    go_wp2
    go_ret2
    refine ⟨w.heap.size, rfl, ⟨fun k => k = w.heap.size, fun _ => False⟩, ⟨_, _, _, _, _, _, HX.out⟩, fun k hk => hk.elim (fun e => Nat.le_of_eq e.symm) (fun e => e.elim), (Below.refl _ _).alloc (Nat.le_refl _) _⟩
end Go.Proofs.YtmcbjcbnckpfkaaGreat
namespace Go.Proofs.YtmcbjcbnckpfkaaGreat
open Go.RowKit
set_option linter.unusedVariables false
/-- A disk of stookref14 in memory, on which a file more may be made where a name more may be. -/
def RDisk : HasDisk := fun w f t b => RDiskM w f t b ∧ Sf.Num t
theorem rdisk_lt {w : World} {f : Fp} {t : Sf.St} {b : Nat} (h : RDisk w f t b) : f.Lt w.heap.size := rdiskM_lt h.1
theorem rdisk_turned {w w' : World} {f : Fp} {t : Sf.St} {b : Nat} {F : Nat → Prop} (h : RDisk w f t b) (ht : Turned F w w') (hF : f.Off F) : RDisk w' f t b := ⟨rdiskM_turned h.1 ht hF, h.2⟩
theorem rdisk_sep {w : World} {f : Fp} {t : Sf.St} {b : Nat} (h : RDisk w f t b) : ∀ k, f.M k → ¬ f.R k := rdiskM_sep h.1
theorem rdisk_law : DiskLaw RDisk := ⟨rdisk_lt, rdisk_turned, rdisk_sep⟩
theorem RDiskM.good {w : World} {f : Fp} {t : Sf.St} {b : Nat} (h : RDiskM w f t b) : Good t := by obtain ⟨_, _, _, _, _, _, h⟩ := h; exact h.good
theorem IsDeed.num {f : Fp} {b : Nat} {r : Nat × Sf.St} {w w' : World} {e : Ending} (hn : Sf.Num r.2) (h : IsDeed RDiskM f b r w e w') : IsDeed RDisk f b r w e w' := by
  obtain ⟨h1, f', h2, h3, h4⟩ := h
  exact ⟨h1, f', ⟨h2, hn⟩, h3, h4⟩
theorem rfnew_any (n : Int) (hn : I64 n) (w : World) : Calls Tryz.prog 7 #[.int .i64 n] w (fun e w' =>
  if n < 0 ∨ 1048576 < n then e = .returned (.tuple #[.pointer none, .int .i64 2]) ∧ Below w.heap.size w w'
  else ∃ (b : Nat) (f' : Fp), e = .returned (.tuple #[.pointer (some ⟨b, 0, none⟩), .int .i64 0]) ∧ RDisk w' f' (Sf.new n.toNat) b ∧ f'.From w.heap.size ∧ Below w.heap.size w w') := (rnew_disk n hn w).mono (fun e w' h => by
  by_cases hc : n < 0 ∨ 1048576 < n
  · rw [if_pos hc] at h ⊢; exact h
  · rw [if_neg hc] at h ⊢
    obtain ⟨b, f', h1, h2, h3, h4⟩ := h
    exact ⟨b, f', h1, ⟨h2, num_new _⟩, h3, h4⟩)
section
variable {w : World} {f : Fp} {t : Sf.St} {b : Nat}
theorem rfcreate_any (h : RDisk w f t b) (hf : Sf.Few t) (s : ByteArray) (hs : s.size ≤ maxLen) : Calls Tryz.prog 30 #[.pointer (some ⟨b, 0, none⟩), .string s] w (IsDeed RDisk f b (Sf.create t s) w) :=
  (rcreate_disk h.1 hf h.2 s hs).mono (fun e w' h2 => h2.num (num_create h.2 h.1.good s))
theorem rfappend_any (h : RDisk w f t b) (hf : Sf.Few t) (s : ByteArray) (hs : s.size ≤ maxLen) (v : Value) (B : Nat) (l : List Nat) (hv : Lv yK w B v l) (hB : B ≤ w.heap.size) (hM : 0 < l.length → ∀ k, v.ownBlock = some k → ¬ f.M k) :
  Calls Tryz.prog 31 #[.pointer (some ⟨b, 0, none⟩), .string s, v] w (IsDeed RDisk f b (Sf.append t s l) w) :=
  (rappend_disk h.1 hf s v B l hv hB).mono (fun e w' h2 => h2.num (num_append h.2 h.1.good s l))
theorem rfwrite_any (h : RDisk w f t b) (hf : Sf.Few t) (s : ByteArray) (hs : s.size ≤ maxLen) (a : Int) (ha : I64 a) (v : Value) (B : Nat) (l : List Nat) (hv : Lv yK w B v l) (hB : B ≤ w.heap.size) (hM : 0 < l.length → ∀ k, v.ownBlock = some k → ¬ f.M k) :
  Calls Tryz.prog 32 #[.pointer (some ⟨b, 0, none⟩), .string s, .int .i64 a, v] w (IsDeed RDisk f b (Sf.write t s a l) w) :=
  (rwrite_disk h.1 hf s a ha v B l hv hB).mono (fun e w' h2 => h2.num (num_write h.2 h.1.good s a l))
theorem rfcut_any (h : RDisk w f t b) (hf : Sf.Few t) (s : ByteArray) (hs : s.size ≤ maxLen) (a : Int) (ha : I64 a) : Calls Tryz.prog 33 #[.pointer (some ⟨b, 0, none⟩), .string s, .int .i64 a] w (IsDeed RDisk f b (Sf.cut t s a) w) :=
  (rcut_disk h.1 hf s a ha).mono (fun e w' h2 => h2.num (num_cut h.2 h.1.good s a))
theorem rfrename_any (h : RDisk w f t b) (hf : Sf.Few t) (s u : ByteArray) (hs : s.size ≤ maxLen) (hu : u.size ≤ maxLen) : Calls Tryz.prog 34 #[.pointer (some ⟨b, 0, none⟩), .string s, .string u] w (IsDeed RDisk f b (Sf.rename t s u) w) :=
  (rrename_disk h.1 hf s u hs hu).mono (fun e w' h2 => h2.num (num_rename h.2 h.1.good s u))
theorem rfremove_any (h : RDisk w f t b) (hf : Sf.Few t) (s : ByteArray) (hs : s.size ≤ maxLen) : Calls Tryz.prog 35 #[.pointer (some ⟨b, 0, none⟩), .string s] w (IsDeed RDisk f b (Sf.remove t s) w) :=
  (rremove_disk h.1 hf s).mono (fun e w' h2 => h2.num (num_remove h.2 h.1.good s))
theorem rfsync_any (h : RDisk w f t b) (hf : Sf.Few t) (s : ByteArray) (hs : s.size ≤ maxLen) : Calls Tryz.prog 36 #[.pointer (some ⟨b, 0, none⟩), .string s] w (IsDeed RDisk f b (Sf.sync t s) w) :=
  (rsync_disk h.1 hf s).mono (fun e w' h2 => h2.num (num_sync h.2 h.1.good s))
theorem rfsyncDir_any (h : RDisk w f t b) (hf : Sf.Few t) : Calls Tryz.prog 37 #[.pointer (some ⟨b, 0, none⟩)] w (IsDeed RDisk f b (Sf.syncDir t) w) :=
  (rsyncDir_disk h.1 hf).mono (fun e w' h2 => h2.num (num_syncDir h.2 h.1.good))
theorem rfarm_any (h : RDisk w f t b) (n : Int) (hn : I64 n) : Calls Tryz.prog 38 #[.pointer (some ⟨b, 0, none⟩), .int .i64 n] w (IsDeed RDisk f b (Sf.arm t n) w) :=
  (rarm_disk h.1 n hn).mono (fun e w' h2 => h2.num (num_arm h.2 h.1.good n))
theorem rfread_any (h : RDisk w f t b) (s : ByteArray) (hs : s.size ≤ maxLen) (a n : Int) (ha : I64 a) (hn : I64 n) : Calls Tryz.prog 50 #[.pointer (some ⟨b, 0, none⟩), .string s, .int .i64 a, .int .i64 n] w (IsLE yK (Sf.read t s a n) w) := rread_disk h.1 s a n ha hn
theorem rfsizeOf_any (h : RDisk w f t b) (s : ByteArray) (hs : s.size ≤ maxLen) : Calls Tryz.prog 52 #[.pointer (some ⟨b, 0, none⟩), .string s] w (IsNE (Sf.size t s) w) := rsize_disk h.1 s
theorem rfnames_any (h : RDisk w f t b) : Calls Tryz.prog 39 #[.pointer (some ⟨b, 0, none⟩)] w (IsL1 sK (Sf.names t) w) := rnames_disk h.1
theorem rfused_any (h : RDisk w f t b) : Calls Tryz.prog 43 #[.pointer (some ⟨b, 0, none⟩)] w (IsNum (Sf.used t) w) := rused_disk h.1
theorem rfroom_any (h : RDisk w f t b) : Calls Tryz.prog 45 #[.pointer (some ⟨b, 0, none⟩)] w (IsNum (Sf.roomOf t) w) := rroom_disk h.1
theorem rfacts_any (h : RDisk w f t b) : Calls Tryz.prog 47 #[.pointer (some ⟨b, 0, none⟩)] w (IsNum t.acts w) := racts_disk h.1
theorem rfdead_any (h : RDisk w f t b) : Calls Tryz.prog 49 #[.pointer (some ⟨b, 0, none⟩)] w (IsBool t.dead w) := rdead_disk h.1
theorem rffail_any (h : RDisk w f t b) (v : Value) (B : Nat) (l : List Int) (hv : Lv iK w B v l) (hB : B ≤ w.heap.size) : Calls Tryz.prog 15 #[.pointer (some ⟨b, 0, none⟩), v] w (fun e w' => ∃ (b' : Nat) (f' : Fp), e = .returned (.pointer (some ⟨b', 0, none⟩)) ∧ RDisk w' f' (Sf.fail t l) b' ∧ f'.From w.heap.size ∧ Below w.heap.size w w') :=
  (rfail_disk h.1 v B l hv hB).mono (fun e w' h2 => by
    obtain ⟨b', f', h3, h4, h5, h6⟩ := h2
    exact ⟨b', f', h3, ⟨h4, num_fail t l⟩, h5, h6⟩)
theorem rfcopyFS_any (h : RDisk w f t b) : Calls Tryz.prog 18 #[.pointer (some ⟨b, 0, none⟩)] w (IsDisk1 RDisk f t w) :=
  (rcopy_disk h.1).mono (fun e w' h2 => by
    obtain ⟨b', f', h3, h4, h5⟩ := h2
    exact ⟨b', f', h3, ⟨h4, h.2⟩, h5⟩)
end
end Go.Proofs.YtmcbjcbnckpfkaaGreat
namespace Go.Proofs.YtmcbjcbnckpfkaaGreat
open Go.RowKit
set_option linter.unusedVariables false
set_option maxHeartbeats 2000000 in
set_option maxRecDepth 100000 in
theorem rdid_any {w : World} {f : Fp} {t : Sf.St} {b : Nat} (h : RDisk w f t b) (hf : Sf.Few t) (x : Raw) (o : Sf.Op) (B : Nat) (hx : RawOk x) (hd : Deed w B x o) (hB : B ≤ w.heap.size) (hM : 0 < o.b.length → ∀ k, (Value.slice x.A x.n x.c).ownBlock = some k → ¬ f.M k) :
    Calls Tryz.prog 11 #[.pointer (some ⟨b, 0, none⟩), .agg (deedC x)] w (IsDeed RDisk f b (Sf.doOp t o) w) := by
  obtain ⟨h0, h1, h2, h3, h4⟩ := hd
  obtain ⟨c0, c1, c2, c3⟩ := hx
  obtain ⟨call', name', to', at', A, n, c⟩ := x
  obtain ⟨call, name, to, at_, bs⟩ := o
  simp only at h0 h1 h2 h3 h4 c0 c1 c2 c3 hM
  subst h0 h1 h2 h3
  have hD := rdisk_turned h (alloc_turned w (.cells #[.int .u8 (call : Nat), .string name, .string to, .int .i64 at_, .slice A n c] 35)) (fun _ h => h.elim)
  have hV : Lv yK (w.alloc (.cells #[.int .u8 (call : Nat), .string name, .string to, .int .i64 at_, .slice A n c] 35)) B (.slice A n c) bs := h4.below_ ((Below.refl B w).alloc hB _) (Nat.le_refl _)
  have hB1 : B ≤ (w.alloc (.cells #[.int .u8 (call : Nat), .string name, .string to, .int .i64 at_, .slice A n c] 35)).heap.size := by simp; omega
  unfold deedC
  clear h h4
  by_cases k0 : call = 0
  · have p0 : ((call : Int) == 0) = true := by rw [beq_iff_eq]; omega
    have HC := Lib.hid (rfcreate_any hD hf name c1)
    have HE : Hid (Sf.doOp t ⟨call, name, to, at_, bs⟩ = Sf.create t name) := by unfold Hid Sf.doOp; simp [k0]
    rw [HE.out]
    clear hD hV hB1 hM HE k0
    go_enter Tryz.func11, Tryz.ntmps11
    go_wp2_with fail
    ((with_reducible refine HC.out.mono ?_); rintro e w2 ⟨rfl, hr⟩)
    have HR := Lib.hid hr
    clear hr HC
    go_wp2
    go_ret
    exact IsDeed.of_alloc ⟨rfl, HR.out⟩
  · have q0 : ((call : Int) == 0) = false := by rw [beq_eq_false_iff_ne]; omega
    by_cases k1 : call = 1
    · have p1 : ((call : Int) == 1) = true := by rw [beq_iff_eq]; omega
      have HC := Lib.hid (rfappend_any hD hf name c1 _ B bs hV hB1 hM)
      have HE : Hid (Sf.doOp t ⟨call, name, to, at_, bs⟩ = Sf.append t name bs) := by unfold Hid Sf.doOp; simp [k1]
      rw [HE.out]
      clear hD hV hB1 hM HE k0 k1
      go_enter Tryz.func11, Tryz.ntmps11
      go_wp2_with fail
      ((with_reducible refine HC.out.mono ?_); rintro e w2 ⟨rfl, hr⟩)
      have HR := Lib.hid hr
      clear hr HC
      go_wp2
      go_ret
      exact IsDeed.of_alloc ⟨rfl, HR.out⟩
    · have q1 : ((call : Int) == 1) = false := by rw [beq_eq_false_iff_ne]; omega
      by_cases k2 : call = 2
      · have p2 : ((call : Int) == 2) = true := by rw [beq_iff_eq]; omega
        have HC := Lib.hid (rfwrite_any hD hf name c1 at_ c3 _ B bs hV hB1 hM)
        have HE : Hid (Sf.doOp t ⟨call, name, to, at_, bs⟩ = Sf.write t name at_ bs) := by unfold Hid Sf.doOp; simp [k2]
        rw [HE.out]
        clear hD hV hB1 hM HE k0 k1 k2
        go_enter Tryz.func11, Tryz.ntmps11
        go_wp2_with fail
        ((with_reducible refine HC.out.mono ?_); rintro e w2 ⟨rfl, hr⟩)
        have HR := Lib.hid hr
        clear hr HC
        go_wp2
        go_ret
        exact IsDeed.of_alloc ⟨rfl, HR.out⟩
      · have q2 : ((call : Int) == 2) = false := by rw [beq_eq_false_iff_ne]; omega
        by_cases k3 : call = 3
        · have p3 : ((call : Int) == 3) = true := by rw [beq_iff_eq]; omega
          have HC := Lib.hid (rfcut_any hD hf name c1 at_ c3)
          have HE : Hid (Sf.doOp t ⟨call, name, to, at_, bs⟩ = Sf.cut t name at_) := by unfold Hid Sf.doOp; simp [k3]
          rw [HE.out]
          clear hD hV hB1 hM HE k0 k1 k2 k3
          go_enter Tryz.func11, Tryz.ntmps11
          go_wp2_with fail
          ((with_reducible refine HC.out.mono ?_); rintro e w2 ⟨rfl, hr⟩)
          have HR := Lib.hid hr
          clear hr HC
          go_wp2
          go_ret
          exact IsDeed.of_alloc ⟨rfl, HR.out⟩
        · have q3 : ((call : Int) == 3) = false := by rw [beq_eq_false_iff_ne]; omega
          by_cases k4 : call = 4
          · have p4 : ((call : Int) == 4) = true := by rw [beq_iff_eq]; omega
            have HC := Lib.hid (rfrename_any hD hf name to c1 c2)
            have HE : Hid (Sf.doOp t ⟨call, name, to, at_, bs⟩ = Sf.rename t name to) := by unfold Hid Sf.doOp; simp [k4]
            rw [HE.out]
            clear hD hV hB1 hM HE k0 k1 k2 k3 k4
            go_enter Tryz.func11, Tryz.ntmps11
            go_wp2_with fail
            ((with_reducible refine HC.out.mono ?_); rintro e w2 ⟨rfl, hr⟩)
            have HR := Lib.hid hr
            clear hr HC
            go_wp2
            go_ret
            exact IsDeed.of_alloc ⟨rfl, HR.out⟩
          · have q4 : ((call : Int) == 4) = false := by rw [beq_eq_false_iff_ne]; omega
            by_cases k5 : call = 5
            · have p5 : ((call : Int) == 5) = true := by rw [beq_iff_eq]; omega
              have HC := Lib.hid (rfremove_any hD hf name c1)
              have HE : Hid (Sf.doOp t ⟨call, name, to, at_, bs⟩ = Sf.remove t name) := by unfold Hid Sf.doOp; simp [k5]
              rw [HE.out]
              clear hD hV hB1 hM HE k0 k1 k2 k3 k4 k5
              go_enter Tryz.func11, Tryz.ntmps11
              go_wp2_with fail
              ((with_reducible refine HC.out.mono ?_); rintro e w2 ⟨rfl, hr⟩)
              have HR := Lib.hid hr
              clear hr HC
              go_wp2
              go_ret
              exact IsDeed.of_alloc ⟨rfl, HR.out⟩
            · have q5 : ((call : Int) == 5) = false := by rw [beq_eq_false_iff_ne]; omega
              by_cases k6 : call = 6
              · have p6 : ((call : Int) == 6) = true := by rw [beq_iff_eq]; omega
                have HC := Lib.hid (rfsync_any hD hf name c1)
                have HE : Hid (Sf.doOp t ⟨call, name, to, at_, bs⟩ = Sf.sync t name) := by unfold Hid Sf.doOp; simp [k6]
                rw [HE.out]
                clear hD hV hB1 hM HE k0 k1 k2 k3 k4 k5 k6
                go_enter Tryz.func11, Tryz.ntmps11
                go_wp2_with fail
                ((with_reducible refine HC.out.mono ?_); rintro e w2 ⟨rfl, hr⟩)
                have HR := Lib.hid hr
                clear hr HC
                go_wp2
                go_ret
                exact IsDeed.of_alloc ⟨rfl, HR.out⟩
              · have q6 : ((call : Int) == 6) = false := by rw [beq_eq_false_iff_ne]; omega
                by_cases k7 : call = 7
                · have p7 : ((call : Int) == 7) = true := by rw [beq_iff_eq]; omega
                  have HC := Lib.hid (rfsyncDir_any hD hf)
                  have HE : Hid (Sf.doOp t ⟨call, name, to, at_, bs⟩ = Sf.syncDir t) := by unfold Hid Sf.doOp; simp [k7]
                  rw [HE.out]
                  clear hD hV hB1 hM HE k0 k1 k2 k3 k4 k5 k6 k7
                  go_enter Tryz.func11, Tryz.ntmps11
                  go_wp2_with fail
                  ((with_reducible refine HC.out.mono ?_); rintro e w2 ⟨rfl, hr⟩)
                  have HR := Lib.hid hr
                  clear hr HC
                  go_wp2
                  go_ret
                  exact IsDeed.of_alloc ⟨rfl, HR.out⟩
                · have q7 : ((call : Int) == 7) = false := by rw [beq_eq_false_iff_ne]; omega
                  by_cases k8 : call = 8
                  · have p8 : ((call : Int) == 8) = true := by rw [beq_iff_eq]; omega
                    have HC := Lib.hid (rfarm_any hD at_ c3)
                    have HE : Hid (Sf.doOp t ⟨call, name, to, at_, bs⟩ = Sf.arm t at_) := by unfold Hid Sf.doOp; simp [k8]
                    rw [HE.out]
                    clear hD hV hB1 hM HE k0 k1 k2 k3 k4 k5 k6 k7 k8
                    go_enter Tryz.func11, Tryz.ntmps11
                    go_wp2_with fail
                    ((with_reducible refine HC.out.mono ?_); rintro e w2 ⟨rfl, hr⟩)
                    have HR := Lib.hid hr
                    clear hr HC
                    go_wp2
                    go_ret
                    exact IsDeed.of_alloc ⟨rfl, HR.out⟩
                  · have q8 : ((call : Int) == 8) = false := by rw [beq_eq_false_iff_ne]; omega
                    have HE : Hid (Sf.doOp t ⟨call, name, to, at_, bs⟩ = (0, t)) := by unfold Hid Sf.doOp; simp only [k0, k1, k2, k3, k4, k5, k6, k7, k8, if_false]
                    rw [HE.out]
                    have HD := Lib.hid hD
                    clear hD hV hB1 hM HE
                    go_enter Tryz.func11, Tryz.ntmps11
                    go_wp2
                    go_ret
                    exact IsDeed.of_alloc ⟨rfl, f, HD.out, Fp.Next.refl _ _, Turned.refl _ _⟩
end Go.Proofs.YtmcbjcbnckpfkaaGreat
