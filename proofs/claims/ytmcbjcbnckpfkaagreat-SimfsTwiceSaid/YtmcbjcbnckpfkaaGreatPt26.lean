/-
  PfCy: simfs: Copy, of a disk all of whose rows are empty.
  RSfA: stookref14.done: a file behind an act.
  RSfB: stookref14: find, without.
-/
import Derived.Test.YtmcbjcbnckpfkaaGreatPt25
import Derived.Test.YtmcbjcbnckpfkaaGreatPt11
import Derived.Test.YtmcbjcbnckpfkaaGreatPt03
import Derived.BigRegion
import Derived.Test.YtmcbjcbnckpfkaaGreatPt09
import Derived.Test.YtmcbjcbnckpfkaaGreatPt02
import Derived.Deep.MidRow
namespace Go.Proofs.YtmcbjcbnckpfkaaGreat
open Go.RowKit
set_option linter.unusedVariables false
/-- Copies of those files that were gone over. -/
structure Cl (w : World) (who : Who) (t : Sf.St) (gb n : Nat) (gg ff : Int → Option RawX) (L : Int → Bool) : Prop where
  files : IsMp fM w gb n gg
  file : ∀ (i : Int) (x : RawX), gg i = some x → ∃ (m : Nat) (f : Sf.File), i = (m : Int) ∧ t.files[m]? = some f ∧ HasX w who m x f
  there : ∀ i : Int, fM.ok i → (ff i).isSome → L i = false → (gg i).isSome
  filesW : who gb = some .files
  lt : ∀ k, (who k).isSome → k < w.heap.size
section
variable {w w' : World} {who : Who} {t : Sf.St} {gb n : Nat} {gg ff : Int → Option RawX} {L : Int → Bool} {F : Nat → Prop}
theorem Cl.turned (h : Cl w who t gb n gg ff L) (ht : Turned F w w') (hF : ∀ k, F k → who k = none) : Cl w' who t gb n gg ff L := by
  have no : ∀ k r, who k = some r → ¬ F k := fun k r hk hf => by rw [hF k hf] at hk; cases hk
  have no2 : ∀ r k, F k → who k ≠ some r := fun r k hf hk => no k r hk hf
  exact ⟨h.files.turned_ ht (no _ _ h.filesW), fun i x hx => by
    obtain ⟨n, b, h1, h2, h3⟩ := h.file i x hx
    exact ⟨n, b, h1, h2, h3.turned ht fun k hk => ⟨no2 _ k hk, no2 _ k hk, no2 _ k hk, no2 _ k hk⟩⟩, h.there, h.filesW, fun k hk => Nat.lt_of_lt_of_le (h.lt k hk) ht.size⟩
theorem Cl.new (h : Cl w who t gb n gg ff L) {k : Nat} (hk : w.heap.size ≤ k) : who k = none := by
  cases hw : who k with
  | none => rfl
  | some r => have := h.lt k (by rw [hw]; rfl); omega
theorem Cl.more (h : Cl w who t gb n gg ff L) {m : Nat} {f : Sf.File} (hf : t.files[m]? = some f) (hr : f.row = []) (hok : FileOk f) {u v : Sl} {w5 w6 : World} (ht : Turned F w w5) (hF : ∀ k, F k → who k = none)
    (hu : OwnL yK w5 w.heap.size (slV u) f.sure) (hv : OwnL yK w5 w.heap.size (slV v) (Sf.now f)) (hap : Apart (slV u) (slV v)) {q : Nat}
    (hm : IsMp fM w6 gb q (fun k => if k = (m : Int) then some ⟨u, ⟨none, 0, 0⟩, v⟩ else gg k)) (hg : w5.grownBy w6 (some gb)) :
    ∃ who', Cl w6 who' t gb q (fun k => if k = (m : Int) then some ⟨u, ⟨none, 0, 0⟩, v⟩ else gg k) ff (fun z => L z && !decide (z = (m : Int))) ∧ ∀ k, (who' k).isSome → (who k).isSome ∨ w.heap.size ≤ k := by
  have hw5 := h.turned ht hF
  have r1 : More who (lab who (slV u) (.fsure m)) := lab_more fun k hk => .inl (h.new (hu.lt_ k hk).1)
  have r2 : More (lab who (slV u) (.fsure m)) (lab (lab who (slV u) (.fsure m)) (slV v) (.fnow m)) := lab_more fun k hk => by
    have hne : (slV u).ownBlock ≠ some k := fun h => hap k h hk
    rw [lab_old hne]
    exact .inl (h.new (hv.lt_ k hk).1)
  obtain ⟨who', hwho⟩ : ∃ who', lab (lab who (slV u) (.fsure m)) (slV v) (.fnow m) = who' := ⟨_, rfl⟩
  have hmore : More who who' := by rw [← hwho]; exact r1.trans r2
  have hsm : ∀ k, (who' k).isSome → (who k).isSome ∨ (w.heap.size ≤ k ∧ k < w5.heap.size) := fun k hk => by
    rw [← hwho] at hk
    rcases lab_some hk with hk | hk
    · rcases lab_some hk with hk | hk
      · exact .inl hk
      · exact .inr (hu.lt_ k hk)
    · exact .inr (hv.lt_ k hk)
  have hT : Turned (fun k => k = gb) w5 w6 := (Turned.of_grown hg).mono (fun k _ e => (Option.some.inj e).symm)
  have off : ∀ r, r ≠ Role.files → ∀ k, k = gb → who k ≠ some r := fun r h1 k hk e => by
    rw [hk, h.filesW] at e; exact h1 (Option.some.inj e).symm
  have newoff : ∀ k, w.heap.size ≤ k → ¬ (k = gb) := fun k hk e => by
    have := h.lt gb (by rw [h.filesW]; rfl); omega
  have hs6 := hT.size
  refine ⟨who', ⟨hm, fun i x hx => ?_, fun i hi hs hl => ?_, hmore _ _ h.filesW, fun k hk => ?_⟩, fun k hk => (hsm k hk).imp id (fun h => h.1)⟩
  · by_cases ei : i = (m : Int)
    · rw [if_pos ei] at hx
      obtain rfl := Option.some.inj hx
      refine ⟨m, f, ei, hf, ⟨?_, ?_, ?_, ?_, ⟨[], by rw [hr]; rfl, OwnL.nil_ _ _ _, fun j r a hr => by simp at hr⟩, Bears.nil_ _ _, fun _ => rfl, hok⟩⟩
      · exact (hu.turned_ hT (fun k hk e => newoff k (hu.lt_ k hk).1 e)).mono_ (Nat.zero_le _)
      · rw [← hwho]; exact (lab_bears who (slV u) (.fsure m)).more r2
      · exact (hv.turned_ hT (fun k hk e => newoff k (hv.lt_ k hk).1 e)).mono_ (Nat.zero_le _)
      · rw [← hwho]; exact lab_bears _ _ _
    · rw [if_neg ei] at hx
      obtain ⟨n, b', h1, h2, h3⟩ := hw5.file i x hx
      exact ⟨n, b', h1, h2, (h3.turned hT fun k hk => ⟨off _ (by simp) k hk, off _ (by simp) k hk, off _ (by simp) k hk, off _ (by simp) k hk⟩).more hmore⟩
  · by_cases ei : i = (m : Int)
    · rw [if_pos ei]; rfl
    · rw [if_neg ei]
      refine h.there i hi hs ?_
      simp only [ei, decide_false, Bool.not_false, Bool.and_true] at hl
      exact hl
  · rcases hsm k hk with hk | hk
    · have := hw5.lt k hk; omega
    · omega
end
/-- How many elements a map has: some number. -/
theorem fM_len {w : World} {b n : Nat} {f : Int → Option RawX} (h : IsMp fM w b n f) (ty : TypeId) : ∃ k : Int, (Builtin.len_ #[77] ty #[.map (some b)]).run Tryz.prog w = .ok (.int .i64 k) w := by
  obtain ⟨D, h1, h2⟩ := h
  exact ⟨_, h1.len fM.under ty⟩
theorem makeMap_hintF {t k e : TypeId} (ht : Tryz.prog.underlying t = some (.map k e)) (q : IntKind) (n : Int) (w : World) : (Instr.makeMap t (some (.int q n))).run Tryz.prog w = .ok (.map (some w.heap.size)) (w.alloc (.map #[] 0)) := makeMap_hint ht q n w
section
variable {w : World} {fp : Fp} {t : Sf.St} {b : Nat}
set_option maxHeartbeats 8000000 in
set_option maxRecDepth 100000 in
theorem pcopyFS_any (h : PDisk w fp t b) (hr0 : t.row = []) (hfr : ∀ f ∈ t.files, f.row = []) : Calls Tryz.prog 17 #[.pointer (some ⟨b, 0, none⟩)] w (IsDisk1 PDisk fp t w) := by
  obtain ⟨who, bf, bs, bn, vr, ff, rn, h⟩ := h
  have hvr := h.body.nil hr0
  subst hvr
  have CM := Lib.hid (pmade_cell (w := w) (b := b) (some bf) (h.cell rfl))
  have c0 : w.cell? ⟨b, 0, none⟩ = some (.int .i64 (t.room : Nat)) := h.cell rfl
  have c1 : w.cell? ⟨b, 1, none⟩ = some (.map (some bf)) := h.cell rfl
  have c2 : w.cell? ⟨b, 2, none⟩ = some (.int .i64 (t.files.length : Nat)) := h.cell rfl
  have c3 : w.cell? ⟨b, 3, none⟩ = some (.map (some bs)) := h.cell rfl
  have c4 : w.cell? ⟨b, 4, none⟩ = some (.slice none 0 0) := h.cell rfl
  have c5 : w.cell? ⟨b, 5, none⟩ = some (.map (some bn)) := h.cell rfl
  have c6 : w.cell? ⟨b, 6, none⟩ = some (.int .i64 (t.acts : Nat)) := h.cell rfl
  have c7 : w.cell? ⟨b, 7, none⟩ = some (.int .i64 (t.fuse : Nat)) := h.cell rfl
  have c8 : w.cell? ⟨b, 8, none⟩ = some (.bool t.dead) := h.cell rfl
  obtain ⟨ob, hob⟩ : ∃ ob, w.heap.size = ob := ⟨_, rfl⟩
  have hbl : b < ob := by rw [← hob]; exact h.lt b (by rw [h.mine]; rfl)
  obtain ⟨w1, hw1⟩ : ∃ w1, w.alloc (.cells #[.int .i64 (t.room : Nat), .map (some bf), .int .i64 (t.files.length : Nat), .map (some bs), .slice none 0 0, .map (some bn), .int .i64 (t.acts : Nat), .int .i64 (t.fuse : Nat), .bool t.dead] 80) = w1 := ⟨_, rfl⟩
  have hs1 : w1.heap.size = ob + 1 := by rw [← hw1, ← hob]; simp
  have hb1 : Below ob w w1 := by rw [← hw1, ← hob]; exact (Below.refl _ _).alloc (Nat.le_refl _) _
  have hh1 : IsHead w1 ob (headP t bf bs bn ⟨none, 0, 0⟩) := by rw [← hw1, ← hob]; exact heap_alloc_new _ _
  have d1 : w1.cell? ⟨b, 1, none⟩ = some (.map (some bf)) := (hb1.cell (p := ⟨b, 1, none⟩) hbl).trans c1
  obtain ⟨kl, hkl⟩ := fM_len (h.body.files.below_ hb1 (by rw [← hob]; exact h.body.files.lt_)) 3
  have hmk := fun q n w => makeMap_hintF Tryz.underlying77 q n w
  obtain ⟨w2, hw2⟩ : ∃ w2, w1.alloc (.map #[] 0) = w2 := ⟨_, rfl⟩
  have hs2 : w2.heap.size = ob + 2 := by rw [← hw2]; simp [hs1]
  have hM2 : IsMp fM w2 (ob + 1) 0 (fun _ => none) := by rw [← hw2, ← hs1]; exact IsMp.made fM w1
  have hT2 : Turned (fun _ => False) w1 w2 := by rw [← hw2]; exact (Turned.refl _ _).alloc _
  have hh2 : IsHead w2 ob (headP t bf bs bn ⟨none, 0, 0⟩) := (hT2.block ob (by omega) (fun h => h)).trans hh1
  have d21 : w2.cell? ⟨ob, 1, none⟩ = some (.map (some bf)) := head_cellP hh2 rfl
  have z21 : w2.frozen? ⟨ob, 1, none⟩ = false := frozen_of_row w2 ob 1 _ _ hh2
  have hh3 := head_setP hh2 1 (.map (some (ob + 1))) (C' := headP t (ob + 1) bs bn ⟨none, 0, 0⟩) rfl
  have hT3 : Turned (fun k => k = ob) w2 (w2.setCell ⟨ob, 1, none⟩ (.map (some (ob + 1)))) := (Turned.refl (fun k => k = ob) w2).setCell (p := ⟨ob, 1, none⟩) (fun _ => rfl) _
  obtain ⟨w3, hw3⟩ : ∃ w3, w2.setCell ⟨ob, 1, none⟩ (.map (some (ob + 1))) = w3 := ⟨_, rfl⟩
  rw [hw3] at hh3 hT3
  have hM3 := hM2.turned_ hT3 (by omega)
  have hs3 : ob + 2 ≤ w3.heap.size := by have := hT3.size; omega
  have HB3 : Hid (Below ob w w3) := by
    have t1 : Turned (fun k => ob ≤ k) w w1 := Turned.of_below hb1
    have t2 := t1.trans hT2 (fun k _ h => h.elim)
    have t3 := t2.trans hT3 (fun k _ h => by omega)
    exact t3.below (by omega) (fun k h => h)
  have hP3 := h.below (by rw [hob]; exact HB3.out)
  have d31 : w3.cell? ⟨b, 1, none⟩ = some (.map (some bf)) := hP3.cell rfl
  have HF3 := Lib.hid hP3.body.files
  have HH3 := Lib.hid hh3
  have HM3 := Lib.hid hM3
  have HS3 := Lib.hid hs3
  have HH := Lib.hid h
  have HOB := Lib.hid hob
  have HBL : Hid (b < ob) := hbl
  have HR0 : Hid (t.row = []) := hr0
  have HFR := Lib.hid hfr
  clear hP3 hh3 hM3 hT3 hh2 hT2 hM2 hh1 hb1 h hr0 hfr hs3
  go_enter Tryz.func17, Tryz.ntmps17
  go_wp2_with fail
  refine CM.out.mono ?_
  rintro e1 w0 ⟨rfl, rfl⟩
  clear CM
  go_wp2_with (at_range; refine wpList_range_mp _ fM rfl _ rfl bf _ _ rfl HF3.out ?_; intro w4 cnt0 hrg0 hcnt hg0 hs0)
  go_frame
  have HR0 := Lib.hid hrg0
  have HCN := Lib.hid hcnt
  have HS4 : Hid (w4.heap.size = w3.heap.size + 1) := hs0
  have HT4 : Hid (Turned (fun _ => False) w3 w4) := (Turned.of_grown hg0).mono fun k _ h => by cases h
  have HM4 := HM3.out.turned_ HT4.out (fun h => h)
  have HCl4 : Hid (Cl w4 (fun k => if k = ob + 1 then some .files else none) t (ob + 1) 0 (fun _ => none) ff (fun x => (ff x).isSome)) :=
    ⟨HM4, fun i x hx => (by cases hx), fun i _ h1 h2 => (by rw [h1] at h2; cases h2), if_pos rfl, fun k hk => by
      by_cases e : k = ob + 1
      · have := HS4.out; have := HS3.out; omega
      · rw [if_neg e] at hk; cases hk⟩
  have HLO4 : Hid (∀ k, ((fun k => if k = ob + 1 then some Role.files else none : Who) k).isSome → k = ob + 1 ∨ w3.heap.size + 1 ≤ k) := fun k hk => by
    by_cases e : k = ob + 1
    · exact .inl e
    · have hk' : (if k = ob + 1 then some Role.files else none).isSome := hk
      rw [if_neg e] at hk'; cases hk'
  have HT34 : Hid (Turned (fun k => ob + 1 ≤ k) w3 w4) := HT4.out.mono fun k _ h => h.elim
  have HBFL : Hid (bf < ob ∧ bs < ob ∧ bn < ob) := ⟨by rw [← HOB.out]; exact HH.out.body.files.lt_, by rw [← HOB.out]; exact HH.out.body.sure.lt_, by rw [← HOB.out]; exact HH.out.body.names.lt_⟩
  have HAC : Hid (64 + t.acts + 0 < maxLen ∧ t.files.length < 9223372036854775807) := by
    have h1 := HH.out.good.acts
    have h2 := HH.out.good.files
    exact ⟨by simp only [maxLen]; omega, by omega⟩
  -- what is read, in whatever world
  have HBE : Hid (∀ wr, Turned (fun k => ob + 1 ≤ k) w3 wr → Below ob w wr) := fun wr ht => ((Turned.of_below HB3.out).trans ht (fun k _ h => by omega)).below (by have := HOB.out; omega) (fun k h => h)
  have HHD : Hid (∀ wr, Turned (fun k => ob + 1 ≤ k) w3 wr → IsHead wr ob (headP t (ob + 1) bs bn ⟨none, 0, 0⟩)) := fun wr ht => (ht.block ob (by have := HS3.out; omega) (by omega)).trans HH3.out
  clear hrg0 hcnt hg0 hs0 c0 c1 c2 c3 c4 c5 c6 c7 c8 hw1 hw2 hw3 d1 d21 z21 d31 hkl hmk HM4 HM3 HF3 hs1 hs2 hbl
  go_loopw [4] (fun _ wr => ∃ (L : Int → Bool) (cnt : Nat) (who' : Who) (gg : Int → Option RawX), Hid (IsRg fM wr bf w3.heap.size (64 + t.acts + 0) ff L cnt) ∧ cnt ≤ cnt0 ∧ Hid (Cl wr who' t (ob + 1) (cnt0 - cnt) gg ff L) ∧ Hid (Turned (fun k => ob + 1 ≤ k) w3 wr) ∧ Hid (∀ k, (who' k).isSome → k = ob + 1 ∨ w3.heap.size + 1 ≤ k)) (fun _ wr => wr.rangeLeft bf w3.heap.size)
  case atStart => exact ⟨_, cnt0, _, _, HR0.out, Nat.le_refl _, by rw [Nat.sub_self]; exact HCl4.out, HT34.out, HLO4.out⟩
  case round =>
    obtain ⟨L, cnt, who', gg, HRG, hcc, HCL, HTR, HLO⟩ := hrel
    clear HR0 HCl4 HT34 HLO4
    go_wp2_with (at_next; refine wpList_next_mp _ fM fM_ok rfl _ rfl bf w3.heap.size _ _ L cnt rfl HRG.out ?_ ?_)
    · intro hl0
      have hBr := HBE.out wr HTR.out
      have HPr := Lib.hid (HH.out.below (by rw [HOB.out]; exact hBr))
      have HBr := Lib.hid hBr
      have HHr := Lib.hid (HHD.out wr HTR.out)
      have hsr : w3.heap.size + 1 ≤ wr.heap.size := by have := HRG.out.lt_; omega
      have HSR := Lib.hid hsr
      obtain ⟨S, hS⟩ : ∃ S : Nat → Prop, (fun k => k = ob ∨ wr.heap.size ≤ k) = S := ⟨_, rfl⟩
      have HSI : Hid (∀ k, S k ↔ (k = ob ∨ wr.heap.size ≤ k)) := fun k => by rw [← hS]
      have HRD : Hid (∀ w', Turned S wr w' → w'.cell? ⟨b, 3, none⟩ = some (.map (some bs)) ∧ w'.cell? ⟨b, 4, none⟩ = some (.slice none 0 0) ∧ w'.cell? ⟨b, 5, none⟩ = some (.map (some bn))) := fun w' ht => by
        have h := HPr.out.turned ht (fun k hk => by
          cases hw : who k with
          | none => rfl
          | some r =>
            have h1 := HH.out.lt k (by rw [hw]; rfl)
            have h2 := (HSI.out k).1 hk
            have h3 := HOB.out
            have h4 := HS3.out
            omega)
        exact ⟨h.cell rfl, h.cell rfl, h.cell rfl⟩
      have HS0 : Hid (Turned S wr wr.drew) := (Turned.refl S wr).drew
      have CS := Lib.hid (pmclone_any bs _ _ wr.drew HPr.out.body.sure.drew_)
      have HND : Hid (∀ w', Below wr.heap.size wr w' → IsMp dM w' bn (64 + t.acts + 0) (Sf.dirF t.seen)) := fun w' hb => HPr.out.body.names.below_ hb HPr.out.body.names.lt_
      clear hBr hsr hS HRG
      go_wp2
      refine wp_region_held_drew (S := fun w' => Turned S wr w') (by kernel_rfl) HS0.out (fun hH => ?_)
      refine wpAnyH_take (i := 0) (v := ?_) rfl (by kernel_rfl) (by kernel_rfl) (by kernel_rfl) (fun _ _ _ h => h) (Or.inl ⟨by rfl, (by intro w' hSw; go_simp; first | done | with_reducible rfl)⟩) hH ?_
      try simp only [Act.put, List.getElem_toArray, List.getElem_cons_zero, List.setIfInBounds_toArray, List.set_cons_zero, List.set_cons_succ]
      refine wpAnyH_take (i := 1) (v := ?_) rfl (by kernel_rfl) (by kernel_rfl) (by kernel_rfl) (fun _ _ _ h => h) (Or.inl ⟨by rfl, (by intro w' hSw; go_simp; first | done | with_reducible rfl)⟩) hH ?_
      try simp only [Act.put, List.getElem_toArray, List.getElem_cons_succ, List.getElem_cons_zero, List.setIfInBounds_toArray, List.set_cons_zero, List.set_cons_succ]
      refine wpAnyH_take (i := 2) (v := ?_) rfl (by kernel_rfl) (by kernel_rfl) (by kernel_rfl) (fun _ _ _ h => h) (Or.inl ⟨by rfl, (by intro w' hSw; go_simp; first | done | with_reducible rfl)⟩) hH ?_
      try simp only [Act.put, List.getElem_toArray, List.getElem_cons_succ, List.getElem_cons_zero, List.setIfInBounds_toArray, List.set_cons_zero, List.set_cons_succ]
      refine wpAnyH_take (i := 3) (v := ?_) rfl (by kernel_rfl) (by kernel_rfl) (by kernel_rfl) (fun _ _ _ h => h) (Or.inl ⟨by rfl, (by intro w' hSw; obtain ⟨s0, s1, s2⟩ := HRD.out w' hSw; go_simp; first | done | with_reducible rfl)⟩) hH ?_
      try simp only [Act.put, List.getElem_toArray, List.getElem_cons_succ, List.getElem_cons_zero, List.setIfInBounds_toArray, List.set_cons_zero, List.set_cons_succ]
      refine wpAnyH_take (i := 5) (v := ?_) rfl (by kernel_rfl) (by kernel_rfl) (by kernel_rfl) (fun _ _ _ h => h) (Or.inl ⟨by rfl, (by intro w' hSw; go_simp; first | done | with_reducible rfl)⟩) hH ?_
      try simp only [Act.put, List.getElem_toArray, List.getElem_cons_succ, List.getElem_cons_zero, List.setIfInBounds_toArray, List.set_cons_zero, List.set_cons_succ]
      refine wpAnyH_take (i := 6) (v := ?_) rfl (by kernel_rfl) (by kernel_rfl) (by kernel_rfl) (fun _ _ _ h => h) (Or.inl ⟨by rfl, (by intro w' hSw; go_simp; first | done | with_reducible rfl)⟩) hH ?_
      try simp only [Act.put, List.getElem_toArray, List.getElem_cons_succ, List.getElem_cons_zero, List.setIfInBounds_toArray, List.set_cons_zero, List.set_cons_succ]
      refine wpAnyH_take (i := 7) (v := ?_) rfl (by kernel_rfl) (by kernel_rfl) (by kernel_rfl) (fun _ _ _ h => h) (Or.inl ⟨by rfl, (by intro w' hSw; go_simp; first | done | with_reducible rfl)⟩) hH ?_
      try simp only [Act.put, List.getElem_toArray, List.getElem_cons_succ, List.getElem_cons_zero, List.setIfInBounds_toArray, List.set_cons_zero, List.set_cons_succ]
      refine wpAnyH_take (i := 8) (v := ?_) rfl (by kernel_rfl) (by kernel_rfl) (by kernel_rfl) (fun _ _ _ h => h) (Or.inl ⟨by rfl, (by intro w' hSw; obtain ⟨s0, s1, s2⟩ := HRD.out w' hSw; go_simp; first | done | with_reducible rfl)⟩) hH ?_
      try simp only [Act.put, List.getElem_toArray, List.getElem_cons_succ, List.getElem_cons_zero, List.setIfInBounds_toArray, List.set_cons_zero, List.set_cons_succ]
      refine wpAnyH_ready (rs := [4]) (by kernel_rfl) (by simp) ?_
      refine AllReadyH.cons rfl (fun K hK => ?_) AllReadyH.nil
      go_simp
      refine CS.out.mono ?_
      rintro e5 w5 ⟨rfl, hm5, hb5, hs5⟩
      have hB5 : Below wr.heap.size wr w5 := ((Below.refl wr.heap.size wr).drew).trans hb5
      have HM5 : Hid (IsMp dM w5 wr.heap.size (64 + t.acts + 0) (Sf.dirF t.sure)) := hm5
      have HB5 := Lib.hid hB5
      have HS5 : Hid (w5.heap.size = wr.heap.size + 1) := hs5
      have HTO : Hid (∀ w', Below wr.heap.size wr w' → Turned S wr w') := fun w' h => (Turned.of_below h).mono fun k _ h => (HSI.out k).2 (.inr h)
      have CN := Lib.hid (pmclone_any bn _ _ w5 (HND.out w5 hB5))
      refine hK.out _ _ (HTO.out _ hB5) (fun hH => ?_)
      clear hK K CS hm5 hb5 hs5 hB5
      try simp only [Act.put, List.getElem_toArray, List.getElem_cons_succ, List.getElem_cons_zero, List.setIfInBounds_toArray, List.set_cons_zero, List.set_cons_succ]
      refine wpAnyH_ready (rs := [9]) (by kernel_rfl) (by simp) ?_
      refine AllReadyH.cons rfl (fun K hK => ?_) AllReadyH.nil
      go_simp
      refine CN.out.mono ?_
      rintro e6 w6 ⟨rfl, hm6, hb6, hs6⟩
      have hB6 : Below wr.heap.size wr w6 := HB5.out.trans (hb6.mono (by have := HS5.out; omega))
      have HM6 : Hid (IsMp dM w6 (wr.heap.size + 1) (64 + t.acts + 0) (Sf.dirF t.seen)) := by have h := hm6; rw [HS5.out] at h; exact h
      have HM5b : Hid (IsMp dM w6 wr.heap.size (64 + t.acts + 0) (Sf.dirF t.sure)) := HM5.out.below_ hb6 (by have := HS5.out; omega)
      have HB6 := Lib.hid hB6
      have HS6 : Hid (w6.heap.size = wr.heap.size + 2) := by unfold Hid; rw [hs6, HS5.out]
      have hh6 : IsHead w6 ob (headP t (ob + 1) bs bn ⟨none, 0, 0⟩) := (hB6.block ob (by have := HSR.out; have := HS3.out; omega)).trans HHr.out
      rw [HS5.out]
      refine hK.out _ _ (HTO.out _ hB6) (fun hH => ?_)
      clear hK K CN hm6 hb6 hs6 hB6
      try simp only [Act.put, List.getElem_toArray, List.getElem_cons_succ, List.getElem_cons_zero, List.setIfInBounds_toArray, List.set_cons_zero, List.set_cons_succ]
      refine wpAnyH_take (i := 10) (v := ?_) rfl (by kernel_rfl) (by kernel_rfl) (by kernel_rfl) (fun _ _ _ h => h) (Or.inl ⟨by rfl, (by intro w' hSw; go_simp; first | done | with_reducible rfl)⟩) hH ?_
      try simp only [Act.put, List.getElem_toArray, List.getElem_cons_succ, List.getElem_cons_zero, List.setIfInBounds_toArray, List.set_cons_zero, List.set_cons_succ]
      have d63 : w6.cell? ⟨ob, 3, none⟩ = some (.map (some bs)) := head_cellP hh6 rfl
      have z63 : w6.frozen? ⟨ob, 3, none⟩ = false := frozen_of_row w6 ob 3 _ _ hh6
      have hh7 := head_setP hh6 3 (.map (some wr.heap.size)) (C' := headP t (ob + 1) wr.heap.size bn ⟨none, 0, 0⟩) rfl
      have hT7 : Turned (fun k => k = ob) w6 (w6.setCell ⟨ob, 3, none⟩ (.map (some wr.heap.size))) := (Turned.refl (fun k => k = ob) w6).setCell (p := ⟨ob, 3, none⟩) (fun _ => rfl) _
      obtain ⟨w7, hw7⟩ : ∃ w7, w6.setCell ⟨ob, 3, none⟩ (.map (some wr.heap.size)) = w7 := ⟨_, rfl⟩
      rw [hw7] at hh7 hT7
      refine wpAnyH_ready (rs := [11]) (by kernel_rfl) (by simp) ?_
      refine AllReadyH.cons rfl (fun K hK => ?_) AllReadyH.nil
      go_simp
      have hT17 : Turned S wr w7 := (HTO.out _ HB6.out).trans hT7 (fun k _ h => (HSI.out k).2 (.inl h))
      refine hK.out _ _ hT17 (fun hH => ?_)
      clear hK K
      try simp only [Act.put, List.getElem_toArray, List.getElem_cons_succ, List.getElem_cons_zero, List.setIfInBounds_toArray, List.set_cons_zero, List.set_cons_succ]
      refine wpAnyH_take (i := 12) (v := ?_) rfl (by kernel_rfl) (by kernel_rfl) (by kernel_rfl) (fun _ _ _ h => h) (Or.inl ⟨by rfl, (by intro w' hSw; go_simp; first | done | with_reducible rfl)⟩) hH ?_
      try simp only [Act.put, List.getElem_toArray, List.getElem_cons_succ, List.getElem_cons_zero, List.setIfInBounds_toArray, List.set_cons_zero, List.set_cons_succ]
      have d75 : w7.cell? ⟨ob, 5, none⟩ = some (.map (some bn)) := head_cellP hh7 rfl
      have z75 : w7.frozen? ⟨ob, 5, none⟩ = false := frozen_of_row w7 ob 5 _ _ hh7
      have hh8 := head_setP hh7 5 (.map (some (wr.heap.size + 1))) (C' := headP t (ob + 1) wr.heap.size (wr.heap.size + 1) ⟨none, 0, 0⟩) rfl
      have hT8 : Turned (fun k => k = ob) w6 (w7.setCell ⟨ob, 5, none⟩ (.map (some (wr.heap.size + 1)))) := hT7.setCell (p := ⟨ob, 5, none⟩) (fun _ => rfl) _
      have hT18 : Turned S wr (w7.setCell ⟨ob, 5, none⟩ (.map (some (wr.heap.size + 1)))) := hT17.setCell (p := ⟨ob, 5, none⟩) (fun _ => (HSI.out ob).2 (.inl rfl)) _
      obtain ⟨w8, hw8⟩ : ∃ w8, w7.setCell ⟨ob, 5, none⟩ (.map (some (wr.heap.size + 1))) = w8 := ⟨_, rfl⟩
      rw [hw8] at hh8 hT8 hT18
      refine wpAnyH_ready (rs := [13]) (by kernel_rfl) (by simp) ?_
      refine AllReadyH.cons rfl (fun K hK => ?_) AllReadyH.nil
      go_simp
      refine hK.out _ _ hT18 (fun hH => ?_)
      clear hK K
      try simp only [Act.put, List.getElem_toArray, List.getElem_cons_succ, List.getElem_cons_zero, List.setIfInBounds_toArray, List.set_cons_zero, List.set_cons_succ]
      refine wpAnyH_done (by kernel_rfl) ?_ _
      obtain ⟨f0, f1, f2⟩ := HRD.out w8 hT18
      have d84 : w8.cell? ⟨ob, 4, none⟩ = some (.slice none 0 0) := head_cellP hh8 rfl
      have z84 : w8.frozen? ⟨ob, 4, none⟩ = false := frozen_of_row w8 ob 4 _ _ hh8
      have hh9 := head_setP hh8 4 (.slice none 0 0) (C' := headP t (ob + 1) wr.heap.size (wr.heap.size + 1) ⟨none, 0, 0⟩) rfl
      have hT9 : Turned (fun k => k = ob) w6 (w8.setCell ⟨ob, 4, none⟩ (.slice none 0 0)) := hT8.setCell (p := ⟨ob, 4, none⟩) (fun _ => rfl) _
      obtain ⟨w9, hw9⟩ : ∃ w9, w8.setCell ⟨ob, 4, none⟩ (.slice none 0 0) = w9 := ⟨_, rfl⟩
      rw [hw9] at hh9 hT9
      have HH9 := Lib.hid hh9
      have HT9 := Lib.hid hT9
      clear hH hh6 hh7 hT7 hT17 hh8 hT8 hT18 hh9 hT9 d63 z63 hw7 d75 z75 hw8 f0 f2
      go_wp2_with fail
      refine (pclipN_nil w8).mono ?_
      rintro e9 w8' ⟨rfl, rfl⟩
      go_wp2
      go_ret
      obtain ⟨sz, hsz⟩ : ∃ sz, wr.heap.size = sz := ⟨_, rfl⟩
      rw [hsz] at HM5b HM6 HH9 HS6 HB6 HSR
      have hCL6 := HCL.out.turned (Turned.of_below (show Below wr.heap.size wr w6 by rw [hsz]; exact HB6.out)) (fun k hk => HCL.out.new hk)
      have hob1 : who' ob = none := by
        cases hw : who' ob with
        | none => rfl
        | some r => have h1 := HLO.out ob (by rw [hw]; rfl); have h2 := HS3.out; omega
      have hCL9 := hCL6.turned HT9.out (fun k hk => by rw [hk]; exact hob1)
      obtain ⟨who2, hwho⟩ : ∃ who2 : Who, (fun k => if k = ob then some Role.head else if k = sz then some Role.sure else if k = sz + 1 then some Role.names else who' k) = who2 := ⟨_, rfl⟩
      have hso : ob + 2 ≤ sz := by have := HSR.out; have := HS3.out; omega
      have hmore : More who' who2 := fun k r hk => by
        have hlt := HCL.out.lt k (by rw [hk]; rfl)
        have hne : k ≠ ob := fun e => by rw [e, hob1] at hk; cases hk
        rw [← hwho]
        show (if k = ob then some Role.head else if k = sz then some Role.sure else if k = sz + 1 then some Role.names else who' k) = some r
        rw [if_neg hne, if_neg (by omega), if_neg (by omega), hk]
      have h2o : who2 ob = some .head := by rw [← hwho]; exact if_pos rfl
      have h2s : who2 sz = some .sure := by rw [← hwho]; exact (if_neg (by omega)).trans (if_pos rfl)
      have h2n : who2 (sz + 1) = some .names := by rw [← hwho]; exact (if_neg (by omega)).trans ((if_neg (by omega)).trans (if_pos rfl))
      have hsm : ∀ k, (who2 k).isSome → (who' k).isSome ∨ k = ob ∨ k = sz ∨ k = sz + 1 := fun k hk => by
        rw [← hwho] at hk
        by_cases e1 : k = ob
        · exact .inr (.inl e1)
        · by_cases e2 : k = sz
          · exact .inr (.inr (.inl e2))
          · by_cases e3 : k = sz + 1
            · exact .inr (.inr (.inr e3))
            · have hk' : (if k = ob then some Role.head else if k = sz then some Role.sure else if k = sz + 1 then some Role.names else who' k).isSome := hk
              rw [if_neg e1, if_neg e2, if_neg e3] at hk'
              exact .inl hk'
      have hm5 : IsMp dM w9 sz (64 + t.acts + 0) (Sf.dirF t.sure) := HM5b.out.turned_ HT9.out (by omega)
      have hm6 : IsMp dM w9 (sz + 1) (64 + t.acts + 0) (Sf.dirF t.seen) := HM6.out.turned_ HT9.out (by omega)
      have hs9 := HT9.out.size
      have hrn : rn = [] := by
        have h1 := HH.out.body.hrow
        rw [HR0.out] at h1
        have h2 := congrArg List.length h1
        rw [Sf.dirs_len] at h2
        exact List.eq_nil_of_length_eq_zero h2.symm
      have hse : t.seen = t.sure := by have h1 := HH.out.body.hseen; rw [hrn] at h1; exact h1
      have hlo2 : ∀ k, (who2 k).isSome → ob ≤ k := fun k hk => by
        rcases hsm k hk with h | h | h | h
        · have h1 := HLO.out k h; have h2 := HS3.out; omega
        · omega
        · omega
        · omega
      refine ⟨ob, fpOf who2, rfl, ⟨who2, ob + 1, sz, sz + 1, ⟨none, 0, 0⟩, gg, [], HH9.out, ⟨hCL9.files.mono_ (by have := HCN.out; omega), hm6, hm5, OwnL.nil_ _ _ _, HR0.out, hse, fun _ => rfl, fun i x hx => ?_, fun m hmr => ?_, hmore _ _ HCL.out.filesW, h2n, h2s, Bears.nil_ _ _⟩, HH.out.good, h2o, fun k => Iff.rfl, fun k h => h, fun k hk => ?_⟩, fun k hk => by rw [HOB.out]; exact hlo2 k hk, fun k hk => hk.elim, ?_⟩
      · obtain ⟨m, f, h1, h2, h3⟩ := hCL9.file i x hx
        exact ⟨m, f, h1, h2, h3.more hmore⟩
      · have h1 := HH.out.body.there m hmr
        obtain ⟨d, hd, e, he, hem⟩ := hmr
        have hml := (HH.out.good.lens d hd).2 e he
        have hok : fM.ok (m : Int) := WalkArith.wf_i64 (by have := HAC.out.2; omega)
        exact hCL9.there (m : Int) hok h1 (hl0 _ hok)
      · rcases hsm k hk with h | h | h | h
        · exact hCL9.lt k h
        · have := HS6.out; omega
        · have := HS6.out; omega
        · have := HS6.out; omega
      · rw [HOB.out]
        exact (((Turned.of_below HBr.out).trans (Turned.of_below HB6.out) (fun k _ h => by omega)).trans HT9.out (fun k _ h => by omega)).below (by have := HOB.out; omega) (fun k h => h)
    · intro x c w7 cnt1 hx hLx hfx hrg1 hlt hg1 hs1 hen
      obtain ⟨m, f, rfl, hf, hX⟩ := HH.out.body.file x c hfx
      have hml := (List.getElem?_eq_some_iff.1 hf).1
      have hrf : f.row = [] := HFR.out f (by
        obtain ⟨h1, h2⟩ := List.getElem?_eq_some_iff.1 hf
        rw [← h2]; exact List.getElem_mem h1)
      have hcn := hX.nil hrf
      have hok := hX.ok
      have hT7 : Turned (fun k => k = w3.heap.size) wr w7 := (Turned.of_grown hg1).mono fun k _ h => (Option.some.inj h).symm
      have hT37 : Turned (fun k => ob + 1 ≤ k) w3 w7 := HTR.out.trans hT7 (fun k _ h => by have := HS3.out; omega)
      have hlow : ∀ k, k = w3.heap.size → who' k = none := fun k hk => by
        cases hw : who' k with
        | none => rfl
        | some r => have h1 := HLO.out k (by rw [hw]; rfl); have h2 := HS3.out; omega
      have hCL7 := HCL.out.turned hT7 hlow
      obtain ⟨⟨a1, a2, a3⟩, ⟨a4, a5, a6⟩, ⟨a7, a8, a9⟩⟩ := c
      injection hcn with e1 e2 e3
      subst e1 e2 e3
      change (Instr.entry (.pointer (some ⟨w3.heap.size, 0, none⟩))).run Tryz.prog w7 = .ok (.tuple #[.int .i64 (m : Nat), .agg #[.slice a1 a2 a3, .slice none 0 0, .slice a7 a8 a9]]) w7 at hen
      obtain ⟨wp, hwp⟩ : ∃ wp, w7.alloc (.cells #[.slice a1 a2 a3, .slice none 0 0, .slice a7 a8 a9] 87) = wp := ⟨_, rfl⟩
      have hgp : w7.grownBy wp none := by rw [← hwp]; exact World.grownBy_alloc w7 _ none
      have hsp : wp.heap.size = w7.heap.size + 1 := by rw [← hwp]; simp
      have hTp : Turned (fun _ => False) w7 wp := (Turned.of_grown hgp).mono fun k _ h => by cases h
      have hbx : wp.heap[w7.heap.size]? = some (.cells #[.slice a1 a2 a3, .slice none 0 0, .slice a7 a8 a9] 87 (0, 0)) := by rw [← hwp]; exact heap_alloc_new _ _
      have hT3p : Turned (fun k => ob + 1 ≤ k) w3 wp := hT37.trans hTp (fun k _ h => h.elim)
      have HRP : Hid (∀ w', Below wp.heap.size wp w' → w'.cell? ⟨ob, 1, none⟩ = some (.map (some (ob + 1))) ∧ w'.cell? ⟨w7.heap.size, 0, none⟩ = some (.slice a1 a2 a3) ∧ w'.cell? ⟨w7.heap.size, 1, none⟩ = some (.slice none 0 0) ∧ w'.cell? ⟨w7.heap.size, 2, none⟩ = some (.slice a7 a8 a9)) := fun w' hb' => by
        have h1 := head_cellP (HHD.out w' (hT3p.trans (Turned.of_below hb') (fun k _ h => by have := hT3p.size; have := HS3.out; omega))) (j := 1) (u := .map (some (ob + 1))) rfl
        have h2 := (hb'.block w7.heap.size (by omega)).trans hbx
        exact ⟨h1, by rw [cell_of_row _ _ 0 _ _ _ h2]; rfl, by rw [cell_of_row _ _ 1 _ _ _ h2]; rfl, by rw [cell_of_row _ _ 2 _ _ _ h2]; rfl⟩
      have hXp : HasX wp.drew who m ⟨⟨a1, a2, a3⟩, ⟨none, 0, 0⟩, ⟨a7, a8, a9⟩⟩ f := hX.turned ((Turned.of_below (HBE.out wp hT3p)).drew) (fun k hk => by
        have h := HH.out.new (k := k) (by rw [HOB.out]; exact hk)
        rw [h]; simp)
      have CP := Lib.hid (pcopied_any wp.drew hXp hrf)
      change Hid (Calls _ _ #[.agg #[.slice a1 a2 a3, .slice none 0 0, .slice a7 a8 a9]] _ _) at CP
      have hCLp := hCL7.turned hTp (fun _ h => h.elim)
      have hni : (Lit.int .i64 (m : Int)).wf = true := WalkArith.wf_i64 (by have := HAC.out.2; omega)
      have HCLP := Lib.hid hCLp
      have HRG1 := Lib.hid (hrg1.turned_ hTp (fun h => h) (fun h => h))
      have HT3P := Lib.hid hT3p
      have HFI := Lib.hid hf
      have HRF := Lib.hid hrf
      have HOKF := Lib.hid hok
      have HLT := Lib.hid hlt
      have HCC := Lib.hid hcc
      have HLE := Lib.hid HRG.out.left_eq
      have HS7 : Hid (w7.heap.size = wr.heap.size ∧ wp.heap.size = w7.heap.size + 1 ∧ w3.heap.size + 1 ≤ wp.heap.size) := ⟨hs1, hsp, by have := hrg1.lt_; omega⟩
      have HNI := Lib.hid hni
      clear hx hLx hfx hrg1 hlt hg1 hs1 hf hX hml hrf hok hT7 hT37 hlow hCL7 hgp hsp hTp hbx hT3p hXp hCLp HRG HCL hcc HTR
      go_wp2
      refine wp_region_m (fun w' => Below wp.heap.size wp w') 5 (by kernel_rfl) ?_
      have hH : Below wp.heap.size wp wp.drew := (Below.refl _ _).drew
      refine wpAnyM_take (i := 0) (v := ?_) rfl (by kernel_rfl) (by kernel_rfl) (by kernel_rfl) (by kernel_rfl) (fun _ _ _ h => h) hH (Or.inl ⟨by rfl, (by intro w' hSw; go_simp; first | done | with_reducible rfl)⟩) ?_
      try simp only [Act.put, List.getElem_toArray, List.getElem_cons_zero, List.setIfInBounds_toArray, List.set_cons_zero, List.set_cons_succ]
      refine wpAnyM_take (i := 1) (v := ?_) rfl (by kernel_rfl) (by kernel_rfl) (by kernel_rfl) (by kernel_rfl) (fun _ _ _ h => h) hH (Or.inl ⟨by rfl, (by intro w' hSw; obtain ⟨s0, s1, s2, s3⟩ := HRP.out w' hSw; go_simp; first | done | with_reducible rfl)⟩) ?_
      try simp only [Act.put, List.getElem_toArray, List.getElem_cons_succ, List.getElem_cons_zero, List.setIfInBounds_toArray, List.set_cons_zero, List.set_cons_succ]
      refine wpAnyM_take (i := 2) (v := ?_) rfl (by kernel_rfl) (by kernel_rfl) (by kernel_rfl) (by kernel_rfl) (fun _ _ _ h => h) hH (Or.inl ⟨by rfl, (by intro w' hSw; go_simp; first | done | with_reducible rfl)⟩) ?_
      try simp only [Act.put, List.getElem_toArray, List.getElem_cons_succ, List.getElem_cons_zero, List.setIfInBounds_toArray, List.set_cons_zero, List.set_cons_succ]
      refine wpAnyM_take (i := 3) (v := ?_) rfl (by kernel_rfl) (by kernel_rfl) (by kernel_rfl) (by kernel_rfl) (fun _ _ _ h => h) hH (Or.inl ⟨by rfl, (by intro w' hSw; obtain ⟨s0, s1, s2, s3⟩ := HRP.out w' hSw; go_simp; first | done | with_reducible rfl)⟩) ?_
      try simp only [Act.put, List.getElem_toArray, List.getElem_cons_succ, List.getElem_cons_zero, List.setIfInBounds_toArray, List.set_cons_zero, List.set_cons_succ]
      refine wpAnyM_next (i := 4) (by kernel_rfl) rfl (fun K hK => ?_)
      go_simp
      refine CP.out.mono ?_
      rintro e8 w8 ⟨u, v, rfl, hu8, hv8, hap8, hb8⟩
      have hB8 : Below wp.heap.size wp w8 := hH.trans hb8
      have HU8 := Lib.hid hu8
      have HV8 := Lib.hid hv8
      have HA8 := Lib.hid hap8
      have HB8 := Lib.hid hB8
      have hCL8 := HCLP.out.turned (Turned.of_below hB8) (fun k hk => HCLP.out.new hk)
      obtain ⟨w9, hup, hm9, hg9⟩ := hCL8.files.upd (by have := HAC.out.1; have := HCN.out; omega) HNI.out (⟨u, ⟨none, 0, 0⟩, v⟩ : RawX)
      change (Instr.mapUpdate 77 (.map (some (ob + 1))) (.int .i64 (m : Nat)) (xV ⟨u, ⟨none, 0, 0⟩, v⟩)).run Tryz.prog w8 = .ok () w9 at hup
      obtain ⟨D, hDD⟩ : ∃ D, xV ⟨u, ⟨none, 0, 0⟩, v⟩ = D := ⟨_, rfl⟩
      rw [hDD] at hup
      rw [hDD]
      have HM9 := Lib.hid hm9
      have HG9 := Lib.hid hg9
      refine hK.out _ _ (.inr hB8) ?_
      clear hK K CP hu8 hv8 hap8 hb8 hB8 hCL8 hm9 hg9 hDD
      try simp only [Act.put, List.getElem_toArray, List.getElem_cons_succ, List.getElem_cons_zero, List.setIfInBounds_toArray, List.set_cons_zero, List.set_cons_succ]
      refine wpAnyM_next (i := 5) (by kernel_rfl) rfl (fun K hK => ?_)
      go_simp
      refine hK.out _ _ (.inl (Nat.le_refl _)) ?_
      clear hK K hup
      try simp only [Act.put, List.getElem_toArray, List.getElem_cons_succ, List.getElem_cons_zero, List.setIfInBounds_toArray, List.set_cons_zero, List.set_cons_succ]
      refine wpAnyM_done (by kernel_rfl) ?_ _
      clear hH
      go_wp2
      have HRG9 : Hid (IsRg fM w9 bf w3.heap.size (64 + t.acts + 0) ff (fun z => L z && !decide (z = (m : Int))) cnt1) := (HRG1.out.below_ HB8.out HRG1.out.owns.lt_ HRG1.out.lt_).kept_ HG9.out (fun e => by have := Option.some.inj e; have := HBFL.out; omega) (fun e => by have := Option.some.inj e; have := HS3.out; omega)
      go_roundw
      case rel =>
        obtain ⟨who2, hC9, hsm⟩ := HCLP.out.more HFI.out HRF.out HOKF.out (Turned.of_below HB8.out) (fun k hk => HCLP.out.new hk) HU8.out HV8.out HA8.out (q := cnt0 - cnt1) (HM9.out.mono_ (by have := HLT.out; have := HCC.out; omega)) HG9.out
        refine ⟨_, cnt1, who2, _, HRG9.out, by have := HLT.out; have := HCC.out; omega, hC9, ?_, fun k hk => ?_⟩
        · have t1 := HT3P.out.trans (Turned.of_below HB8.out) (fun k _ h => by have := HS7.out; have := HS3.out; omega)
          exact t1.trans (Turned.of_grown HG9.out) (fun k _ h => by have := Option.some.inj h; omega)
        · rcases hsm k hk with h | h
          · exact HLO.out k h
          · exact .inr (by have := HS7.out; omega)
      case measure => rw [HRG9.out.left_eq, HLE.out]; exact HLT.out
end
end Go.Proofs.YtmcbjcbnckpfkaaGreat
namespace Go.Proofs.YtmcbjcbnckpfkaaGreat
open Go.RowKit
set_option linter.unusedVariables false
theorem IsL1.of_alloc {P : Program} {α : Type} {K : El P α} {l : List α} {w w' : World} {e : Ending} {o : Obj} (h : IsL1 K l (w.alloc o) e w') : IsL1 K l w e w' := by
  obtain ⟨A, c, h1, h2, h3⟩ := h
  exact ⟨A, c, h1, h2.mono_ (by simp), ((Below.refl w.heap.size w).alloc (Nat.le_refl _) o).trans (h3.mono (by simp))⟩
set_option maxHeartbeats 4000000 in
set_option maxRecDepth 100000 in
theorem rdone_any (v : Value) (b : List Nat) (B : Nat) (w : World) (hv : Lv yK w B v b) (hB : B ≤ w.heap.size) (cut : Bool) (a : Nat) (u : Value) (l : List Nat) (hu : Lv yK w B u l) (ha : a ≤ b.length) (hb : b.length ≤ 1099511627776) (hl : l.length ≤ 1099511627776) :
    Calls Tryz.prog 84 #[v, .agg #[.bool cut, .int .i64 (a : Nat), u]] w (IsL1 yK (Sf.done b ⟨cut, a, l⟩) w) := by
  have hv1 := hv.below_ ((Below.refl B w).alloc hB (.cells #[.bool cut, .int .i64 (a : Nat), u] 101)) (Nat.le_refl _)
  have hu1 := hu.below_ ((Below.refl B w).alloc hB (.cells #[.bool cut, .int .i64 (a : Nat), u] 101)) (Nat.le_refl _)
  obtain ⟨w1, hw1⟩ : ∃ w1, w.alloc (.cells #[.bool cut, .int .i64 (a : Nat), u] 101) = w1 := ⟨_, rfl⟩
  have hbx := heap_alloc_new w (.cells #[.bool cut, .int .i64 (a : Nat), u] 101)
  have hbb : Below w.heap.size w (w.alloc (.cells #[.bool cut, .int .i64 (a : Nat), u] 101)) := (Below.refl _ _).alloc (Nat.le_refl _) _
  rw [hw1] at hv1 hu1 hbx hbb
  have hsz : w.heap.size < w1.heap.size := by rw [← hw1]; simp
  obtain ⟨A, c, rfl, hc1, hc2, _, _⟩ := hv
  have HV := Lib.hid hv1
  have HU := Lib.hid hu1
  have HB1 := Lib.hid hbb
  have HBX : Hid (∀ w', Below w1.heap.size w1 w' → w'.cell? ⟨w.heap.size, 0, none⟩ = some (.bool cut) ∧ w'.cell? ⟨w.heap.size, 1, none⟩ = some (.int .i64 (a : Nat)) ∧ w'.cell? ⟨w.heap.size, 2, none⟩ = some u) := fun w' hb' => by
    have h := (hb'.block _ hsz).trans hbx
    exact ⟨by rw [cell_of_row _ _ 0 _ _ _ h]; rfl, by rw [cell_of_row _ _ 1 _ _ _ h]; rfl, by rw [cell_of_row _ _ 2 _ _ _ h]; rfl⟩
  have HBA : Hid (B ≤ w.heap.size) := hB
  have k1 := fun w => cut_to yK rfl A b.length c a (by omega) w
  have k2 := fun w => cutAt_to yK rfl A b.length c a (by omega) w
  change ∀ w, (Instr.slice 33 (.slice A b.length c) none (some (.int .i64 (a : Nat))) none).run Tryz.prog w = .ok (.slice A a c) w at k1
  change ∀ w, (Instr.sliceAt 33 (.slice A b.length c) none (some (.int .i64 (a : Nat))) none).run Tryz.prog w = .ok (.slice A a c) w at k2
  have hT := HV.out.take_ (k := a) ha
  have HT := Lib.hid hT
  have HTL : Hid ((b.take a).length = a) := by unfold Hid; rw [List.length_take]; omega
  have HN : Hid (OwnL yK w1 w1.heap.size (.slice none 0 0) []) := OwnL.nil_ _ _ _
  obtain ⟨h0, h1, h2⟩ := HBX.out w1 (Below.refl _ _)
  clear hv1 hu1 hbx hbb hT
  cases cut with
  | true =>
    have HE : Hid (Sf.done b ⟨true, a, l⟩ = b.take a) := if_pos rfl
    go_enter Tryz.func84, Tryz.ntmps84
    go_wp2_with (at_builtin; go_must (refine wpList_append_l _ yK rfl _ _ rfl w1.heap.size _ rfl [] HN.out _ rfl B (b.take a) HT.out (by rw [HTL.out]; show (0 + a) * 1 ≤ _; omega) (by rw [HTL.out]; simp only [maxLen, List.length_nil]; omega) (Nat.le_refl _) ?_; intro A3 c3 w2 hA hG))
    go_ret
    rw [HE.out]
    rw [List.nil_append] at hA
    exact ⟨A3, c3, by rw [HTL.out]; rfl, hA.mono_ (Nat.le_of_lt hsz), HB1.out.trans (((Below.refl w1.heap.size w1).grown hG (Nat.le_refl _) (by intro k hk; cases hk)).mono (Nat.le_of_lt hsz))⟩
  | false =>
    have hul := HU.out
    obtain ⟨Au, cu, rfl, hcu1, hcu2, _, _⟩ := hul
    have HE : Hid (Sf.done b ⟨false, a, l⟩ = b.take a ++ l ++ b.drop (a + l.length)) := rfl
    have wsum : IntKind.i64.wrap ((a : Int) + (l.length : Int)) = (a : Int) + (l.length : Int) := by rw [IntKind.wrap_i64]; omega
    have HL1 : Hid (([] ++ b.take a).length = a) := by unfold Hid; rw [List.nil_append]; exact HTL.out
    go_enter Tryz.func84, Tryz.ntmps84
    go_wp2_with (at_builtin; go_must (refine wpList_append_m _ yK rfl _ _ rfl w1.heap.size _ rfl [] HN.out _ rfl B (b.take a) HT.out (by rw [HTL.out]; show (0 + a) * 1 ≤ _; omega) (by rw [HTL.out]; simp only [maxLen, List.length_nil]; omega) (Nat.le_refl _) ?_))
    intro A3 c3 w2 hA hG hM
    try rw [HL1.out] at hA
    try rw [HL1.out] at hM
    try rw [HL1.out]
    try rw [List.nil_append] at hA
    have hb2 := (Below.refl w1.heap.size w1).grown hG (Nat.le_refl _) (by intro k hk; cases hk)
    have HBB : Hid (B ≤ w1.heap.size) := by unfold Hid; omega
    have HA2 := Lib.hid hA
    have HB2 := Lib.hid hb2
    have HU2 := Lib.hid (HU.out.below_ hb2 HBB.out)
    have HV2 := Lib.hid (HV.out.below_ hb2 HBB.out)
    obtain ⟨g0, g1, g2⟩ := HBX.out w2 hb2
    clear hA hG hM hb2 h0 h1 h2 HU HV HN HT
    have HL2 : Hid ((b.take a ++ l).length = a + l.length) := by unfold Hid; rw [List.length_append, HTL.out]
    go_wp2_with (at_builtin; go_must (refine wpList_append_m _ yK rfl _ _ rfl w1.heap.size _ rfl (b.take a) HA2.out _ rfl B l HU2.out (by rw [HTL.out]; show (a + _) * 1 ≤ _; omega) (by rw [HTL.out]; simp only [maxLen]; omega) HB2.out.size ?_))
    intro A4 c4 w3 hA hG hM
    try rw [HL2.out] at hA
    try rw [HL2.out] at hM
    try rw [HL2.out]
    have hb3 := HB2.out.grown hG HB2.out.size (fun k hk => (HA2.out.lt_ k hk).1)
    have HA3 := Lib.hid hA
    have HB3 := Lib.hid hb3
    have HV3 := Lib.hid (HV2.out.kept_ (row := (Value.slice A3 a c3).ownBlock) hG (Nat.le_trans HBB.out HB2.out.size) (fun k hk => Nat.le_trans HBB.out (HA2.out.lt_ k hk).1))
    obtain ⟨f0, f1, f2⟩ := HBX.out w3 hb3
    clear hA hG hM hb3 g0 g1 g2 HU2 HV2 HA2 k1 k2
    by_cases hmore : a + l.length < b.length
    · have hmi : (a : Int) + (l.length : Int) < (b.length : Int) := by omega
      have nsum : ((a + l.length : Nat) : Int) = (a : Int) + (l.length : Int) := by omega
      obtain ⟨A5, p1, p2, p3, p4⟩ := cut_from yK rfl A b.length c (a + l.length) (by omega) hc1
      simp only [nsum] at p1 p2
      change ∀ w, (Instr.slice 33 (.slice A b.length c) (some (.int .i64 ((a : Int) + (l.length : Int)))) none none).run Tryz.prog w = .ok (.slice A5 (b.length - (a + l.length)) (c - (a + l.length))) w at p1
      change ∀ w, (Instr.sliceAt 33 (.slice A b.length c) (some (.int .i64 ((a : Int) + (l.length : Int)))) none none).run Tryz.prog w = .ok (.slice A5 (b.length - (a + l.length)) (c - (a + l.length))) w at p2
      have HD := Lib.hid (p3 w3 B b HV3.out)
      have HDL : Hid ((b.drop (a + l.length)).length = b.length - (a + l.length)) := by unfold Hid; rw [List.length_drop]
      obtain ⟨D, hD⟩ : ∃ D, b.drop (a + l.length) = D := ⟨_, rfl⟩
      rw [hD] at HD HDL HE
      obtain ⟨n, hn⟩ : ∃ n, b.length - (a + l.length) = n := ⟨_, rfl⟩
      rw [hn] at HDL HD p1 p2
      have hnb : n ≤ b.length := by omega
      have HL3 : Hid ((b.take a ++ (l ++ D)).length = a + (l.length + D.length)) := by unfold Hid; rw [List.length_append, List.length_append, HTL.out]
      clear p3 p4 nsum hD hn HV3 hmore
      go_wp2_with (at_builtin; go_must (refine wpList_append_m _ yK rfl _ _ rfl w1.heap.size _ rfl (b.take a ++ l) HA3.out _ rfl B D HD.out (by rw [HL2.out, HDL.out]; show (_ + _) * 1 ≤ _; omega) (by rw [HL2.out, HDL.out]; simp only [maxLen]; omega) HB3.out.size ?_))
      intro A6 c6 w4 hA hG hM
      try rw [HL3.out] at hA
      try rw [HL3.out]
      have hb4 := HB3.out.grown hG HB3.out.size (fun k hk => (HA3.out.lt_ k hk).1)
      have HA4 := Lib.hid hA
      have HB4 := Lib.hid hb4
      clear hA hG hM hb4 HD p1 p2
      go_wp2
      go_ret
      rw [HE.out, List.append_assoc]
      exact ⟨A6, c6, by rw [HL3.out]; rfl, by rw [HL3.out]; exact HA4.out.mono_ (Nat.le_of_lt hsz), HB1.out.trans (HB4.out.mono (Nat.le_of_lt hsz))⟩
    · have hmi : ¬ (a : Int) + (l.length : Int) < (b.length : Int) := by omega
      have HD : Hid (b.drop (a + l.length) = []) := List.drop_of_length_le (by omega)
      clear hmore HV3
      go_wp2
      go_ret
      rw [HE.out, HD.out, List.append_nil]
      exact ⟨A4, c4, by rw [HL2.out]; rfl, by rw [HL2.out]; exact HA3.out.mono_ (Nat.le_of_lt hsz), HB1.out.trans (HB3.out.mono (Nat.le_of_lt hsz))⟩
end Go.Proofs.YtmcbjcbnckpfkaaGreat
namespace Go.Proofs.YtmcbjcbnckpfkaaGreat
open Go.RowKit
set_option linter.unusedVariables false
def placeI (o : Option Nat) : Int := match o with
  | some k => (k : Nat)
  | none => -1
set_option maxHeartbeats 2000000 in
set_option maxRecDepth 100000 in
theorem rfind_ent (v : Value) (d : Sf.Dir) (B : Nat) (w : World) (hv : Lv eK w B v d) (s : ByteArray) :
    Calls Tryz.prog 78 #[v, .string s] w (fun e w' => e = .returned (.int .i64 (placeI (Sf.place d s))) ∧ w = w') := by
  have H0 := Lib.hid hv
  obtain ⟨A, c, rfl, hc1, hc2, _, _⟩ := hv
  have hl : d.length ≤ 9223372036854775807 := by simp only [maxLen] at hc2; omega
  clear hc1 hc2
  go_enter Tryz.func78, Tryz.ntmps78
  go_wp2
  go_loop [5] (fun i => ∃ k : Nat, k ≤ d.length ∧ i = .int .i64 (k : Nat) ∧ Hid (∀ e ∈ d.take k, e.1 ≠ s)) (fun i => d.length - (intOf i).toNat)
  case atStart => exact ⟨0, by omega, rfl, by simp [Hid]⟩
  case round =>
    obtain ⟨k, hk, rfl, HN⟩ := hrel
    by_cases hlt : k < d.length
    · have hki : (k : Int) < (d.length : Int) := by omega
      have hk0 : (0 : Int) ≤ (k : Int) := by omega
      have wk : IntKind.i64.wrap ((k : Int) + 1) = (k : Int) + 1 := by rw [IntKind.wrap_i64]; omega
      obtain ⟨b, off, x, rfl, hb, hx, hq, hc0, hc1⟩ := H0.out.ent_ hlt
      by_cases hs : x.1 = s
      · have hq1 : (x.1.toList == s.toList) = true := by rw [name_eq]; simpa using hs
        have HP := Lib.hid (Sf.place_at HN.out hq hs)
        clear hs hq hx HN hc1
        go_wp2
        go_ret
        exact ⟨by rw [HP.out]; rfl, rfl⟩
      · have hq1 : (x.1.toList == s.toList) = false := by rw [name_eq]; simpa using hs
        have HN2 : Hid (∀ e ∈ d.take (k + 1), e.1 ≠ s) := fun e he => by
          rw [List.take_add_one, hq] at he
          rcases List.mem_append.1 he with he | he
          · exact HN.out e he
          · simp at he; rw [he]; exact hs
        clear hs hq hx HN hc1
        go_wp2
        go_round
        case rel => exact ⟨k + 1, by omega, by go_num, HN2⟩
        case measure => simp [intOf]; omega
    · have hki : ¬ (k : Int) < (d.length : Int) := by omega
      have HP : Hid (Sf.place d s = none) := by
        have h := HN.out
        rw [List.take_of_length_le (by omega)] at h
        exact Sf.place_none h
      clear HN
      go_wp2
      go_ret
      exact ⟨by rw [HP.out]; rfl, rfl⟩
theorem without_more {d : Sf.Dir} {s : ByteArray} {k : Nat} {x : ByteArray × Nat} (h : d[k]? = some x) : Sf.without (d.take (k + 1)) s = if x.1 = s then Sf.without (d.take k) s else Sf.without (d.take k) s ++ [x] := by
  unfold Sf.without
  rw [List.take_add_one, h, List.filter_append]
  split
  · rename_i hs; simp [hs]
  · rename_i hs; simp [hs]
set_option maxHeartbeats 2000000 in
set_option maxRecDepth 100000 in
theorem rwithout_ent (v : Value) (d : Sf.Dir) (B : Nat) (w : World) (hv : Lv eK w B v d) (hB : B ≤ w.heap.size) (s : ByteArray) (hd : d.length ≤ 1048576) :
    Calls Tryz.prog 85 #[v, .string s] w (IsL1 eK (Sf.without d s) w) := by
  have H0 := Lib.hid hv
  obtain ⟨A, c, rfl, hc1, hc2, _, _⟩ := hv
  have HN : Hid (OwnL eK w w.heap.size (.slice none 0 0) []) := OwnL.nil_ _ _ _
  have HBe : Hid (Below w.heap.size w w) := Below.refl _ _
  clear hc1 hc2
  go_enter Tryz.func85, Tryz.ntmps85
  go_wp2
  go_loopw [5, 6] (fun u i wr => ∃ (k : Nat) (y : Sf.Dir), k ≤ d.length ∧ i = .int .i64 (k : Nat) ∧ Hid (y = Sf.without (d.take k) s) ∧ Hid (y.length ≤ k) ∧ Hid (OwnL eK wr w.heap.size u y) ∧ Below w.heap.size w wr) (fun _ i _ => d.length - (intOf i).toNat)
  case atStart => exact ⟨0, [], by omega, rfl, rfl, Nat.le_refl _, HN.out, HBe.out⟩
  case round =>
    obtain ⟨k, y, hk, rfl, HE, HL, HO, hbr⟩ := hrel
    have HBr := Lib.hid hbr
    clear hbr HN HBe
    by_cases hlt : k < d.length
    · have hki : (k : Int) < (d.length : Int) := by omega
      have hk0 : (0 : Int) ≤ (k : Int) := by omega
      have wk : IntKind.i64.wrap ((k : Int) + 1) = (k : Int) + 1 := by rw [IntKind.wrap_i64]; omega
      have H1 := H0.out.below_ (HBr.out.mono hB) (Nat.le_refl _)
      obtain ⟨b, off, x, rfl, hb, hx, hq, hc0, hc1⟩ := H1.ent_ hlt
      by_cases hs : x.1 = s
      · have hq1 : (x.1.toList == s.toList) = true := by rw [name_eq]; simpa using hs
        have HE2 : Hid (y = Sf.without (d.take (k + 1)) s) := by unfold Hid; rw [without_more hq, if_pos hs]; exact HE.out
        clear hs hq hx HE hc1 H1
        go_wp2
        go_roundw
        case rel => exact ⟨k + 1, y, by omega, by go_num, HE2, by have := HL.out; unfold Hid; omega, HO.out, HBr.out⟩
        case measure => simp [intOf]; omega
      · have hq1 : (x.1.toList == s.toList) = false := by rw [name_eq]; simpa using hs
        have HE2 : Hid (y ++ [x] = Sf.without (d.take (k + 1)) s) := by unfold Hid; rw [without_more hq, if_neg hs, HE.out]
        have HX : Hid (eK.ok x) := hx
        have HS : Hid (wr.rangeAt b (off + k * 2) [.string x.1, .int .i64 (x.2 : Nat)]) := by
          intro j u hj
          match j, hj with
          | 0, hj => simp at hj; subst hj; exact hc0
          | 1, hj => simp at hj; subst hj; exact hc1
          | j + 2, hj => simp at hj
        clear hs hq hx HE H1
        go_wp2_with (first | (refine wpList_load_mid rfl _ _ rfl b (off + k * 2) rfl [.string x.1, .int .i64 (x.2 : Nat)] _ HS.out Tryz.underlying98 rfl (by kernel_rfl) ?_) | (at_builtin; go_must (refine wpList_push_l _ eK rfl _ _ rfl w.heap.size _ rfl y HO.out rfl x HX.out _ rfl _ rfl (by have := HL.out; show _ * 24 ≤ _; omega) (by have := HL.out; simp only [maxLen]; omega) HBr.out.size ?_; intro A3 c3 w5 hA hG)))
        go_roundw
        case rel => exact ⟨k + 1, y ++ [x], by omega, by go_num, HE2, by have := HL.out; unfold Hid; rw [List.length_append]; simp; omega, hA, HBr.out.grown hG HBr.out.size (fun k hk => (HO.out.lt_ k hk).1)⟩
        case measure => simp [intOf]; omega
    · have hki : ¬ (k : Int) < (d.length : Int) := by omega
      have HE2 : Hid (Sf.without d s = y) := by
        have h := HE.out
        rw [List.take_of_length_le (by omega)] at h
        exact h.symm
      obtain ⟨A2, c2, e2, _⟩ := HO.out.form_
      subst e2
      clear HE
      go_wp2
      go_ret
      rw [HE2.out]
      exact ⟨A2, c2, rfl, HO.out, HBr.out⟩
end Go.Proofs.YtmcbjcbnckpfkaaGreat
