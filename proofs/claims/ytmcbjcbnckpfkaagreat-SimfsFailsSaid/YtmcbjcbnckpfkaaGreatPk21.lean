/-
  PfSn: simfs: Sync.
  PfFl: simfs: the disk that Fail is about to leave, file by file.
  PfLayK: maps.Keys, slices.Sorted over a directory, as they stand in this program (the text of the layings comes of the kit's own lay-plain).
-/
import Derived.Test.YtmcbjcbnckpfkaaGreatPk19
import Derived.Test.YtmcbjcbnckpfkaaGreatPk16
import Derived.Test.YtmcbjcbnckpfkaaGreatPk15
import Derived.Test.YtmcbjcbnckpfkaaGreatPk07
import Derived.Deep.RegionHeld3
import Derived.Test.YtmcbjcbnckpfkaaGreatPk20
import Derived.Shelf.SlIter.Nil
import Derived.Shelf.SortM.Plain
import Derived.Shelf.SortM.SortNone
import Derived.Test.YtmcbjcbnckpfkaaGreatRows
import Derived.Test.YtmcbjcbnckpfkaaGreatChecked
namespace Go.Proofs.YtmcbjcbnckpfkaaGreat
open Go.RowKit
set_option linter.unusedVariables false
theorem fileOk_sure {f : Sf.File} (h : FileOk f) : FileOk ⟨Sf.now f, []⟩ where
  len := fun k hk => by
    have e : k = 0 := by simpa using hk
    subst e
    have := h.len f.row.length (Nat.le_refl _)
    rw [Sf.bytes_all] at this
    exact this
  at_ := fun k c hk => by simp at hk
  row := by simp
section
variable {w : World} {fp : Fp} {t : Sf.St} {b : Nat}
set_option maxHeartbeats 4000000 in
set_option maxRecDepth 100000 in
theorem psync_any (h : PDisk w fp t b) (hf : Sf.Few t) (s : ByteArray) (hs : s.size ≤ maxLen) : Calls Tryz.prog 22 #[.pointer (some ⟨b, 0, none⟩), .string s] w (IsDeed PDisk fp b (Sf.sync t s) w) := by
  have HD := Lib.hid h
  obtain ⟨who, bf, bs, bn, vr, ff, rn, h⟩ := h
  have CF := Lib.hid (pfind_disk h s hs)
  obtain ⟨n, er, hge⟩ : ∃ k er, Sf.get t s = (k, er) := ⟨_, _, rfl⟩
  rw [hge] at CF
  have HE0 : Hid (Sf.sync t s = if er ≠ 0 then (er, t) else if (Sf.blown t).1 ≠ 0 then Sf.blown t else (0, { (Sf.blown t).2 with files := t.files.set n ⟨Sf.now (Sf.fileAt t n), []⟩ })) := by unfold Hid Sf.sync; rw [hge]
  by_cases he : er = 0
  · subst he
    obtain ⟨x, hx, hn, hX⟩ := h.file_of hge
    have HE1 : Hid (Sf.sync t s = if (Sf.blown t).1 ≠ 0 then Sf.blown t else (0, { (Sf.blown t).2 with files := t.files.set n ⟨Sf.now (Sf.fileAt t n), []⟩ })) := HE0.out.trans (if_neg (by simp))
    have CA := Lib.hid (pact_disk h.mono hf)
    have hsa := pblown_same t
    obtain ⟨ea, u, hbl⟩ : ∃ er u, Sf.blown t = (er, u) := ⟨_, _, rfl⟩
    rw [hbl] at CA HE1 hsa
    simp only at CA HE1 hsa
    have HH := Lib.hid h
    clear hbl HE0 hge
    by_cases hea : ea = 0
    · subst hea
      have HE := Lib.hid (HE1.out.trans (if_neg (by simp)))
      clear HE1
      obtain ⟨f, hfe⟩ : ∃ f, Sf.fileAt t n = f := ⟨_, rfl⟩
      rw [hfe] at hX HE
      have hac := h.good.acts
      have hffl := h.good.files
      have hni : (Lit.int .i64 (n : Int)).wf = true := WalkArith.wf_i64 (by omega)
      have HX := Lib.hid hX
      have HXE := Lib.hid hx
      have HSA := Lib.hid hsa
      have HNI := Lib.hid hni
      have HAC : Hid (t.acts ≤ 1099511627776 ∧ n < t.files.length) := ⟨hac, hn⟩
      obtain ⟨F, hF⟩ : ∃ F : Nat → Prop, (fun k => (slV x.sure).ownBlock = some k) = F := ⟨_, rfl⟩
      have HFW : Hid (∀ k, F k → who k = some (.fsure n)) := fun k hk => by rw [← hF] at hk; exact hX.sureW k hk
      have HFN : Hid (∀ k r, who k = some r → r ≠ .fsure n → ¬ F k) := fun k r hk h1 hf => by
        have h := HFW.out k hf
        rw [hk] at h
        exact h1 (Option.some.inj h)
      have HFE : Hid ((fun k => (slV x.sure).ownBlock = some k) = F) := hF
      clear hsa hX hx hac hffl hni hn hfe hf h hF
      go_enter Tryz.func22, Tryz.ntmps22
      go_wp2_with fail
      refine CF.out.mono ?_
      rintro e1 w1 ⟨rfl, rfl⟩
      clear CF
      go_wp2_with fail
      refine CA.out.mono ?_
      rintro e1 W ⟨rfl, h1, hT1⟩
      have HP1 := Lib.hid h1
      have HT1 := Lib.hid hT1
      have hXW : HasX W who n x f := HX.out.turned hT1 (fun k hk => by
        rw [hk, HH.out.mine]
        simp)
      have HXW := Lib.hid hXW
      have CS := Lib.hid (psynced_any W.drew (hXW.turned ((Turned.refl (fun _ => False) W).drew) (fun _ h => h.elim)))
      rw [HFE.out] at CS
      have HHC : Hid (∀ w', Turned F W w' → IsHead w' b (headP u bf bs bn vr)) := fun w' ht => (ht.block b (HP1.out.lt b (by rw [HP1.out.mine]; rfl)) (HFN.out b _ HP1.out.mine (by simp))).trans HP1.out.head
      have HC : Hid (∀ w', Turned F W w' → w'.cell? ⟨b, 1, none⟩ = some (.map (some bf))) := fun w' ht => head_cellP (HHC.out w' ht) rfl
      have HMP : Hid (∀ w', Turned F W w' → IsMp fM w' bf (64 + t.acts + 0) ff) := fun w' ht => (HH.out.body.files.turned_ hT1 (fun e => by
        have h2 := HH.out.body.filesW
        rw [e, HH.out.mine] at h2
        cases h2)).turned_ ht (HFN.out bf _ HH.out.body.filesW (by simp))
      have HLK : Hid (∀ w', Turned F W w' → (Instr.lookup 77 (.map (some bf)) (.int .i64 (n : Nat)) false).run Tryz.prog w' = .ok (xV x) w') := fun w' ht => by
        have := (HMP.out w' ht).look (x := (n : Int)) HNI.out
        rw [HXE.out] at this
        exact this
      obtain ⟨C, hC⟩ : ∃ C, xV x = C := ⟨_, rfl⟩
      rw [hC] at CS HLK
      have HS0 : Hid (Turned F W W.drew) := (Turned.refl F W).drew
      clear CA h1 hT1 hXW hC
      go_wp2
      refine wp_region_m (fun w' => Turned F W w') 12 (by kernel_rfl) ?_
      have hH := HS0.out
      refine wpAnyM_take (i := 0) (v := ?_) rfl (by kernel_rfl) (by kernel_rfl) (by kernel_rfl) (by kernel_rfl) (fun _ _ _ h => h) hH (Or.inl ⟨by rfl, (by intro w' hSw; go_simp; first | done | with_reducible rfl)⟩) ?_
      try simp only [Act.put, List.getElem_toArray, List.getElem_cons_zero, List.setIfInBounds_toArray, List.set_cons_zero, List.set_cons_succ]
      refine wpAnyM_take (i := 1) (v := ?_) rfl (by kernel_rfl) (by kernel_rfl) (by kernel_rfl) (by kernel_rfl) (fun _ _ _ h => h) hH (Or.inl ⟨by rfl, (by intro w' hSw; go_simp; first | done | with_reducible rfl)⟩) ?_
      try simp only [Act.put, List.getElem_toArray, List.getElem_cons_succ, List.getElem_cons_zero, List.setIfInBounds_toArray, List.set_cons_zero, List.set_cons_succ]
      refine wpAnyM_take (i := 2) (v := ?_) rfl (by kernel_rfl) (by kernel_rfl) (by kernel_rfl) (by kernel_rfl) (fun _ _ _ h => h) hH (Or.inl ⟨by rfl, (by intro w' hSw; go_simp; first | done | with_reducible rfl)⟩) ?_
      try simp only [Act.put, List.getElem_toArray, List.getElem_cons_succ, List.getElem_cons_zero, List.setIfInBounds_toArray, List.set_cons_zero, List.set_cons_succ]
      refine wpAnyM_take (i := 3) (v := ?_) rfl (by kernel_rfl) (by kernel_rfl) (by kernel_rfl) (by kernel_rfl) (fun _ _ _ h => h) hH (Or.inl ⟨by rfl, (by intro w' hSw; have s1 := HC.out w' hSw; go_simp; first | done | with_reducible rfl)⟩) ?_
      try simp only [Act.put, List.getElem_toArray, List.getElem_cons_succ, List.getElem_cons_zero, List.setIfInBounds_toArray, List.set_cons_zero, List.set_cons_succ]
      refine wpAnyM_take (i := 4) (v := ?_) rfl (by kernel_rfl) (by kernel_rfl) (by kernel_rfl) (by kernel_rfl) (fun _ _ _ h => h) hH (Or.inl ⟨by rfl, (by intro w' hSw; go_simp; first | done | with_reducible rfl)⟩) ?_
      try simp only [Act.put, List.getElem_toArray, List.getElem_cons_succ, List.getElem_cons_zero, List.setIfInBounds_toArray, List.set_cons_zero, List.set_cons_succ]
      refine wpAnyM_take (i := 5) (v := ?_) rfl (by kernel_rfl) (by kernel_rfl) (by kernel_rfl) (by kernel_rfl) (fun _ _ _ h => h) hH (Or.inl ⟨by rfl, (by intro w' hSw; go_simp; first | done | with_reducible rfl)⟩) ?_
      try simp only [Act.put, List.getElem_toArray, List.getElem_cons_succ, List.getElem_cons_zero, List.setIfInBounds_toArray, List.set_cons_zero, List.set_cons_succ]
      refine wpAnyM_take (i := 6) (v := ?_) rfl (by kernel_rfl) (by kernel_rfl) (by kernel_rfl) (by kernel_rfl) (fun _ _ _ h => h) hH (Or.inl ⟨by rfl, (by intro w' hSw; go_simp; first | done | with_reducible rfl)⟩) ?_
      try simp only [Act.put, List.getElem_toArray, List.getElem_cons_succ, List.getElem_cons_zero, List.setIfInBounds_toArray, List.set_cons_zero, List.set_cons_succ]
      refine wpAnyM_take (i := 7) (v := ?_) rfl (by kernel_rfl) (by kernel_rfl) (by kernel_rfl) (by kernel_rfl) (fun _ _ _ h => h) hH (Or.inl ⟨by rfl, (by intro w' hSw; go_simp; first | done | with_reducible rfl)⟩) ?_
      try simp only [Act.put, List.getElem_toArray, List.getElem_cons_succ, List.getElem_cons_zero, List.setIfInBounds_toArray, List.set_cons_zero, List.set_cons_succ]
      refine wpAnyM_take (i := 8) (v := ?_) rfl (by kernel_rfl) (by kernel_rfl) (by kernel_rfl) (by kernel_rfl) (fun _ _ _ h => h) hH (Or.inl ⟨by rfl, (by intro w' hSw; have s1 := HC.out w' hSw; go_simp; first | done | with_reducible rfl)⟩) ?_
      try simp only [Act.put, List.getElem_toArray, List.getElem_cons_succ, List.getElem_cons_zero, List.setIfInBounds_toArray, List.set_cons_zero, List.set_cons_succ]
      refine wpAnyM_take (i := 9) (v := ?_) rfl (by kernel_rfl) (by kernel_rfl) (by kernel_rfl) (by kernel_rfl) (fun _ _ _ h => h) hH (Or.inl ⟨by rfl, (by intro w' hSw; go_simp; first | done | with_reducible rfl)⟩) ?_
      try simp only [Act.put, List.getElem_toArray, List.getElem_cons_succ, List.getElem_cons_zero, List.setIfInBounds_toArray, List.set_cons_zero, List.set_cons_succ]
      refine wpAnyM_take (i := 10) (v := ?_) rfl (by kernel_rfl) (by kernel_rfl) (by kernel_rfl) (by kernel_rfl) (fun _ _ _ h => h) hH (Or.inl ⟨by rfl, (by intro w' hSw; have s1 := HLK.out w' hSw; go_simp; first | done | with_reducible rfl)⟩) ?_
      try simp only [Act.put, List.getElem_toArray, List.getElem_cons_succ, List.getElem_cons_zero, List.setIfInBounds_toArray, List.set_cons_zero, List.set_cons_succ]
      refine wpAnyM_next (i := 11) (by kernel_rfl) rfl (fun K hK => ?_)
      go_simp
      refine CS.out.mono ?_
      rintro e W3 ⟨v, rfl, hn3, hT3, hmv⟩
      have hTW3 : Turned F W W3 := HS0.out.trans hT3 (fun _ _ h => h)
      have HN3 := Lib.hid hn3
      have HMV : Hid (Moved W (slV x.sure) (slV v)) := fun k hk => (hmv k hk).imp id (fun h => h)
      have HT3 := Lib.hid hTW3
      obtain ⟨w4, hup, hm4, hg4⟩ := (HMP.out W3 hTW3).upd (by have := HAC.out; have := HH.out.good.files; simp only [maxLen]; omega) HNI.out (⟨v, ⟨none, 0, 0⟩, x.now⟩ : RawX)
      change (Instr.mapUpdate 77 (.map (some bf)) (.int .i64 (n : Nat)) (xV ⟨v, ⟨none, 0, 0⟩, x.now⟩)).run Tryz.prog W3 = .ok () w4 at hup
      obtain ⟨D, hDD⟩ : ∃ D, xV ⟨v, ⟨none, 0, 0⟩, x.now⟩ = D := ⟨_, rfl⟩
      rw [hDD] at hup
      rw [hDD]
      have HM4 := Lib.hid hm4
      have HG4 := Lib.hid hg4
      refine hK.out _ _ (.inr hTW3) ?_
      clear hK K hn3 hT3 hmv hTW3 hm4 hg4 CS hDD
      try simp only [Act.put, List.getElem_toArray, List.getElem_cons_succ, List.getElem_cons_zero, List.setIfInBounds_toArray, List.set_cons_zero, List.set_cons_succ]
      refine wpAnyM_next (i := 12) (by kernel_rfl) rfl (fun K hK => ?_)
      go_simp
      refine hK.out _ _ (.inl (Nat.le_refl _)) ?_
      clear hK K hup
      try simp only [Act.put, List.getElem_toArray, List.getElem_cons_succ, List.getElem_cons_zero, List.setIfInBounds_toArray, List.set_cons_zero, List.set_cons_succ]
      refine wpAnyM_done (by kernel_rfl) ?_ _
      go_wp2
      go_ret
      rw [HE.out]
      have HT4 : Hid (Turned (fun k => F k ∨ k = bf) W w4) := ((HT3.out.mono fun k _ h => .inl h)).trans (Turned.of_grown HG4.out) (fun k _ h => .inr (Option.some.inj h).symm)
      have HT5 : Hid (Turned (fun k => k = b ∨ F k ∨ k = bf) w w4) := (HT1.out.mono fun k _ h => .inl h).trans HT4.out (fun k _ h => .inr h)
      have hnew : ∀ k, W.heap.size ≤ k → who k = none := fun k hk => HP1.out.new hk
      have r2 : More who (lab who (slV v) (.fsure n)) := lab_more fun k hk => by
        rcases HMV.out k hk with h | h
        · exact .inr (HX.out.sureW k h)
        · exact .inl (hnew k h)
      obtain ⟨who', hwho⟩ : ∃ who', lab who (slV v) (.fsure n) = who' := ⟨_, rfl⟩
      rw [hwho] at r2
      have hs34 := HG4.out.size
      have hsm : ∀ k, (who' k).isSome → (who k).isSome ∨ (w.heap.size ≤ k ∧ k < w4.heap.size) := fun k hk => by
        rw [← hwho] at hk
        rcases lab_some hk with hk | hk
        · exact .inl hk
        · have h3 := (HN3.out.lt_ k hk).2
          rcases HMV.out k hk with h | h
          · exact .inl (by rw [HX.out.sureW k h]; rfl)
          · exact .inr ⟨Nat.le_trans HT1.out.size h, by omega⟩
      have hv4 : OwnL yK w4 0 (slV v) (Sf.now f) := HN3.out.turned_ (Turned.of_grown HG4.out) (fun k hk e => by
        obtain rfl : bf = k := Option.some.inj e
        have h1 := r2 bf .files HH.out.body.filesW
        rw [← hwho, lab_bears _ _ _ bf hk] at h1
        cases h1)
      have noF : ∀ r, r ≠ .head → r ≠ .fsure n → r ≠ .files → ∀ k, (k = b ∨ F k ∨ k = bf) → who k ≠ some r := fun r h0 h1 h3 k hf hk => by
        rcases hf with hf | hf | hf
        · rw [hf, HH.out.mine] at hk; exact h0 (Option.some.inj hk).symm
        · exact HFN.out k r hk h1 hf
        · rw [hf, HH.out.body.filesW] at hk; exact h3 (Option.some.inj hk).symm
      have hX4 : HasX w4 who' n ⟨v, ⟨none, 0, 0⟩, x.now⟩ ⟨Sf.now f, []⟩ :=
        ⟨hv4, by rw [← hwho]; exact lab_bears _ _ _, HX.out.now.turned_ HT5.out (HX.out.nowW.off (noF _ (by simp) (by simp) (by simp))), HX.out.nowW.more r2, ⟨[], rfl, OwnL.nil_ _ _ _, fun j r a hr => by simp at hr⟩, Bears.nil_ _ _, fun _ => rfl, fileOk_sure HX.out.ok⟩
      obtain ⟨e1, e2, e3, e4, e5, e6⟩ := HSA.out
      have hB := (HH.out.body.set_file (q := 1) HAC.out.2 HXE.out _ _ r2 HT5.out (fun k hk => by
        rcases hk with hk | hk | hk
        · exact .inr (.inl (by rw [hk]; exact HH.out.mine))
        · exact .inr (.inr (.inr (.inl (HFW.out k hk))))
        · exact .inr (.inr (.inl (by rw [hk]; exact HH.out.body.filesW)))) HM4.out hX4 (Nat.zero_le _)).congr (u := { u with files := t.files.set n ⟨Sf.now f, []⟩ }) (q := 0) rfl e2 e3 e4 (by show t.acts + 1 ≤ u.acts + 0; omega)
      have hG := HP1.out.good.set_file (n := n) (f' := ⟨Sf.now f, []⟩) (q := 0) (by simp) (Nat.le_refl _)
      rw [e1] at hG
      refine ⟨rfl, fpOf who', ⟨who', _, _, _, _, _, _, ?_, hB, hG, r2 _ _ HH.out.mine, fun k => Iff.rfl, fun k h => h, fun k hk => ?_⟩, ⟨fun k hk => (hsm k hk).elim (fun h => .inl ((HH.out.m k).2 h)) (fun h => .inr h.1), fun k hk => hk.elim⟩, ?_⟩
      · rw [← e1, head_set_file]
        refine (HG4.out.block b ?_ (fun e => ?_)).trans (HHC.out W3 HT3.out)
        · exact Nat.lt_of_lt_of_le (HP1.out.lt b (by rw [HP1.out.mine]; rfl)) HT3.out.size
        · have h2 := HH.out.body.filesW
          have e2 : bf = b := (Option.some.inj e).symm
          rw [e2, HH.out.mine] at h2
          cases h2
      · rcases hsm k hk with h | h
        · exact Nat.lt_of_lt_of_le (HH.out.lt k h) HT5.out.size
        · exact h.2
      · exact HT5.out.mono fun k _ hk => (HH.out.m k).2 (by
          rcases hk with hk | hk | hk
          · rw [hk, HH.out.mine]; rfl
          · rw [HFW.out k hk]; rfl
          · rw [hk, HH.out.body.filesW]; rfl)
    · have hq : ((ea : Int) != 0) = true := by rw [bne_iff_ne]; omega
      have HE := Lib.hid (HE1.out.trans (if_pos hea))
      clear HE1 hea hX hx hn hf h hsa
      go_enter Tryz.func22, Tryz.ntmps22
      go_wp2_with fail
      refine CF.out.mono ?_
      rintro e1 w1 ⟨rfl, rfl⟩
      clear CF
      go_wp2_with fail
      refine CA.out.mono ?_
      rintro e1 w1 ⟨rfl, h1, hT1⟩
      have H1 := Lib.hid h1
      have H2 := Lib.hid hT1
      clear CA h1 hT1
      go_wp2
      go_ret
      rw [HE.out]
      exact ⟨rfl, fp, ⟨_, _, _, _, _, _, _, H1.out⟩, Fp.Next.refl _ _, turned_mine HH.out H2.out⟩
  · have hq : ((er : Int) != 0) = true := by rw [bne_iff_ne]; omega
    have HE : Hid (Sf.sync t s = (er, t)) := HE0.out.trans (if_pos he)
    clear h hge hf HE0 he
    go_enter Tryz.func22, Tryz.ntmps22
    go_wp2_with fail
    refine CF.out.mono ?_
    rintro e1 w1 ⟨rfl, rfl⟩
    clear CF
    go_wp2
    go_ret
    rw [HE.out]
    exact ⟨rfl, fp, HD.out, Fp.Next.refl _ _, Turned.refl _ _⟩
end
end Go.Proofs.YtmcbjcbnckpfkaaGreat
namespace Go.Proofs.YtmcbjcbnckpfkaaGreat
open Go.RowKit
set_option linter.unusedVariables false
/-- Of the directory's files j lie there. -/
structure Fl (w : World) (who : Who) (t : Sf.St) (l : List Int) (d : Sf.Dir) (j hb bf bs bn : Nat) (ff : Int → Option RawX) : Prop where
  head : IsHead w hb (headP (Sf.new t.room) bf bs bn ⟨none, 0, 0⟩)
  files : IsMp fM w bf j ff
  names : IsMp dM w bn j (Sf.dirF (Sf.numbered (d.take j)))
  file : ∀ (i : Int) (x : RawX), ff i = some x → ∃ (n : Nat) (b : List Nat), i = (n : Int) ∧ (Sf.kept t (d.take j) l)[n]? = some b ∧ HasX w who n x ⟨b, []⟩
  there : ∀ n : Nat, n < j → (ff (n : Int)).isSome
  headW : who hb = some .head
  filesW : who bf = some .files
  namesW : who bn = some .names
  sureW : who bs = some .sure
  lt : ∀ k, (who k).isSome → k < w.heap.size
section
variable {w w' : World} {who who' : Who} {t : Sf.St} {l : List Int} {d : Sf.Dir} {j hb bf bs bn : Nat} {ff : Int → Option RawX} {F : Nat → Prop}
theorem Fl.lt_head (h : Fl w who t l d j hb bf bs bn ff) : hb < w.heap.size := h.lt _ (by rw [h.headW]; rfl)
theorem Fl.turned (h : Fl w who t l d j hb bf bs bn ff) (ht : Turned F w w') (hF : ∀ k, F k → who k = none) : Fl w' who t l d j hb bf bs bn ff := by
  have no : ∀ k r, who k = some r → ¬ F k := fun k r hk hf => by rw [hF k hf] at hk; cases hk
  have no2 : ∀ r k, F k → who k ≠ some r := fun r k hf hk => no k r hk hf
  exact ⟨(ht.block hb h.lt_head (no _ _ h.headW)).trans h.head, h.files.turned_ ht (no _ _ h.filesW), h.names.turned_ ht (no _ _ h.namesW), fun i x hx => by
    obtain ⟨n, b, h1, h2, h3⟩ := h.file i x hx
    exact ⟨n, b, h1, h2, h3.turned ht fun k hk => ⟨no2 _ k hk, no2 _ k hk, no2 _ k hk, no2 _ k hk⟩⟩, h.there, h.headW, h.filesW, h.namesW, h.sureW, fun k hk => Nat.lt_of_lt_of_le (h.lt k hk) ht.size⟩
theorem Fl.new (h : Fl w who t l d j hb bf bs bn ff) {k : Nat} (hk : w.heap.size ≤ k) : who k = none := by
  cases hw : who k with
  | none => rfl
  | some r => have := h.lt k (by rw [hw]; rfl); omega
theorem Fl.kept_len (h : j ≤ d.length) : (Sf.kept t (d.take j) l).length = j := by rw [Sf.kept_len, List.length_take]; omega
/-- The file behind the last one, and its name. -/
theorem Fl.more (h : Fl w who t l d j hb bf bs bn ff) {e : ByteArray × Nat} (he : d[j]? = some e) (hd : Sf.OkDir d) {u v : Sl} {b : List Nat} (hbk : (Sf.kept1 (Sf.fileAt t e.2) (Sf.rest t (d.take j) l)).1 = b) (hok : b.length ≤ 1048576)
    {w5 w6 w7 : World} (ht : Turned F w w5) (hF : ∀ k, F k → who k = none) (hu : OwnL yK w5 w.heap.size (slV u) b) (hv : OwnL yK w5 w.heap.size (slV v) b) (hap : Apart (slV u) (slV v))
    (hm : IsMp fM w6 bf (j + 1) (fun k => if k = (j : Int) then some ⟨u, ⟨none, 0, 0⟩, v⟩ else ff k)) (hg : w5.grownBy w6 (some bf)) (hn : IsMp dM w7 bn (j + 1) (Sf.dirF (Sf.numbered (d.take (j + 1))))) (hg2 : w6.grownBy w7 (some bn)) :
    ∃ who', Fl w7 who' t l d (j + 1) hb bf bs bn (fun k => if k = (j : Int) then some ⟨u, ⟨none, 0, 0⟩, v⟩ else ff k) ∧ ∀ k, (who' k).isSome → (who k).isSome ∨ w.heap.size ≤ k := by
  have hjd := (List.getElem?_eq_some_iff.1 he).1
  have hw5 := h.turned ht hF
  have r1 : More who (lab who (slV u) (.fsure j)) := lab_more fun k hk => .inl (h.new (hu.lt_ k hk).1)
  have r2 : More (lab who (slV u) (.fsure j)) (lab (lab who (slV u) (.fsure j)) (slV v) (.fnow j)) := lab_more fun k hk => by
    have hne : (slV u).ownBlock ≠ some k := fun h => hap k h hk
    rw [lab_old hne]
    exact .inl (h.new (hv.lt_ k hk).1)
  obtain ⟨who', hwho⟩ : ∃ who', lab (lab who (slV u) (.fsure j)) (slV v) (.fnow j) = who' := ⟨_, rfl⟩
  have hmore : More who who' := by rw [← hwho]; exact r1.trans r2
  have hsm : ∀ k, (who' k).isSome → (who k).isSome ∨ (w.heap.size ≤ k ∧ k < w5.heap.size) := fun k hk => by
    rw [← hwho] at hk
    rcases lab_some hk with hk | hk
    · rcases lab_some hk with hk | hk
      · exact .inl hk
      · exact .inr (hu.lt_ k hk)
    · exact .inr (hv.lt_ k hk)
  have hT : Turned (fun k => k = bf ∨ k = bn) w5 w7 := ((Turned.of_grown hg).mono (G := fun k => k = bf ∨ k = bn) (fun k _ e => .inl (Option.some.inj e).symm)).trans (Turned.of_grown hg2) (fun k _ e => .inr (Option.some.inj e).symm)
  have off : ∀ r, r ≠ Role.files → r ≠ Role.names → ∀ k, (k = bf ∨ k = bn) → who k ≠ some r := fun r h1 h2 k hk e => by
    rcases hk with hk | hk
    · rw [hk, h.filesW] at e; exact h1 (Option.some.inj e).symm
    · rw [hk, h.namesW] at e; exact h2 (Option.some.inj e).symm
  have newoff : ∀ k, w.heap.size ≤ k → ¬ (k = bf ∨ k = bn) := fun k hk e => by
    rcases e with e | e
    · have := h.lt bf (by rw [h.filesW]; rfl); omega
    · have := h.lt bn (by rw [h.namesW]; rfl); omega
  have hkl := Fl.kept_len (t := t) (l := l) (d := d) (j := j) (by omega)
  have e1 : Sf.kept t (d.take (j + 1)) l = Sf.kept t (d.take j) l ++ [b] := by rw [List.take_add_one, he, ← hbk]; exact Sf.kept_snoc t e _ _
  have hs7 := hT.size
  refine ⟨who', ⟨?_, hm.turned_ (Turned.of_grown hg2) (fun e => ?_), hn, fun i x hx => ?_, fun n hn => ?_, hmore _ _ h.headW, hmore _ _ h.filesW, hmore _ _ h.namesW, hmore _ _ h.sureW, fun k hk => ?_⟩, fun k hk => (hsm k hk).imp id (fun h => h.1)⟩
  · exact (hT.block hb hw5.lt_head (fun e => off .head (by simp) (by simp) hb e h.headW)).trans hw5.head
  · have h1 := h.namesW
    rw [Option.some.inj e, h.filesW] at h1
    cases h1
  · by_cases ei : i = (j : Int)
    · rw [if_pos ei] at hx
      obtain rfl := Option.some.inj hx
      refine ⟨j, b, ei, by rw [e1, List.getElem?_append_right (by omega), hkl, Nat.sub_self]; rfl, ⟨?_, ?_, ?_, ?_, ⟨[], rfl, OwnL.nil_ _ _ _, fun j r a hr => by simp at hr⟩, Bears.nil_ _ _, fun _ => rfl, ?_⟩⟩
      · exact (hu.turned_ hT (fun k hk e => newoff k (hu.lt_ k hk).1 e)).mono_ (Nat.zero_le _)
      · rw [← hwho]; exact (lab_bears who (slV u) (.fsure j)).more r2
      · exact (hv.turned_ hT (fun k hk e => newoff k (hv.lt_ k hk).1 e)).mono_ (Nat.zero_le _)
      · rw [← hwho]; exact lab_bears _ _ _
      · exact ⟨fun k hk => by
          have e : k = 0 := by simpa using hk
          subst e
          exact hok, fun k c hk => by simp at hk, by simp⟩
    · rw [if_neg ei] at hx
      obtain ⟨n, b', h1, h2, h3⟩ := hw5.file i x hx
      refine ⟨n, b', h1, ?_, (h3.turned hT fun k hk => ⟨off _ (by simp) (by simp) k hk, off _ (by simp) (by simp) k hk, off _ (by simp) (by simp) k hk, off _ (by simp) (by simp) k hk⟩).more hmore⟩
      rw [e1, List.getElem?_append_left (List.getElem?_eq_some_iff.1 h2).1]
      exact h2
  · by_cases ei : (n : Int) = (j : Int)
    · rw [if_pos ei]; rfl
    · rw [if_neg ei]; exact h.there n (by omega)
  · rcases hsm k hk with hk | hk
    · have := hw5.lt k hk; omega
    · omega
/-- How many files there are. -/
theorem Fl.len (h : Fl w who t l d j hb bf bs bn ff) (hj : j ≤ d.length) (h64 : j ≤ 64) (ty : TypeId) : (Builtin.len_ #[77] ty #[.map (some bf)]).run Tryz.prog w = .ok (.int .i64 (j : Nat)) w := by
  have hkl := Fl.kept_len (t := t) (l := l) (d := d) (j := j) hj
  have := h.files.size_ fM_ok ((List.range j).map fun i : Nat => ((i : Int), (ff (i : Int)).getD x0)) (by
      rw [List.map_map, List.nodup_iff_pairwise_ne, List.pairwise_map]
      exact List.Pairwise.imp (fun {a b} hab e => hab (by have : (a : Int) = (b : Int) := e; omega)) (List.nodup_iff_pairwise_ne.1 List.nodup_range))
    (fun e he => by
      obtain ⟨i, hi, rfl⟩ := List.mem_map.1 he
      exact WalkArith.wf_i64 (by have := List.mem_range.1 hi; omega))
    (fun x _ y => by
      constructor
      · intro hx
        obtain ⟨n, b, h1, h2, _⟩ := h.file x y hx
        have hn := (List.getElem?_eq_some_iff.1 h2).1
        exact List.mem_map.2 ⟨n, List.mem_range.2 (by omega), by rw [← h1, hx]; rfl⟩
      · intro hm
        obtain ⟨i, hi, e⟩ := List.mem_map.1 hm
        have hs := h.there i (List.mem_range.1 hi)
        obtain ⟨z, hz⟩ := Option.isSome_iff_exists.1 hs
        rw [hz] at e
        injection e with e1 e2
        rw [← e1, hz]
        exact congrArg some e2) ty
  rw [List.length_map, List.length_range] at this
  exact this
/-- All of the directory's files lie there: the disk that is left. -/
theorem Fl.end_ (h : Fl w who t l d d.length hb bf bs bn ff) (hd : Sf.OkDir d) (h64 : d.length ≤ 64) (hroom : t.room ≤ 1048576) {w3 : World} {sb base : Nat} (hlo : ∀ k, (who k).isSome → base ≤ k) (hsb : w.heap.size ≤ sb) (hbs : base ≤ w.heap.size)
    (hh1 : Turned (fun k => k = hb ∨ w.heap.size ≤ k) w w3) (hh : IsHead w3 hb (((headP (Sf.new t.room) bf bs bn ⟨none, 0, 0⟩).set! 2 (.int .i64 (d.length : Nat))).set! 3 (.map (some sb)))) (hm : IsMp dM w3 sb d.length (Sf.dirF (Sf.numbered d))) (q : List Int) (hq : d = Sf.dirOf t q) (hlq : l = q.drop 1) :
    ∃ f', PDisk w3 f' (Sf.fail t q) hb ∧ f'.From base := by
  have hkl := Fl.kept_len (t := t) (l := l) (d := d) (j := d.length) (Nat.le_refl _)
  have htk : d.take d.length = d := List.take_length
  have hfa : Sf.fail t q = ⟨t.room, (Sf.kept t d l).map (fun b => ⟨b, []⟩), Sf.numbered d, [], Sf.numbered d, 0, 0, false⟩ := by unfold Sf.fail; rw [← hq, ← hlq]
  obtain ⟨who', hwho⟩ : ∃ who' : Who, (fun k => if k = sb then some Role.sure else who k) = who' := ⟨_, rfl⟩
  have hmore : More who who' := fun k r hk => by
    have hlt := h.lt k (by rw [hk]; rfl)
    rw [← hwho]
    show (if k = sb then some Role.sure else who k) = some r
    rw [if_neg (by omega), hk]
  have hws : who' sb = some .sure := by rw [← hwho]; exact if_pos rfl
  have hsm : ∀ k, (who' k).isSome → (who k).isSome ∨ k = sb := fun k hk => by
    rw [← hwho] at hk
    by_cases e1 : k = sb
    · exact .inr e1
    · have hk' : (if k = sb then some Role.sure else who k).isSome := hk
      rw [if_neg e1] at hk'
      exact .inl hk'
  have off : ∀ k r, who k = some r → r ≠ .head → ¬ (k = hb ∨ w.heap.size ≤ k) := fun k r hk hr e => by
    rcases e with e | e
    · rw [e, h.headW] at hk; exact hr (Option.some.inj hk).symm
    · have := h.lt k (by rw [hk]; rfl); omega
  have off2 : ∀ r, r ≠ Role.head → ∀ k, (k = hb ∨ w.heap.size ≤ k) → who k ≠ some r := fun r hr k e hk => off k r hk hr e
  have hfl : (Sf.fail t q).files.length = d.length := by rw [hfa]; show ((Sf.kept t d l).map _).length = _; rw [List.length_map, Sf.kept_len]
  refine ⟨fpOf who', ⟨who', bf, sb, bn, ⟨none, 0, 0⟩, ff, [], ?_, ⟨?_, ?_, ?_, OwnL.nil_ _ _ _, ?_, ?_, fun _ => rfl, fun i x hx => ?_, fun n hn => ?_, hmore _ _ h.filesW, hmore _ _ h.namesW, hws, Bears.nil_ _ _⟩, ?_, hmore _ _ h.headW, fun k => Iff.rfl, fun k h => h, fun k hk => ?_⟩, fun k hk => ?_⟩
  · have e : headP (Sf.fail t q) bf sb bn ⟨none, 0, 0⟩ = ((headP (Sf.new t.room) bf bs bn ⟨none, 0, 0⟩).set! 2 (.int .i64 (d.length : Nat))).set! 3 (.map (some sb)) := by
      unfold headP
      rw [hfl, hfa]
      rfl
    rw [e]
    exact hh
  · exact (h.files.turned_ hh1 (off _ _ h.filesW (by simp))).mono_ (by omega)
  · rw [hfa]
    have h1 := h.names.turned_ hh1 (off _ _ h.namesW (by simp))
    rw [htk] at h1
    exact h1.mono_ (by omega)
  · rw [hfa]
    exact hm.mono_ (by omega)
  · rw [hfa]; rfl
  · rw [hfa]; rfl
  · obtain ⟨n, b, h1, h2, h3⟩ := h.file i x hx
    rw [htk] at h2
    refine ⟨n, ⟨b, []⟩, h1, by rw [hfa]; show ((Sf.kept t d l).map _)[n]? = _; rw [List.getElem?_map, h2]; rfl, (h3.turned hh1 fun k hk => ⟨off2 _ (by simp) k hk, off2 _ (by simp) k hk, off2 _ (by simp) k hk, off2 _ (by simp) k hk⟩).more hmore⟩
  · refine h.there n ?_
    obtain ⟨d', hd', e, he, rfl⟩ := hn
    rw [hfa] at hd'
    rcases hd' with hd' | hd' | hd'
    · rw [hd'] at he; exact Sf.numbered_lt d e he
    · rw [hd'] at he; exact Sf.numbered_lt d e he
    · cases hd'
  · rw [hfa]
    have hl1 : ((Sf.kept t d l).map fun b => (⟨b, []⟩ : Sf.File)).length = d.length := by rw [List.length_map, Sf.kept_len]
    refine ⟨hroom, by show _ ≤ 64 + 0 + 0; rw [hl1]; omega, Nat.le_refl _, Nat.zero_le _, by show 0 < _; omega, hd.numbered_, hd.numbered_, (fun d hd => by cases hd), fun d' hd' => ?_, by show ((Sf.numbered d).map (·.2)).Nodup; rw [Sf.numbered_nums]; exact List.nodup_range, fun f hf => ?_⟩
    · have hx : d' = Sf.numbered d := by
        rcases hd' with hd' | hd' | hd'
        · exact hd'
        · exact hd'
        · cases hd'
      rw [hx]
      refine ⟨by rw [Sf.numbered_len]; exact h64, fun e he => ?_⟩
      show e.2 < ((Sf.kept t d l).map _).length
      rw [List.length_map, Sf.kept_len]
      exact Sf.numbered_lt d e he
    · obtain ⟨b, _, rfl⟩ := List.mem_map.1 hf
      exact Nat.zero_le _
  · rcases hsm k hk with hk | rfl
    · exact Nat.lt_of_lt_of_le (h.lt k hk) hh1.size
    · exact hm.lt_
  · rcases hk with hk | hk
    · rcases hsm k hk with hk | rfl
      · exact hlo k hk
      · omega
    · exact hk.elim
end
end Go.Proofs.YtmcbjcbnckpfkaaGreat
namespace Go.Proofs.YtmcbjcbnckpfkaaGreat
open Go.Shelf Go.Proofs
def keysM_ren : Go.Shelf.Ren := ⟨fun | 7 => 89 | 10 => 98 | n => n, fun | 23 => 75 | 26 => 9 | 3 => 3 | 28 => 125 | 0 => 0 | 27 => 124 | 33 => 105 | 4 => 4 | n => n, fun | n => n⟩
theorem keysM : Go.Proofs.SlLaysZ.n7 Tryz.prog keysM_ren := {
  mixed := by kernel_rfl
  f7 := ⟨Tryz.f89.name, by decide, Tryz.func89.trans (congrArg some (by kernel_rfl))⟩
  f10 := ⟨Tryz.f98.name, by decide, Tryz.func98.trans (congrArg some (by kernel_rfl))⟩
  t0 := Tryz.underlying0
  a0 := Tryz.isAgg0
  z0 := Tryz.sizeOf0
  v0 := Tryz.zeroValue0
  t4 := Tryz.underlying4
  a4 := Tryz.isAgg4
  z4 := Tryz.sizeOf4
  v4 := Tryz.zeroValue4
  t23 := Tryz.underlying75
  a23 := Tryz.isAgg75
  z23 := Tryz.sizeOf75
  v23 := Tryz.zeroValue75
  t26 := Tryz.underlying9
  a26 := Tryz.isAgg9
  z26 := Tryz.sizeOf9
  v26 := Tryz.zeroValue9
  t27 := Tryz.underlying124
  a27 := Tryz.isAgg124
  z27 := Tryz.sizeOf124
  v27 := Tryz.zeroValue124
  t28 := Tryz.underlying125
  a28 := Tryz.isAgg125
  z28 := Tryz.sizeOf125
  v28 := Tryz.zeroValue125
  t33 := Tryz.underlying105
  a33 := Tryz.isAgg105
  z33 := Tryz.sizeOf105
  v33 := Tryz.zeroValue105 }
def sortedS_ren : Go.Shelf.Ren := ⟨fun | 6 => 88 | 8 => 96 | 9 => 97 | 11 => 100 | 13 => 102 | 12 => 101 | 23 => 112 | 24 => 113 | 14 => 103 | 15 => 104 | 16 => 105 | 17 => 106 | 18 => 107 | 19 => 108 | 20 => 109 | 21 => 110 | 22 => 111 | 25 => 114 | 26 => 115 | 27 => 116 | 28 => 117 | 29 => 118 | 30 => 119 | 31 => 120 | n => n, fun | 26 => 9 | 28 => 125 | 24 => 63 | 0 => 0 | 3 => 3 | 37 => 136 | 48 => 147 | 50 => 122 | 4 => 4 | 40 => 140 | 39 => 139 | 45 => 106 | 5 => 5 | 9 => 9 | 51 => 149 | 55 => 153 | 57 => 155 | 58 => 156 | 33 => 105 | n => n, fun | n => n⟩
theorem sortedS : Go.Proofs.SlLaysZ.n6 Tryz.prog sortedS_ren := {
  mixed := by kernel_rfl
  f6 := ⟨Tryz.f88.name, by decide, Tryz.func88.trans (congrArg some (by kernel_rfl))⟩
  f8 := ⟨Tryz.f96.name, by decide, Tryz.func96.trans (congrArg some (by kernel_rfl))⟩
  f11 := ⟨Tryz.f100.name, by decide, Tryz.func100.trans (congrArg some (by kernel_rfl))⟩
  t0 := Tryz.underlying0
  a0 := Tryz.isAgg0
  z0 := Tryz.sizeOf0
  v0 := Tryz.zeroValue0
  t24 := Tryz.underlying63
  a24 := Tryz.isAgg63
  z24 := Tryz.sizeOf63
  v24 := Tryz.zeroValue63
  t26 := Tryz.underlying9
  a26 := Tryz.isAgg9
  z26 := Tryz.sizeOf9
  v26 := Tryz.zeroValue9
  t28 := Tryz.underlying125
  a28 := Tryz.isAgg125
  z28 := Tryz.sizeOf125
  v28 := Tryz.zeroValue125
  i26 := by kernel_rfl }
def sortS_ren : Go.Shelf.Ren := ⟨fun | 6 => 97 | 8 => 102 | 9 => 101 | 19 => 112 | 20 => 113 | 21 => 103 | 22 => 104 | 23 => 105 | 24 => 106 | 25 => 107 | 26 => 108 | 27 => 109 | 28 => 110 | 29 => 111 | 36 => 114 | 31 => 115 | 32 => 116 | 37 => 117 | 38 => 118 | 39 => 119 | 41 => 120 | n => n, fun | 27 => 63 | 29 => 9 | 3 => 3 | 32 => 136 | 26 => 63 | 0 => 0 | 44 => 147 | 46 => 122 | 4 => 4 | 36 => 140 | 35 => 139 | 41 => 106 | 5 => 5 | 9 => 9 | 53 => 149 | 57 => 153 | 63 => 155 | 64 => 156 | n => n, fun | n => n⟩
theorem sortS : Go.Proofs.SlLaysM.n6 Tryz.prog sortS_ren := {
  mixed := by kernel_rfl
  f6 := ⟨Tryz.f97.name, by decide, Tryz.func97.trans (congrArg some (by kernel_rfl))⟩
  f8 := Tryz.func102.trans (congrArg some (by kernel_rfl))
  f9 := ⟨Tryz.f101.name, by decide, Tryz.func101.trans (congrArg some (by kernel_rfl))⟩
  f19 := Tryz.func112.trans (congrArg some (by kernel_rfl))
  f20 := Tryz.func113.trans (congrArg some (by kernel_rfl))
  f21 := ⟨Tryz.f103.name, by decide, Tryz.func103.trans (congrArg some (by kernel_rfl))⟩
  f22 := ⟨Tryz.f104.name, by decide, Tryz.func104.trans (congrArg some (by kernel_rfl))⟩
  f23 := ⟨Tryz.f105.name, by decide, Tryz.func105.trans (congrArg some (by kernel_rfl))⟩
  f24 := ⟨Tryz.f106.name, by decide, Tryz.func106.trans (congrArg some (by kernel_rfl))⟩
  f25 := ⟨Tryz.f107.name, by decide, Tryz.func107.trans (congrArg some (by kernel_rfl))⟩
  f26 := ⟨Tryz.f108.name, by decide, Tryz.func108.trans (congrArg some (by kernel_rfl))⟩
  f27 := ⟨Tryz.f109.name, by decide, Tryz.func109.trans (congrArg some (by kernel_rfl))⟩
  f28 := ⟨Tryz.f110.name, by decide, Tryz.func110.trans (congrArg some (by kernel_rfl))⟩
  f29 := ⟨Tryz.f111.name, by decide, Tryz.func111.trans (congrArg some (by kernel_rfl))⟩
  f31 := Tryz.func115.trans (congrArg some (by kernel_rfl))
  f32 := Tryz.func116.trans (congrArg some (by kernel_rfl))
  f36 := ⟨Tryz.f114.name, by decide, Tryz.func114.trans (congrArg some (by kernel_rfl))⟩
  f37 := ⟨Tryz.f117.name, by decide, Tryz.func117.trans (congrArg some (by kernel_rfl))⟩
  f38 := ⟨Tryz.f118.name, by decide, Tryz.func118.trans (congrArg some (by kernel_rfl))⟩
  f39 := ⟨Tryz.f119.name, by decide, Tryz.func119.trans (congrArg some (by kernel_rfl))⟩
  f41 := ⟨Tryz.f120.name, by decide, Tryz.func120.trans (congrArg some (by kernel_rfl))⟩
  t0 := Tryz.underlying0
  a0 := Tryz.isAgg0
  z0 := Tryz.sizeOf0
  v0 := Tryz.zeroValue0
  t3 := Tryz.underlying3
  a3 := Tryz.isAgg3
  z3 := Tryz.sizeOf3
  v3 := Tryz.zeroValue3
  t4 := Tryz.underlying4
  a4 := Tryz.isAgg4
  z4 := Tryz.sizeOf4
  v4 := Tryz.zeroValue4
  t5 := Tryz.underlying5
  a5 := Tryz.isAgg5
  z5 := Tryz.sizeOf5
  v5 := Tryz.zeroValue5
  t9 := Tryz.underlying9
  a9 := Tryz.isAgg9
  z9 := Tryz.sizeOf9
  v9 := Tryz.zeroValue9
  t26 := Tryz.underlying63
  a26 := Tryz.isAgg63
  z26 := Tryz.sizeOf63
  v26 := Tryz.zeroValue63
  t27 := Tryz.underlying63
  a27 := Tryz.isAgg63
  z27 := Tryz.sizeOf63
  v27 := Tryz.zeroValue63
  t29 := Tryz.underlying9
  a29 := Tryz.isAgg9
  z29 := Tryz.sizeOf9
  v29 := Tryz.zeroValue9
  t32 := Tryz.underlying136
  a32 := Tryz.isAgg136
  z32 := Tryz.sizeOf136
  v32 := Tryz.zeroValue136
  t35 := Tryz.underlying139
  a35 := Tryz.isAgg139
  z35 := Tryz.sizeOf139
  v35 := Tryz.zeroValue139
  t36 := Tryz.underlying140
  a36 := Tryz.isAgg140
  z36 := Tryz.sizeOf140
  v36 := Tryz.zeroValue140
  t41 := Tryz.underlying106
  a41 := Tryz.isAgg106
  z41 := Tryz.sizeOf106
  v41 := Tryz.zeroValue106
  t44 := Tryz.underlying147
  a44 := Tryz.isAgg147
  z44 := Tryz.sizeOf147
  v44 := Tryz.zeroValue147
  t46 := Tryz.underlying122
  a46 := Tryz.isAgg122
  z46 := Tryz.sizeOf122
  v46 := Tryz.zeroValue122
  t53 := Tryz.underlying149
  a53 := Tryz.isAgg149
  z53 := Tryz.sizeOf149
  v53 := Tryz.zeroValue149
  t57 := Tryz.underlying153
  a57 := Tryz.isAgg153
  z57 := Tryz.sizeOf153
  v57 := Tryz.zeroValue153
  t63 := Tryz.underlying155
  a63 := Tryz.isAgg155
  z63 := Tryz.sizeOf155
  v63 := Tryz.zeroValue155
  t64 := Tryz.underlying156
  a64 := Tryz.isAgg156
  z64 := Tryz.sizeOf156
  v64 := Tryz.zeroValue156 }

end Go.Proofs.YtmcbjcbnckpfkaaGreat
