/-
  PfF: simfs: doToFile.
  PfSy: simfs.file.synced.
  PfOf: simfs.chances: numbers that are taken one by one.
-/
import Derived.Test.YtmcbjcbnckpfkaaPn14
import Derived.Test.YtmcbjcbnckpfkaaPn06
import Derived.Test.YtmcbjcbnckpfkaaPn12
import Derived.Test.YtmcbjcbnckpfkaaPn13
import Derived.Test.YtmcbjcbnckpfkaaPn10
import Derived.Test.YtmcbjcbnckpfkaaPn04
namespace Go.Proofs.Ytmcbjcbnckpfkaa
open Go.RowKit
set_option linter.unusedVariables false
section
variable {w : World} {fp : Fp} {s : Nat} {t : Sf.St} {b : Nat} {who : Who} {bf bs bn : Nat} {vr : Sl} {ff : Int → Option RawX} {rn : List RawN}
set_option maxHeartbeats 4000000 in
set_option maxRecDepth 100000 in
theorem pdoToFile_disk (h : PHas w fp 0 t b who bf bs bn vr ff rn) (hf : Sf.Few t) {n : Nat} {x : RawX} (hn : n < t.files.length) (hx : ff (n : Int) = some x) (hX : HasX w who n x (Sf.fileAt t n)) (c : RawC) (m : List Nat) {bl : Nat} (hm : Lv yK w bl (slV c.sl) m) (hbl : bl ≤ w.heap.size) (B0 : Nat) (hB0 : B0 ≤ w.heap.size) (hnew : 0 < m.length → ∀ k, (slV c.sl).ownBlock = some k → who k = none ∧ k < w.heap.size ∧ B0 ≤ k)
    (ha : c.at_ ≤ (Sf.now (Sf.fileAt t n)).length) (hml : m.length ≤ 1048576) (hcut : c.cut = true → m = []) (hD : (Sf.done (Sf.now (Sf.fileAt t n)) ⟨c.cut, c.at_, m⟩).length ≤ 1048576) :
    Calls Try.prog 61 #[.pointer (some ⟨b, 0, none⟩), .int .i64 (n : Nat), cV c] w (fun e w' => e = .returned (.int .i64 ((Sf.add t n ⟨c.cut, c.at_, m⟩).1 : Nat)) ∧ ∃ f', PDisk w' f' (Sf.add t n ⟨c.cut, c.at_, m⟩).2 b ∧ fp.Next f' B0 ∧ Turned fp.M w w') := by
  obtain ⟨f, hfe⟩ : ∃ f, Sf.fileAt t n = f := ⟨_, rfl⟩
  rw [hfe] at hX ha hD
  obtain ⟨rc, hrl, hrow, hacts⟩ := hX.row
  have hnl : (Sf.now f).length ≤ 1048576 := by have := hX.ok.len f.row.length (Nat.le_refl _); rwa [Sf.bytes_all] at this
  have hfr : f.row.length ≤ t.acts := by
    have : f ∈ t.files := by
      rw [← hfe]; unfold Sf.fileAt
      rw [List.getD_eq_getElem?_getD, List.getElem?_eq_getElem hn]; exact List.getElem_mem hn
    exact h.good.frow f this
  have hac := h.good.acts
  have hffl := h.good.files
  -- the box
  obtain ⟨at_, ⟨Ac, nc, cc⟩, cut⟩ := c
  simp only [slV] at hm hnew ha hcut hD ⊢
  change Calls _ _ #[.pointer (some ⟨b, 0, none⟩), .int .i64 (n : Nat), .agg #[.int .i64 (at_ : Nat), .slice Ac nc cc, .bool cut]] w _
  obtain ⟨W, hW⟩ : ∃ W, w.alloc (.cells #[.int .i64 (at_ : Nat), .slice Ac nc cc, .bool cut] 96) = W := ⟨_, rfl⟩
  have hWs : W.heap.size = w.heap.size + 1 := by rw [← hW]; simp
  have hW0 : W.heap[w.heap.size]? = some (.cells #[.int .i64 (at_ : Nat), .slice Ac nc cc, .bool cut] 96 (0, 0)) := by rw [← hW]; exact heap_alloc_new _ _
  have hb : Below w.heap.size w W := by rw [← hW]; exact (Below.refl _ _).alloc (Nat.le_refl _) _
  have HW := h.below hb
  have hTW : Turned (fun _ => False) w W := by rw [← hW]; exact (Turned.refl _ _).alloc _
  have hXW : HasX W who n x f := hX.turned hTW (fun _ h => h.elim)
  have hmW : Lv yK W bl (.slice Ac nc cc) m := hm.below_ hb hbl
  -- the call
  have hap : Apart (slV x.row) (slV x.now) := fun k h1 h2 => by
    have e1 := hX.rowW k h1
    have e2 := hX.nowW k h2
    rw [e1] at e2
    cases e2
  have hap2 : 0 < m.length → Apart (.slice Ac nc cc) (slV x.now) := fun hp k h1 h2 => by
    have e1 := (hnew hp k h1).1
    have e2 := hX.nowW k h2
    rw [e1] at e2
    cases e2
  have hap3 : 0 < m.length → Apart (.slice Ac nc cc) (slV x.row) := fun hp k h1 h2 => by
    have e1 := (hnew hp k h1).1
    have e2 := hX.rowW k h2
    rw [e1] at e2
    cases e2
  have hrowW : OwnL cK W 0 (slV x.row) rc := hrow.turned_ hTW (fun _ _ h => h)
  have hnowW : OwnL yK W 0 (slV x.now) (Sf.now f) := hXW.now
  have CC := Lib.hid (pchanged_any ⟨at_, ⟨Ac, nc, cc⟩, cut⟩ x (Sf.now f) m rc W.drew bl hrowW.drew_ hnowW.drew_ hmW.drew_ (by have := hb.size; show bl ≤ W.heap.size; omega) hap hap2 hap3 ha (by omega) (by omega) (by show at_ ≤ _; omega) (by omega))
  change Hid (Calls _ _ #[xV x, .agg #[.int .i64 (at_ : Nat), .slice Ac nc cc, .bool cut]] W.drew _) at CC
  -- what stays
  obtain ⟨F, hF⟩ : ∃ F : Nat → Prop, (fun k => (slV x.row).ownBlock = some k ∨ (slV x.now).ownBlock = some k) = F := ⟨_, rfl⟩
  rw [hF] at CC
  have HFW : Hid (∀ k, F k → who k = some (.frow n) ∨ who k = some (.fnow n)) := fun k hk => by rw [← hF] at hk; exact hk.imp (fun h => hX.rowW k h) (fun h => hX.nowW k h)
  have HFN : Hid (∀ k r, who k = some r → r ≠ .frow n → r ≠ .fnow n → ¬ F k) := fun k r hk h1 h2 hf => by
    rcases HFW.out k hf with h | h <;> rw [hk] at h
    · exact h1 (Option.some.inj h)
    · exact h2 (Option.some.inj h)
  have HHC : Hid (∀ w', Turned F W w' → IsHead w' b (headP t bf bs bn vr)) := fun w' ht => (ht.block b (HW.lt b (by rw [HW.mine]; rfl)) (HFN.out b _ h.mine (by simp) (by simp))).trans HW.head
  have HC : Hid (∀ w', Turned F W w' → w'.cell? ⟨b, 1, none⟩ = some (.map (some bf))) := fun w' ht => head_cellP (HHC.out w' ht) rfl
  have HY : Hid (∀ w', Turned F W w' → w'.cell? ⟨w.heap.size, 0, none⟩ = some (.int .i64 (at_ : Nat)) ∧ w'.cell? ⟨w.heap.size, 1, none⟩ = some (.slice Ac nc cc) ∧ w'.cell? ⟨w.heap.size, 2, none⟩ = some (.bool cut)) := fun w' ht => by
    have hh := (ht.block w.heap.size (by omega) (fun hf => by
      have h2 := h.new (Nat.le_refl w.heap.size)
      rcases HFW.out _ hf with h3 | h3 <;> rw [h2] at h3 <;> cases h3)).trans hW0
    exact ⟨by rw [cell_of_row _ _ 0 _ _ _ hh]; rfl, by rw [cell_of_row _ _ 1 _ _ _ hh]; rfl, by rw [cell_of_row _ _ 2 _ _ _ hh]; rfl⟩
  have hni : (Lit.int .i64 (n : Int)).wf = true := WalkArith.wf_i64 (by omega)
  have HMP : Hid (∀ w', Turned F W w' → IsMp fM w' bf (64 + t.acts + 0) ff) := fun w' ht => HW.body.files.turned_ ht (HFN.out bf _ h.body.filesW (by simp) (by simp))
  have HLK : Hid (∀ w', Turned F W w' → (Instr.lookup 45 (.map (some bf)) (.int .i64 (n : Nat)) false).run Try.prog w' = .ok (xV x) w') := fun w' ht => by
    have := (HMP.out w' ht).look (x := (n : Int)) hni
    rw [hx] at this
    exact this
  have HH := Lib.hid h
  have HFEW := Lib.hid hf
  have HX := Lib.hid hX
  have HBW := Lib.hid hb
  have HS0 : Hid (Turned F W W.drew) := (Turned.refl F W).drew
  have HNI := Lib.hid hni
  have HAC : Hid (t.acts ≤ 1099511627776 ∧ n < t.files.length ∧ f.row.length ≤ t.acts ∧ B0 ≤ w.heap.size ∧ W.heap.size = w.heap.size + 1 ∧ rc.length = f.row.length) := ⟨hac, hn, hfr, hB0, hWs, hrl⟩
  have HXE := Lib.hid hx
  obtain ⟨C, hC⟩ : ∃ C, xV x = C := ⟨_, rfl⟩
  rw [hC] at CC HLK
  have HACTS := Lib.hid hacts
  have HNEW := Lib.hid hnew
  have HM0 := Lib.hid hm
  have HDL := Lib.hid hD
  have HAT := Lib.hid ha
  have HCUT := Lib.hid hcut
  have HML := Lib.hid hml
  have HFE := Lib.hid hfe
  clear hf hX hXW hnew hm hD ha hcut hml hfe hrow hacts hap hap2 hap3 hrowW hnowW hb HW hTW hmW hF hni hac hffl hfr hnl h hx
  go_enter Try.func61, Try.ntmps61
  go_wp2
  refine wp_region_m (fun w' => Turned F W w') 13 (by kernel_rfl) ?_
  have hH := HS0.out
  refine wpAnyM_take (i := 0) (v := ?_) rfl (by kernel_rfl) (by kernel_rfl) (by kernel_rfl) (by kernel_rfl) (fun _ _ _ h => h) hH (Or.inl ⟨by rfl, (by intro w' hSw; go_simp; first | done | with_reducible rfl)⟩) ?_
  try simp only [Act.put, List.getElem_toArray, List.getElem_cons_zero, List.setIfInBounds_toArray, List.set_cons_zero, List.set_cons_succ]
  refine wpAnyM_take (i := 1) (v := ?_) rfl (by kernel_rfl) (by kernel_rfl) (by kernel_rfl) (by kernel_rfl) (fun _ _ _ h => h) hH (Or.inl ⟨by rfl, (by intro w' hSw; go_simp; first | done | with_reducible rfl)⟩) ?_
  try simp only [Act.put, List.getElem_toArray, List.getElem_cons_succ, List.getElem_cons_zero, List.setIfInBounds_toArray, List.set_cons_zero, List.set_cons_succ]
  refine wpAnyM_take (i := 2) (v := ?_) rfl (by kernel_rfl) (by kernel_rfl) (by kernel_rfl) (by kernel_rfl) (fun _ _ _ h => h) hH (Or.inl ⟨by rfl, (by intro w' hSw; go_simp; first | done | with_reducible rfl)⟩) ?_
  try simp only [Act.put, List.getElem_toArray, List.getElem_cons_succ, List.getElem_cons_zero, List.setIfInBounds_toArray, List.set_cons_zero, List.set_cons_succ]
  refine wpAnyM_take (i := 3) (v := ?_) rfl (by kernel_rfl) (by kernel_rfl) (by kernel_rfl) (by kernel_rfl) (fun _ _ _ h => h) hH (Or.inl ⟨by rfl, (by intro w' hSw; have s1 := HC.out w' hSw; go_simp; first | done | with_reducible rfl)⟩) ?_
  try simp only [Act.put, List.getElem_toArray, List.getElem_cons_succ, List.getElem_cons_zero, List.setIfInBounds_toArray, List.set_cons_zero, List.set_cons_succ]
  refine wpAnyM_take (i := 4) (v := ?_) rfl (by kernel_rfl) (by kernel_rfl) (by kernel_rfl) (by kernel_rfl) (fun _ _ _ h => h) hH (Or.inl ⟨by rfl, (by intro w' hSw; go_simp; first | done | with_reducible rfl)⟩) ?_
  try simp only [Act.put, List.getElem_toArray, List.getElem_cons_succ, List.getElem_cons_zero, List.setIfInBounds_toArray, List.set_cons_zero, List.set_cons_succ]
  refine wpAnyM_take (i := 5) (v := ?_) rfl (by kernel_rfl) (by kernel_rfl) (by kernel_rfl) (by kernel_rfl) (fun _ _ _ h => h) hH (Or.inl ⟨by rfl, (by intro w' hSw; go_simp; first | done | with_reducible rfl)⟩) ?_
  try simp only [Act.put, List.getElem_toArray, List.getElem_cons_succ, List.getElem_cons_zero, List.setIfInBounds_toArray, List.set_cons_zero, List.set_cons_succ]
  refine wpAnyM_take (i := 6) (v := ?_) rfl (by kernel_rfl) (by kernel_rfl) (by kernel_rfl) (by kernel_rfl) (fun _ _ _ h => h) hH (Or.inl ⟨by rfl, (by intro w' hSw; go_simp; first | done | with_reducible rfl)⟩) ?_
  try simp only [Act.put, List.getElem_toArray, List.getElem_cons_succ, List.getElem_cons_zero, List.setIfInBounds_toArray, List.set_cons_zero, List.set_cons_succ]
  refine wpAnyM_take (i := 7) (v := ?_) rfl (by kernel_rfl) (by kernel_rfl) (by kernel_rfl) (by kernel_rfl) (fun _ _ _ h => h) hH (Or.inl ⟨by rfl, (by intro w' hSw; go_simp; first | done | with_reducible rfl)⟩) ?_
  try simp only [Act.put, List.getElem_toArray, List.getElem_cons_succ, List.getElem_cons_zero, List.setIfInBounds_toArray, List.set_cons_zero, List.set_cons_succ]
  refine wpAnyM_take (i := 8) (v := ?_) rfl (by kernel_rfl) (by kernel_rfl) (by kernel_rfl) (by kernel_rfl) (fun _ _ _ h => h) hH (Or.inl ⟨by rfl, (by intro w' hSw; have s1 := HC.out w' hSw; go_simp; first | done | with_reducible rfl)⟩) ?_
  try simp only [Act.put, List.getElem_toArray, List.getElem_cons_succ, List.getElem_cons_zero, List.setIfInBounds_toArray, List.set_cons_zero, List.set_cons_succ]
  refine wpAnyM_take (i := 9) (v := ?_) rfl (by kernel_rfl) (by kernel_rfl) (by kernel_rfl) (by kernel_rfl) (fun _ _ _ h => h) hH (Or.inl ⟨by rfl, (by intro w' hSw; go_simp; first | done | with_reducible rfl)⟩) ?_
  try simp only [Act.put, List.getElem_toArray, List.getElem_cons_succ, List.getElem_cons_zero, List.setIfInBounds_toArray, List.set_cons_zero, List.set_cons_succ]
  refine wpAnyM_take (i := 10) (v := ?_) rfl (by kernel_rfl) (by kernel_rfl) (by kernel_rfl) (by kernel_rfl) (fun _ _ _ h => h) hH (Or.inl ⟨by rfl, (by intro w' hSw; have s1 := HLK.out w' hSw; go_simp; first | done | with_reducible rfl)⟩) ?_
  try simp only [Act.put, List.getElem_toArray, List.getElem_cons_succ, List.getElem_cons_zero, List.setIfInBounds_toArray, List.set_cons_zero, List.set_cons_succ]
  refine wpAnyM_take (i := 11) (v := ?_) rfl (by kernel_rfl) (by kernel_rfl) (by kernel_rfl) (by kernel_rfl) (fun _ _ _ h => h) hH (Or.inl ⟨by rfl, (by intro w' hSw; obtain ⟨s0, s1, s2⟩ := HY.out w' hSw; go_simp; first | done | with_reducible rfl)⟩) ?_
  try simp only [Act.put, List.getElem_toArray, List.getElem_cons_succ, List.getElem_cons_zero, List.setIfInBounds_toArray, List.set_cons_zero, List.set_cons_succ]
  refine wpAnyM_next (i := 12) (by kernel_rfl) rfl (fun K hK => ?_)
  go_simp
  refine CC.out.mono ?_
  rintro e W3 ⟨u, v, rfl, hr3, hn3, hT3, hmu, hmv, hap3⟩
  have hTW3 : Turned F W W3 := HS0.out.trans hT3 (fun _ _ h => h)
  have HR3 := Lib.hid hr3
  have HN3 := Lib.hid hn3
  have HMU : Hid (Moved w (slV x.row) (slV u)) := fun k hk => (hmu k hk).imp id (fun h => by have := HBW.out.size; have h2 : W.heap.size ≤ k := h; omega)
  have HMV : Hid (Moved w (slV x.now) (slV v)) := fun k hk => (hmv k hk).imp id (fun h => by have := HBW.out.size; have h2 : W.heap.size ≤ k := h; omega)
  have HAP := Lib.hid hap3
  have HT3 := Lib.hid hTW3
  obtain ⟨w4, hup, hm4, hg4⟩ := (HMP.out W3 hTW3).upd (by have := HAC.out; simp only [maxLen]; omega) HNI.out (⟨x.sure, u, v⟩ : RawX)
  change (Instr.mapUpdate 45 (.map (some bf)) (.int .i64 (n : Nat)) (xV ⟨x.sure, u, v⟩)).run Try.prog W3 = .ok () w4 at hup
  obtain ⟨D, hDD⟩ : ∃ D, xV ⟨x.sure, u, v⟩ = D := ⟨_, rfl⟩
  rw [hDD] at hup
  rw [hDD]
  have HM4 := Lib.hid hm4
  have HG4 := Lib.hid hg4
  refine hK.out _ _ (.inr hTW3) ?_
  clear hK K hr3 hn3 hT3 hmu hmv hap3 hTW3 hm4 hg4 CC hDD
  try simp only [Act.put, List.getElem_toArray, List.getElem_cons_succ, List.getElem_cons_zero, List.setIfInBounds_toArray, List.set_cons_zero, List.set_cons_succ]
  refine wpAnyM_next (i := 13) (by kernel_rfl) rfl (fun K hK => ?_)
  go_simp
  refine hK.out _ _ (.inl (Nat.le_refl _)) ?_
  clear hK K hup
  try simp only [Act.put, List.getElem_toArray, List.getElem_cons_succ, List.getElem_cons_zero, List.setIfInBounds_toArray, List.set_cons_zero, List.set_cons_succ]
  refine wpAnyM_done (by kernel_rfl) ?_ _
  -- the roles
  have HT4 : Hid (Turned (fun k => F k ∨ k = bf) w w4) := ((((Turned.of_below HBW.out).mono (G := fun k => F k ∨ k = bf) (fun k hk h => absurd hk (by omega))).trans HT3.out (fun _ _ h => .inl h))).trans (Turned.of_grown HG4.out) (fun k _ h => .inr (Option.some.inj h).symm)
  have hw1 : ∃ who1 : Who, More who who1 ∧ (0 < m.length → Bears who1 (.slice Ac nc cc) .bytes) ∧ (∀ k, (who1 k).isSome → (who k).isSome ∨ (B0 ≤ k ∧ k < w.heap.size)) ∧ ∀ k, (who k ≠ none ∨ w.heap.size ≤ k) → who1 k = who k := by
    by_cases h0 : 0 < m.length
    · refine ⟨lab who (.slice Ac nc cc) .bytes, lab_more (fun k hk => .inl (HNEW.out h0 k hk).1), fun _ => lab_bears _ _ _, fun k hk => (lab_some hk).imp id (fun h => ⟨(HNEW.out h0 k h).2.2, (HNEW.out h0 k h).2.1⟩), fun k hk => lab_old fun h => ?_⟩
      obtain ⟨e1, e2, _⟩ := HNEW.out h0 k h
      rcases hk with hk | hk
      · exact hk e1
      · omega
    · exact ⟨who, More.refl _, fun h => absurd h h0, fun k hk => .inl hk, fun _ _ => rfl⟩
  obtain ⟨who1, q1, q2, q3, q4⟩ := hw1
  have r1 : More who1 (lab who1 (slV u) (.frow n)) := lab_more fun k hk => by
    rcases HMU.out k hk with h | h
    · have h2 := HX.out.rowW k h
      rw [q4 k (.inl (by rw [h2]; simp))]
      exact .inr h2
    · rw [q4 k (.inr h)]
      exact .inl (HH.out.new h)
  have r2 : More (lab who1 (slV u) (.frow n)) (lab (lab who1 (slV u) (.frow n)) (slV v) (.fnow n)) := lab_more fun k hk => by
    have hne : (slV u).ownBlock ≠ some k := fun h => HAP.out k h hk
    rw [lab_old hne]
    rcases HMV.out k hk with h | h
    · have h2 := HX.out.nowW k h
      rw [q4 k (.inl (by rw [h2]; simp))]
      exact .inr h2
    · rw [q4 k (.inr h)]
      exact .inl (HH.out.new h)
  obtain ⟨who', hwho⟩ : ∃ who', lab (lab who1 (slV u) (.frow n)) (slV v) (.fnow n) = who' := ⟨_, rfl⟩
  have hmore : More who who' := by rw [← hwho]; exact (q1.trans r1).trans r2
  have hsm : ∀ k, (who' k).isSome → (who k).isSome ∨ (B0 ≤ k ∧ k < w4.heap.size) := fun k hk => by
    have hs4 := HT4.out.size
    have hs34 := HG4.out.size
    rw [← hwho] at hk
    rcases lab_some hk with hk | hk
    · rcases lab_some hk with hk | hk
      · exact (q3 k hk).imp id (fun h => ⟨h.1, by omega⟩)
      · have h3 := (HR3.out.lt_ k hk).2
        rcases HMU.out k hk with h | h
        · exact .inl (by rw [HX.out.rowW k h]; rfl)
        · exact .inr ⟨by have := HAC.out; omega, by omega⟩
    · have h3 := (HN3.out.lt_ k hk).2
      rcases HMV.out k hk with h | h
      · exact .inl (by rw [HX.out.nowW k h]; rfl)
      · exact .inr ⟨by have := HAC.out; omega, by omega⟩
  have hu4 : OwnL cK w4 0 (slV u) (rc ++ [⟨at_, ⟨Ac, nc, cc⟩, cut⟩]) := HR3.out.turned_ (Turned.of_grown HG4.out) (fun k hk e => by
    obtain rfl : bf = k := Option.some.inj e
    have h1 := r1 bf .files (q1 _ _ HH.out.body.filesW)
    rw [lab_bears _ _ _ bf hk] at h1
    cases h1)
  have hv4 : OwnL yK w4 0 (slV v) (Sf.done (Sf.now f) ⟨cut, at_, m⟩) := HN3.out.turned_ (Turned.of_grown HG4.out) (fun k hk e => by
    obtain rfl : bf = k := Option.some.inj e
    have h1 := r2 bf .files (r1 bf .files (q1 _ _ HH.out.body.filesW))
    rw [lab_bears _ _ _ bf hk] at h1
    cases h1)
  have noF : ∀ k r, who k = some r → r ≠ .frow n → r ≠ .fnow n → r ≠ .files → ¬ (F k ∨ k = bf) := fun k r hk h1 h2 h3 hf => hf.elim (HFN.out k r hk h1 h2) (fun e => by rw [e, HH.out.body.filesW] at hk; exact h3 (Option.some.inj hk).symm)
  have noF2 : ∀ r, r ≠ .frow n → r ≠ .fnow n → r ≠ .files → ∀ k, (F k ∨ k = bf) → who k ≠ some r := fun r h1 h2 h3 k hf hk => noF k r hk h1 h2 h3 hf
  have hbl4 : bl ≤ w4.heap.size := by have := HT4.out.size; omega
  have hX4 : HasX w4 who' n ⟨x.sure, u, v⟩ ⟨f.sure, f.row ++ [⟨cut, at_, m⟩]⟩ := by
    refine ⟨HX.out.sure.turned_ HT4.out (HX.out.sureW.off (noF2 _ (by simp) (by simp) (by simp))), HX.out.sureW.more hmore, by rw [Sf.now_add]; exact hv4, by rw [← hwho]; exact lab_bears _ _ _, ⟨rc ++ [⟨at_, ⟨Ac, nc, cc⟩, cut⟩], by have := HAC.out; simp; omega, hu4, fun j r a hr ha => ?_⟩, ?_, fun h => by simp at h, ?_⟩
    · by_cases hj : j < rc.length
      · rw [List.getElem?_append_left hj] at hr
        have hjf : j < f.row.length := by have := HAC.out; omega
        rw [List.getElem?_append_left hjf] at ha
        exact ((HACTS.out j r a hr ha).turned HT4.out (noF2 _ (by simp) (by simp) (by simp))).more hmore
      · have hlen : rc.length = f.row.length := HAC.out.2.2.2.2.2
        have hj2 : j = rc.length := by
          have := (List.getElem?_eq_some_iff.1 hr).1
          simp at this
          omega
        subst hj2
        simp only [List.getElem?_append_right (Nat.le_refl _), Nat.sub_self, List.getElem?_cons_zero, Option.some.injEq] at hr
        subst hr
        rw [hlen] at ha
        simp only [List.getElem?_append_right (Nat.le_refl _), Nat.sub_self, List.getElem?_cons_zero, Option.some.injEq] at ha
        subst ha
        refine ⟨rfl, rfl, ((HM0.out.turnedB_ HT4.out (fun hp k hk hf => ?_)).mono_ hbl4), fun hp => ((q2 hp).more r1).more (by rw [← hwho]; exact r2)⟩
        have e1 := (HNEW.out hp k hk).1
        rcases hf with hf | hf
        · rcases HFW.out k hf with h | h <;> rw [e1] at h <;> cases h
        · rw [hf, HH.out.body.filesW] at e1; cases e1
    · rw [← hwho]; exact (lab_bears who1 (slV u) (.frow n)).more r2
    · exact HX.out.ok.more ⟨HAT.out, HML.out, HCUT.out⟩ HDL.out (by have := HAC.out; omega)
  have hP4 : PHas w4 (fpOf who') 1 { t with files := t.files.set n ⟨f.sure, f.row ++ [⟨cut, at_, m⟩]⟩ } b who' bf bs bn vr (fun k => if k = (n : Int) then some ⟨x.sure, u, v⟩ else ff k) rn := by
    refine ⟨?_, HH.out.body.set_file (q := 1) HAC.out.2.1 HXE.out _ _ hmore HT4.out (fun k hk => ?_) HM4.out hX4 (Nat.zero_le _), HH.out.good.set_file (by have := HAC.out; simp; omega) (Nat.zero_le _), hmore _ _ HH.out.mine, fun k => Iff.rfl, fun k h => h, fun k hk => ?_⟩
    · rw [head_set_file]
      exact (HT4.out.block b (HH.out.lt b (by rw [HH.out.mine]; rfl)) (noF b _ HH.out.mine (by simp) (by simp) (by simp))).trans HH.out.head
    · rcases hk with hk | hk
      · exact (HFW.out k hk).elim (fun h => .inr (.inr (.inr (.inr (.inl h))))) (fun h => .inr (.inr (.inr (.inr (.inr h)))))
      · rw [hk]; exact .inr (.inr (.inl HH.out.body.filesW))
    · rcases hsm k hk with h | h
      · exact Nat.lt_of_lt_of_le (HH.out.lt k h) HT4.out.size
      · exact h.2
  have HP4 := Lib.hid hP4
  have HE : Hid (Sf.add t n ⟨cut, at_, m⟩ = Sf.blown { t with files := t.files.set n ⟨f.sure, f.row ++ [⟨cut, at_, m⟩]⟩ }) := by unfold Hid Sf.add; rw [HFE.out]
  have HNX : Hid (fp.Next (fpOf who') B0) := ⟨fun k hk => (hsm k hk).elim (fun h => .inl ((HH.out.m k).2 h)) (fun h => .inr h.1), fun k hk => hk.elim⟩
  have HTM : Hid (Turned fp.M w w4) := HT4.out.mono fun k _ hk => (HH.out.m k).2 (by
    rcases hk with hk | hk
    · rcases HFW.out k hk with h | h <;> rw [h] <;> rfl
    · rw [hk, HH.out.body.filesW]; rfl)
  obtain ⟨t4, ht4⟩ : ∃ u : Sf.St, { t with files := t.files.set n ⟨f.sure, f.row ++ [⟨cut, at_, m⟩]⟩ } = u := ⟨_, rfl⟩
  have HA4 : Hid (t4.acts < 1099511627776) := by rw [← ht4]; exact HFEW.out
  rw [ht4] at HP4 HE
  have CA := Lib.hid (pact_disk HP4.out HA4.out)
  clear q1 q2 q3 q4 r1 r2 hmore hsm hu4 hv4 noF noF2 hX4 hP4 ht4 hwho
  go_wp2_with fail
  refine CA.out.mono ?_
  rintro e6 w6 ⟨rfl, hD, hT⟩
  have HD6 := Lib.hid hD
  have HT6 := Lib.hid hT
  clear CA hD hT
  go_wp2
  go_ret
  rw [HE.out]
  refine ⟨rfl, fpOf who', ⟨_, _, _, _, _, _, _, HD6.out⟩, HNX.out, HTM.out.trans HT6.out (fun k hk e => ?_)⟩
  rw [e]
  exact (HH.out.m b).2 (by rw [HH.out.mine]; rfl)
end
end Go.Proofs.Ytmcbjcbnckpfkaa
namespace Go.Proofs.Ytmcbjcbnckpfkaa
open Go.RowKit
set_option linter.unusedVariables false
set_option maxHeartbeats 4000000 in
set_option maxRecDepth 100000 in
theorem psynced_any {who : Who} {i : Nat} {x : RawX} {f : Sf.File} (w : World) (hX : HasX w who i x f) :
    Calls Try.prog 45 #[xV x] w (fun e w' => ∃ u : Sl, e = .returned (xV ⟨u, ⟨none, 0, 0⟩, x.now⟩) ∧ OwnL yK w' 0 (slV u) (Sf.now f) ∧
      Turned (fun k => (slV x.sure).ownBlock = some k) w w' ∧ Moved w (slV x.sure) (slV u)) := by
  obtain ⟨rc, hrl, hrow, hacts⟩ := hX.row
  have hsu := hX.sure
  have hsw := hX.sureW
  have hrw := hX.rowW
  have hok := hX.ok
  clear hX
  obtain ⟨⟨A1, n1, c1⟩, ⟨A2, n2, c2⟩, ⟨A3, n3, c3⟩⟩ := x
  simp only [slV] at hrow hsu hsw hrw ⊢
  change Calls _ _ #[.agg #[.slice A1 n1 c1, .slice A2 n2 c2, .slice A3 n3 c3]] w _
  have hrv := hrow.form_
  obtain ⟨rfl, hn2, _⟩ := hrv.len_
  obtain ⟨W, hW⟩ : ∃ W, (w.alloc (.cells #[.slice A1 n1 c1, .slice A2 rc.length c2, .slice A3 n3 c3] 75)).alloc (.cells #[.slice none 0 0, .slice none 0 0, .slice none 0 0] 75) = W := ⟨_, rfl⟩
  have hWs : W.heap.size = w.heap.size + 2 := by rw [← hW]; simp
  have hW0 : W.heap[w.heap.size]? = some (.cells #[.slice A1 n1 c1, .slice A2 rc.length c2, .slice A3 n3 c3] 75 (0, 0)) := by
    rw [← hW, heap_alloc_old _ _ (by simp)]; exact heap_alloc_new _ _
  have hW1 : W.heap[w.heap.size + 1]? = some (.cells #[.slice none 0 0, .slice none 0 0, .slice none 0 0] 75 (0, 0)) := by
    rw [← hW]
    have := heap_alloc_new (w.alloc (.cells #[.slice A1 n1 c1, .slice A2 rc.length c2, .slice A3 n3 c3] 75)) (.cells #[.slice none 0 0, .slice none 0 0, .slice none 0 0] 75)
    simpa using this
  have hb : Below w.heap.size w W := by rw [← hW]; exact ((Below.refl _ _).alloc (Nat.le_refl _) _).alloc (by simp) _
  obtain ⟨p, hp⟩ : ∃ p, w.heap.size = p := ⟨_, rfl⟩
  rw [hp] at hW0 hW1 hb hWs
  obtain ⟨F, hF⟩ : ∃ F : Nat → Prop, (fun k => (Value.slice A1 n1 c1).ownBlock = some k) = F := ⟨_, rfl⟩
  have HFL : Hid (∀ k, F k → k < p) := fun k hk => by rw [← hF] at hk; rw [← hp]; exact (hsu.lt_ k hk).2
  -- what may be turned: where the bytes lay, the box, and what is new
  obtain ⟨G, hG⟩ : ∃ G : Nat → Prop, (fun k => F k ∨ k = p ∨ p + 2 ≤ k) = G := ⟨_, rfl⟩
  have HG : Hid (∀ k, G k ↔ (F k ∨ k = p ∨ p + 2 ≤ k)) := fun k => by rw [← hG]
  have HFW : Hid (∀ k, F k → who k = some (.fsure i)) := fun k hk => by rw [← hF] at hk; exact hsw k hk
  have HFI : Hid (∀ j, (Value.slice A1 n1 c1).ownBlock = some j ↔ F j) := fun j => by rw [← hF]
  have HROW : Hid (∀ wr, Turned G W wr → Lv cK wr p (.slice A2 rc.length c2) rc) := fun wr ht => by
    have h1 : OwnL cK W 0 (.slice A2 rc.length c2) rc := hrow.below_ hb (by omega)
    have h2 := (h1.turned_ ht (fun k hk hg => by
      rcases (HG.out k).1 hg with h | h
      · have e1 := HFW.out k h
        rw [hrw k hk] at e1
        cases e1
      · have h3 := (hrow.lt_ k hk).2
        omega))
    have h4 := (hrv.below_ hb (by omega)).turnedB_ ht (fun _ k hk hg => by
      rcases (HG.out k).1 hg with h | h
      · have e1 := HFW.out k h
        rw [hrw k hk] at e1
        cases e1
      · have h3 := (hrow.lt_ k hk).2
        omega)
    rw [← hp]
    exact h4
  have HACT : Hid (∀ (wr : World) (j : Nat) (r : RawC) (a : Sf.Act), Turned G W wr → rc[j]? = some r → f.row[j]? = some a → r.cut = a.cut ∧ r.at_ = a.at_ ∧ Lv yK wr p (slV r.sl) a.b ∧ (0 < a.b.length → ∀ k, (slV r.sl).ownBlock = some k → k < p ∧ who k = some .bytes)) := fun wr j r a ht hr ha => by
    have h := hacts j r a hr ha
    have hlv : Lv yK w p (slV r.sl) a.b := by rw [← hp]; exact h.lv
    have hblk : 0 < a.b.length → ∀ k, (slV r.sl).ownBlock = some k → k < p ∧ who k = some .bytes := fun h0 k hk => by
      refine ⟨?_, h.blk h0 k hk⟩
      obtain ⟨A, c, e, _, _, _, _, h5⟩ := hlv
      obtain ⟨b, off, rfl, hbp, _⟩ := h5 h0
      rw [e] at hk
      have e2 : b = k := Option.some.inj hk
      omega
    refine ⟨h.cut, h.at_, (hlv.below_ hb (Nat.le_refl _)).turnedB_ ht (fun h0 k hk hg => ?_), hblk⟩
    obtain ⟨h6, h7⟩ := hblk h0 k hk
    rcases (HG.out k).1 hg with h | h
    · have e1 := HFW.out k h
      rw [h7] at e1
      cases e1
    · omega
  have HZ : Hid (∀ wr, Turned G W wr → Rw wr (p + 1) 75 #[.slice none 0 0, .slice none 0 0, .slice none 0 0]) := fun wr ht => (ht.block _ (by omega) (fun hg => by
    rcases (HG.out _).1 hg with h | h
    · have := HFL.out _ h; omega
    · omega)).trans hW1
  have HS0 : Hid (OwnL yK W 0 (.slice A1 n1 c1) (Sf.bytes f 0)) := hsu.below_ hb (by omega)
  have HR0 : Hid (Rw W p 75 #[.slice A1 n1 c1, .slice A2 rc.length c2, .slice A3 n3 c3]) := hW0
  have HBW := Lib.hid hb
  have HWS := Lib.hid hWs
  have HOK := Lib.hid hok
  have HRL := Lib.hid hrl
  have HP := Lib.hid hp
  have f1 : W.cell? ⟨p, 1, none⟩ = some (.slice A2 rc.length c2) := by rw [HR0.out.cell]; rfl
  have hl : rc.length ≤ 9223372036854775807 := by have := hok.row; omega
  clear hrow hsu hsw hrw hok hacts hrv hn2 hW0 hW1 hb hF hG hrl
  go_enter Try.func45, Try.ntmps45
  go_wp2
  go_loopw [8] (fun i wr => ∃ (k : Nat) (u : Sl), k ≤ rc.length ∧ i = .int .i64 k ∧ Hid (Turned G W wr) ∧ Hid (Rw wr p 75 #[slV u, .slice A2 rc.length c2, .slice A3 n3 c3]) ∧ Hid (OwnL yK wr 0 (slV u) (Sf.bytes f k)) ∧ Hid (∀ j, (slV u).ownBlock = some j → F j ∨ p + 2 ≤ j)) (fun i _ => rc.length - (intOf i).toNat)
  case atStart => exact ⟨0, ⟨A1, n1, c1⟩, Nat.zero_le _, rfl, Turned.refl _ _, HR0.out, HS0.out, fun j hj => .inl ((HFI.out j).1 hj)⟩
  case round =>
    obtain ⟨k, u, hk, rfl, HT, HR, HO, HM⟩ := hrel
    have hRv := HROW.out wr HT.out
    have f1r : wr.cell? ⟨p, 1, none⟩ = some (.slice A2 rc.length c2) := by rw [HR.out.cell]; rfl
    by_cases hlt : k < rc.length
    · obtain ⟨b, off, r, rfl, hbp, _, hr, hc⟩ := hRv.at_ hlt
      have e0 : wr.cell? ⟨b, off + k * 3, none⟩ = some (.int .i64 (r.at_ : Nat)) := hc 0 _ rfl
      have e1 : wr.cell? ⟨b, off + k * 3 + 1, none⟩ = some (.slice r.sl.A r.sl.n r.sl.c) := hc 1 _ rfl
      have e2 : wr.cell? ⟨b, off + k * 3 + 2, none⟩ = some (.bool r.cut) := hc 2 _ rfl
      have hkf : k < f.row.length := by have := HRL.out; omega
      obtain ⟨a, ha⟩ : ∃ a, f.row[k]? = some a := ⟨_, List.getElem?_eq_getElem hkf⟩
      obtain ⟨q1, q2, q3, q4⟩ := HACT.out wr k r a HT.out hr ha
      obtain ⟨o1, o2, o3⟩ := HOK.out.at_ k a ha
      have o4 := HOK.out.len k (by omega)
      have HBS := Lib.hid (Sf.bytes_succ ha)
      obtain ⟨at_, ⟨Ac, nc, cc⟩, cut⟩ := r
      obtain ⟨acut, aat, ab⟩ := a
      simp only at q1 q2 q3 q4 o1 o2 o3 e0 e1 e2
      subst q1 q2
      simp only [slV] at q3 q4
      obtain ⟨wp, hwp⟩ : ∃ wp, wr.alloc (.cells #[.int .i64 (at_ : Nat), .slice Ac nc cc, .bool cut] 96) = wp := ⟨_, rfl⟩
      have hgp : wr.grownBy wp none := by rw [← hwp]; exact World.grownBy_alloc wr _ none
      have hsp : wp.heap.size = wr.heap.size + 1 := by rw [← hwp]; simp
      have hbxp : wp.heap[wr.heap.size]? = some (.cells #[.int .i64 (at_ : Nat), .slice Ac nc cc, .bool cut] 96 (0, 0)) := by rw [← hwp]; exact heap_alloc_new _ _
      have hsr := HT.out.size
      have hW2 := HWS.out
      have d0 : wp.cell? ⟨wr.heap.size, 0, none⟩ = some (.int .i64 (at_ : Nat)) := by rw [cell_of_row _ _ 0 _ _ _ hbxp]; rfl
      have d1 : wp.cell? ⟨wr.heap.size, 1, none⟩ = some (.slice Ac nc cc) := by rw [cell_of_row _ _ 1 _ _ _ hbxp]; rfl
      have d2 : wp.cell? ⟨wr.heap.size, 2, none⟩ = some (.bool cut) := by rw [cell_of_row _ _ 2 _ _ _ hbxp]; rfl
      obtain ⟨uA, un, uc⟩ := u
      simp only [slV] at HR HO HM
      have HRp : Hid (Rw wp p 75 #[.slice uA un uc, .slice (some ⟨b, off, none⟩) rc.length c2, .slice A3 n3 c3]) := (hgp.block p (by omega) (by simp)).trans HR.out
      have g0 : wp.cell? ⟨p, 0, none⟩ = some (.slice uA un uc) := by rw [HRp.out.cell]; rfl
      have HOp : OwnL yK wp 0 (.slice uA un uc) (Sf.bytes f k) := HO.out.kept_ hgp (by cases h : (Value.slice uA un uc).ownBlock <;> simp)
      have hmp : Lv yK wp p (.slice Ac nc cc) ab := q3.kept_ hgp (by omega) (by simp)
      have hap : 0 < ab.length → Apart (.slice Ac nc cc) (.slice uA un uc) := fun h0 j h1 h2 => by
        obtain ⟨h3, h4⟩ := q4 h0 j h1
        rcases HM.out j h2 with h | h
        · have h5 := HFW.out j h
          rw [h4] at h5
          cases h5
        · omega
      have CD := Lib.hid (pcdo_any ⟨at_, ⟨Ac, nc, cc⟩, cut⟩ (.slice uA un uc) (Sf.bytes f k) 0 p ab wp HOp hmp hap o1 (by omega) (by omega) (Nat.zero_le _) (by omega))
      change Hid (Calls _ _ #[.agg #[.int .i64 (at_ : Nat), .slice Ac nc cc, .bool cut], .slice uA un uc] wp _) at CD
      have hki : (k : Int) < (rc.length : Int) := by omega
      have wk : IntKind.i64.wrap ((k : Int) + 1) = (k : Int) + 1 := by rw [IntKind.wrap_i64]; omega
      have HWP := Lib.hid hsp
      have HSR := Lib.hid hsr
      have HGP := Lib.hid hgp
      clear hc hr ha q3 q4 o1 o2 o3 o4 hkf hRv hgp hbxp hsp hsr hW2 HOp hmp hap hbp
      go_wp2_with fail
      refine CD.out.mono ?_
      rintro e W2 ⟨Av, cv, rfl, hd, hg2, hmv⟩
      have HD2 := Lib.hid hd
      have HG2 := Lib.hid hg2
      have HMV := Lib.hid hmv
      have HR2 : Hid (Rw W2 p 75 #[.slice uA un uc, .slice (some ⟨b, off, none⟩) rc.length c2, .slice A3 n3 c3]) := (hg2.block p HRp.out.lt (fun e => by
        have h1 := own_ne HO.out HR.out (by decide)
        exact h1 e.symm)).trans HRp.out
      have g2 : W2.cell? ⟨p, 0, none⟩ = some (.slice uA un uc) := by rw [HR2.out.cell]; rfl
      have z2 := HR2.out.frozen 0
      clear CD hd hg2 hmv
      go_wp2
      go_roundw
      case rel =>
        have hnb : (Value.slice uA un uc).ownBlock ≠ some p := own_ne HO.out HR.out (by decide)
        have hnv : p ≠ wp.heap.size := by have := HRp.out.lt; omega
        have hav : (Value.slice Av (Sf.done (Sf.bytes f k) ⟨cut, at_, ab⟩).length cv).ownBlock ≠ some p := fun e => own_ne HD2.out HR2.out (by decide) e
        refine ⟨k + 1, ⟨Av, (Sf.done (Sf.bytes f k) ⟨cut, at_, ab⟩).length, cv⟩, hlt, by go_num, ?_, HR2.out.set 0 _, ?_, fun j hj => ?_⟩
        · have t1 : Turned G W wp := HT.out.trans (Turned.of_grown HGP.out) (fun j _ h => by cases h)
          have t2 : Turned G W W2 := t1.trans (Turned.of_grown HG2.out) (fun j _ h => (HG.out j).2 (by
            rcases HM.out j h with h | h
            · exact .inl h
            · exact .inr (.inr h)))
          exact t2.setCell (fun _ => (HG.out p).2 (.inr (.inl rfl))) _
        · rw [HBS.out]
          exact HD2.out.of_block fun j hj => by
            unfold World.setCell
            have : j ≠ p := fun e => hav (by rw [← e]; exact hj)
            simp only [Array.getElem?_modify, Ne.symm this, if_false]
        · rcases HMV.out j hj with h | h
          · exact HM.out j h
          · exact .inr (by have := HWP.out; have := HSR.out; have := HWS.out; omega)
      case measure => simp [intOf]; omega
    · obtain rfl : k = rc.length := by omega
      have hki : ¬ ((rc.length : Int) < (rc.length : Int)) := by omega
      have z1 := HR.out.frozen 1
      obtain ⟨uA, un, uc⟩ := u
      simp only [slV] at HR HO HM
      obtain ⟨w4, hw4⟩ : ∃ w4, wr.setCell ⟨p, 1, none⟩ (.slice none 0 0) = w4 := ⟨_, rfl⟩
      have HR4 : Hid (Rw w4 p 75 #[.slice uA un uc, .slice none 0 0, .slice A3 n3 c3]) := by unfold Hid; rw [← hw4]; exact HR.out.set 1 _
      have HZ4 : Hid (Rw w4 (p + 1) 75 #[.slice none 0 0, .slice none 0 0, .slice none 0 0]) := by unfold Hid; rw [← hw4]; exact (HZ.out wr HT.out).setOther (by omega) _ _
      have k0 : w4.cell? ⟨p, 0, none⟩ = some (.slice uA un uc) := by rw [HR4.out.cell]; rfl
      have k1 : w4.cell? ⟨p, 1, none⟩ = some (.slice none 0 0) := by rw [HR4.out.cell]; rfl
      have k2 : w4.cell? ⟨p, 2, none⟩ = some (.slice A3 n3 c3) := by rw [HR4.out.cell]; rfl
      have j0 : w4.cell? ⟨p + 1, 0, none⟩ = some (.slice none 0 0) := by rw [HZ4.out.cell]; rfl
      have y0 := HZ4.out.frozen 0
      obtain ⟨w5, hw5⟩ : ∃ w5, w4.setCell ⟨p + 1, 0, none⟩ (.slice uA un uc) = w5 := ⟨_, rfl⟩
      have HZ5 : Hid (Rw w5 (p + 1) 75 #[.slice uA un uc, .slice none 0 0, .slice none 0 0]) := by unfold Hid; rw [← hw5]; exact HZ4.out.set 0 _
      have j1 : w5.cell? ⟨p + 1, 1, none⟩ = some (.slice none 0 0) := by rw [HZ5.out.cell]; rfl
      have y1 := HZ5.out.frozen 1
      obtain ⟨w6, hw6⟩ : ∃ w6, w5.setCell ⟨p + 1, 1, none⟩ (.slice none 0 0) = w6 := ⟨_, rfl⟩
      have HZ6 : Hid (Rw w6 (p + 1) 75 #[.slice uA un uc, .slice none 0 0, .slice none 0 0]) := by unfold Hid; rw [← hw6]; exact HZ5.out.set 1 _
      have j2 : w6.cell? ⟨p + 1, 2, none⟩ = some (.slice none 0 0) := by rw [HZ6.out.cell]; rfl
      have y2 := HZ6.out.frozen 2
      obtain ⟨w7, hw7⟩ : ∃ w7, w6.setCell ⟨p + 1, 2, none⟩ (.slice A3 n3 c3) = w7 := ⟨_, rfl⟩
      have HZ7 : Hid (Rw w7 (p + 1) 75 #[.slice uA un uc, .slice none 0 0, .slice A3 n3 c3]) := by unfold Hid; rw [← hw7]; exact HZ6.out.set 2 _
      have l0 : w7.cell? ⟨p + 1, 0, none⟩ = some (.slice uA un uc) := by rw [HZ7.out.cell]; rfl
      have l1 : w7.cell? ⟨p + 1, 1, none⟩ = some (.slice none 0 0) := by rw [HZ7.out.cell]; rfl
      have l2 : w7.cell? ⟨p + 1, 2, none⟩ = some (.slice A3 n3 c3) := by rw [HZ7.out.cell]; rfl
      have hT4 : Turned G W w4 := by rw [← hw4]; exact HT.out.setCell (fun _ => (HG.out p).2 (.inr (.inl rfl))) _
      have hT7 : Turned (fun k => G k ∨ k = p + 1) W w7 := by
        rw [← hw7, ← hw6, ← hw5]
        exact (((hT4.mono fun k _ h => .inl h).setCell (p := ⟨p + 1, 0, none⟩) (fun _ => .inr rfl) _).setCell (p := ⟨p + 1, 1, none⟩) (fun _ => .inr rfl) _).setCell (p := ⟨p + 1, 2, none⟩) (fun _ => .inr rfl) _
      have hO7 : OwnL yK w7 0 (.slice uA un uc) (Sf.bytes f rc.length) := HO.out.of_block fun k hk => by
        have n1 : k ≠ p := fun e => own_ne HO.out HR.out (by decide) (by rw [← e]; exact hk)
        have n2 : k ≠ p + 1 := fun e => own_ne HO.out (HZ.out wr HT.out) (by decide) (by rw [← e]; exact hk)
        have s1 : ∀ (v : World) (a : Nat) (o : Nat) (x : Value), k ≠ a → (v.setCell ⟨a, o, none⟩ x).heap[k]? = v.heap[k]? := fun v a o x h => by
          unfold World.setCell
          simp only [Array.getElem?_modify, Ne.symm h, if_false]
        rw [← hw7, s1 _ _ _ _ n2, ← hw6, s1 _ _ _ _ n2, ← hw5, s1 _ _ _ _ n2, ← hw4, s1 _ _ _ _ n1]
      have HO7 := Lib.hid hO7
      have HT7 := Lib.hid hT7
      clear hRv hT4 hT7 hO7
      go_wp2
      refine bodyPost_ret (v := .agg #[.slice uA un uc, .slice none 0 0, .slice A3 n3 c3]) (results_cell_row rfl _ _ (p + 1) 75 #[.slice uA un uc, .slice none 0 0, .slice A3 n3 c3] (0, 0) _ rfl HZ7.out Try.underlying75 rfl (by kernel_rfl)) rfl ⟨⟨uA, un, uc⟩, rfl, ?_, ?_, ?_⟩
      · have h := HO7.out
        rwa [HRL.out, Sf.bytes_all] at h
      · have t1 : Turned (fun k => (Value.slice A1 n1 c1).ownBlock = some k ∨ p ≤ k) w W := (Turned.of_below HBW.out).mono fun k _ h => .inr h
        have t2 := t1.trans HT7.out (fun k _ h => by
          rcases h with h | h
          · rcases (HG.out k).1 h with h | h
            · exact .inl ((HFI.out k).2 h)
            · exact .inr (by omega)
          · exact .inr (by omega))
        exact t2.mono fun k hk h => h.elim id (fun h => by have := HP.out; omega)
      · intro j hj
        rcases HM.out j hj with h | h
        · exact .inl ((HFI.out j).2 h)
        · exact .inr (by have := HP.out; omega)
end Go.Proofs.Ytmcbjcbnckpfkaa
namespace Go.Proofs.Ytmcbjcbnckpfkaa
open Go.RowKit
set_option linter.unusedVariables false
/-- The numbers that are not taken yet. -/
def Left (w : World) (p B : Nat) (l : List Int) : Prop := B ≤ p ∧ ∃ v, Rw w p 85 #[v] ∧ Lv iK w B v l
theorem Left.lt {w : World} {p B : Nat} {l : List Int} (h : Left w p B l) : p < w.heap.size := by
  obtain ⟨_, v, h, _⟩ := h
  exact h.lt
theorem Left.turned {w w' : World} {p B : Nat} {l : List Int} {F : Nat → Prop} (h : Left w p B l) (ht : Turned F w w') (hF : ∀ k, F k → B ≤ k ∧ k ≠ p) : Left w' p B l := by
  obtain ⟨hb, v, h1, h2⟩ := h
  refine ⟨hb, v, (ht.block p h1.lt (fun h => (hF p h).2 rfl)).trans h1, h2.turnedB_ ht (fun h0 k hk hf => ?_)⟩
  obtain ⟨A, c, e, _, _, _, _, h5⟩ := h2
  obtain ⟨b, off, rfl, hbp, _⟩ := h5 h0
  rw [e] at hk
  have e2 : b = k := Option.some.inj hk
  have := (hF k hf).1
  omega
set_option maxHeartbeats 4000000 in
set_option maxRecDepth 100000 in
theorem pof_any (w : World) (p B : Nat) (l : List Int) (h : Left w p B l) (m : Nat) (hm0 : 0 < m) (hm : m < 9223372036854775808) :
    Calls Try.prog 50 #[.pointer (some ⟨p, 0, none⟩), .int .i64 (m : Nat)] w (fun e w' => e = .returned (.int .i64 (Sf.took l m : Nat)) ∧ Left w' p B (l.drop 1) ∧ Turned (fun k => k = p) w w') := by
  have HH := Lib.hid h
  obtain ⟨hB, v, hp, hv⟩ := h
  have H0 := Lib.hid hv
  have HP := Lib.hid hp
  obtain ⟨A, c, rfl, hc1, hc2, _, _⟩ := hv
  have d0 : w.cell? ⟨p, 0, none⟩ = some (.slice A l.length c) := by rw [hp.cell]; rfl
  have z0 := hp.frozen 0
  cases l with
  | nil =>
    clear hp hc1 hc2
    simp only [List.length_nil] at d0
    go_enter Try.func50, Try.ntmps50
    go_wp2
    go_ret
    exact ⟨rfl, HH.out, Turned.refl _ _⟩
  | cons x r =>
    obtain ⟨b, off, y, rfl, hb, hx, hq, hcell⟩ := H0.out.int_ (k := 0) (by simp)
    simp only [List.getElem?_cons_zero, Option.some.injEq] at hq
    subst hq
    obtain ⟨A', k1, k2, hdr, _⟩ := cut_from iK rfl (some ⟨b, off, none⟩) (x :: r).length c 1 (by simp) hc1
    have hn : (x :: r).length = r.length + 1 := rfl
    rw [hn] at d0 k1 k2 hdr hc1
    change ∀ w, (Instr.slice 24 (.slice (some ⟨b, off, none⟩) (r.length + 1) c) (some (.int .i64 1)) none none).run Try.prog w = .ok (.slice A' r.length (c - 1)) w at k1
    change ∀ w, (Instr.sliceAt 24 (.slice (some ⟨b, off, none⟩) (r.length + 1) c) (some (.int .i64 1)) none none).run Try.prog w = .ok (.slice A' r.length (c - 1)) w at k2
    have hl : r.length + 1 ≤ 9223372036854775807 := by simp only [maxLen] at hc2; omega
    have q : (((r.length + 1 : Nat) : Int) == 0) = false := by rw [beq_eq_false_iff_ne]; omega
    have q2 : (0 : Int) < ((r.length + 1 : Nat) : Int) := by omega
    obtain ⟨W, hW⟩ : ∃ W, w.setCell ⟨p, 0, none⟩ (.slice A' r.length (c - 1)) = W := ⟨_, rfl⟩
    have hT : Turned (fun k => k = p) w W := by rw [← hW]; exact Turned.setCell (F := fun k => k = p) (Turned.refl (fun k => k = p) w) (p := ⟨p, 0, none⟩) (fun _ => rfl) _
    have hL : Left W p B r := ⟨hB, .slice A' r.length (c - 1), by rw [← hW]; exact hp.set 0 _, by
      have h1 := hdr w B (x :: r) (by rw [← hn]; exact H0.out)
      have h2 : Lv iK w B (.slice A' r.length (c - 1)) r := h1
      exact h2.turnedB_ hT (fun h0 k hk e => by
        obtain ⟨A2, c2, e2, _, _, _, _, h5⟩ := h2
        obtain ⟨b2, off2, rfl, hbp, _⟩ := h5 h0
        rw [e2] at hk
        have e3 : b2 = k := Option.some.inj hk
        omega)⟩
    have HL := Lib.hid hL
    have HT := Lib.hid hT
    obtain ⟨X, hX⟩ : ∃ X, (x % 18446744073709551616).toNat = X := ⟨_, rfl⟩
    have wu : IntKind.u64.wrap x = (X : Int) := by rw [IntKind.wrap_u64]; omega
    have wm : IntKind.u64.wrap (m : Int) = (m : Int) := by rw [IntKind.wrap_u64]; omega
    have HLF : Hid (Sf.took (x :: r) m = X % m) := by unfold Hid; show Sf.left x m = _; unfold Sf.left; rw [hX]
    obtain ⟨R, hR⟩ : ∃ R, X % m = R := ⟨_, rfl⟩
    have hRm : R < m := by rw [← hR]; exact Nat.mod_lt _ hm0
    have wr1 : (X : Int) % (m : Int) = (R : Int) := by rw [← hR]; omega
    have wr2 : IntKind.i64.wrap (R : Int) = (R : Int) := by rw [IntKind.wrap_i64]; omega
    have wr3 : wrap64 (R : Int) = (R : Int) := by unfold wrap64; omega
    have hm1 : ¬ (m : Int) = 0 := by omega
    rw [hR] at HLF
    rw [Nat.add_zero] at hcell
    clear hp hc1 hc2 hdr hL hT hX hR hb hx hB hn
    go_enter Try.func50, Try.ntmps50
    go_wp2
    go_ret
    rw [HLF.out]
    exact ⟨rfl, HL.out, HT.out⟩
end Go.Proofs.Ytmcbjcbnckpfkaa
