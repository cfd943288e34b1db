/-
  RSfR: stookref14: a disk behind an act; SyncDir.
  RSfS: stookref14: turn.
  SetC: One cell of an element of several cells is set, in an own list.
-/
import Derived.Test.YtmcbjcbnckpfkaaGreatPk26
import Derived.Test.YtmcbjcbnckpfkaaGreatPk01
namespace Go.Proofs.YtmcbjcbnckpfkaaGreat
open Go.RowKit
set_option linter.unusedVariables false
theorem blown_same (t : Sf.St) : (Sf.blown t).2.room = t.room ∧ (Sf.blown t).2.files = t.files ∧ (Sf.blown t).2.row = t.row ∧ (Sf.blown t).2.seen = t.seen ∧ (Sf.blown t).2.sure = t.sure ∧ (Sf.blown t).2.acts = t.acts + 1 ∧ (Sf.blown t).2.fuse ≤ t.fuse := by
  unfold Sf.blown
  split
  · exact ⟨rfl, rfl, rfl, rfl, rfl, rfl, Nat.le_refl _⟩
  · split
    · exact ⟨rfl, rfl, rfl, rfl, rfl, rfl, Nat.zero_le _⟩
    · exact ⟨rfl, rfl, rfl, rfl, rfl, rfl, Nat.sub_le _ _⟩
theorem Good.blown {t : Sf.St} (h : Good t) (hf : Sf.Few t) : Good (Sf.blown t).2 := by
  obtain ⟨h0, h1, h2, h3, h4, h5, h6⟩ := blown_same t
  unfold Sf.Few at hf
  have := h.fuse
  exact h.same h0 h1 h2 h3 h4 (by omega) (by omega) (by omega)
section
variable {w w' : World} {f : Fp} {t : Sf.St} {b : Nat} {vf vs vr vu : Value} {rf : List RawF} {rr : List Sl}
/-- blown, of a whole disk. -/
theorem RHas.blown (h : RHas w f t b vf vs vr vu rf rr) (hf : Sf.Few t) :
    Calls Tryz.prog 86 #[.pointer (some ⟨b, 0, none⟩)] w (fun e w' => e = .returned (.int .i64 ((Sf.blown t).1 : Nat)) ∧ RHas w' f (Sf.blown t).2 b vf vs vr vu rf rr ∧ Turned (fun k => k = b) w w') := by
  have ha := h.good.acts
  refine (rblown_head w t b vf vs vr vu h.head (by omega) h.good.fuse).mono ?_
  rintro e w1 ⟨rfl, hw, ht⟩
  obtain ⟨h0, h1, h2, h3, h4, h5, h6⟩ := blown_same t
  exact ⟨rfl, h.turn_head hw ht h1 h2 h3 h4 (h.good.blown hf), ht⟩
/-- The directory is made sure. -/
theorem RHas.sure_dir (h : RHas w f t b vf vs vr vu rf rr) (hw : w'.heap[b]? = some (.cells (headC t vf vu (.slice none 0 0) vu) 53 (0, 0))) (ht : Turned (fun k => k = b) w w') : RHas w' f { t with sure := t.seen, row := [] } b vf vu (.slice none 0 0) vu rf [] := by
  have B := h.body.turned ht (fun k e hr => h.sep k (e ▸ h.mine) hr) (fun k hk e => h.files_ne (e ▸ hk)) (fun k hk e => h.row_ne (e ▸ hk)) (fun i x hx k hk e => h.acts_ne i x hx (e ▸ hk))
  exact {
    head := hw
    body := { nfiles := B.nfiles, files := B.files, file := B.file, filesM := B.filesM, apart := B.apart, nrow := rfl, row := OwnL.nil_ _ _ _, rows := fun i u d hu => (by simp at hu), rowM := fun k hk => (by cases hk), seen := B.seen, sure := B.seen }
    good := { room := h.good.room, files := h.good.files, rows := Nat.zero_le _, acts := h.good.acts, fuse := h.good.fuse, sure := h.good.seen, seen := h.good.seen, row := fun d hd => (by cases hd), frow := h.good.frow, inv := ⟨h.good.inv.nums, h.good.inv.lt⟩ }
    mine := h.mine
    lt := fun k hk => Nat.lt_of_lt_of_le (h.lt k hk) ht.size
    sep := h.sep }
end
section
variable {w : World} {f : Fp} {t : Sf.St} {b : Nat}
set_option maxHeartbeats 2000000 in
set_option maxRecDepth 100000 in
theorem rsyncDir_disk (h : RDiskM w f t b) (hf : Sf.Few t) : Calls Tryz.prog 37 #[.pointer (some ⟨b, 0, none⟩)] w (IsDeed RDiskM f b (Sf.syncDir t) w) := by
  have HD := Lib.hid h
  obtain ⟨vf, vs, vr, vu, rf, rr, h⟩ := h
  obtain ⟨Au, cu, eu, _⟩ := h.body.seen.lv
  obtain ⟨nu, hnu⟩ : ∃ n, t.seen.length = n := ⟨_, rfl⟩
  rw [hnu] at eu
  subst eu
  have CB := Lib.hid (h.blown hf)
  have hm := h.mine
  have d7 : w.cell? ⟨b, 7, none⟩ = some (.bool t.dead) := h.cell rfl
  clear h
  cases hd : t.dead with
  | true =>
    have HE : Hid (Sf.syncDir t = (13, t)) := by unfold Hid Sf.syncDir; rw [hd]; rfl
    rw [hd] at d7
    clear hd CB
    go_enter Tryz.func37, Tryz.ntmps37
    go_wp2
    go_ret
    rw [HE.out]
    exact ⟨rfl, f, HD.out, Fp.Next.refl _ _, Turned.refl _ _⟩
  | false =>
    rw [hd] at d7
    have hsn := (blown_same t).2.2.2.1
    obtain ⟨r, t1, hbl⟩ : ∃ r t1, Sf.blown t = (r, t1) := ⟨_, _, rfl⟩
    replace hsn : t1.seen = t.seen := by rw [hbl] at hsn; exact hsn
    have HE : Hid (Sf.syncDir t = if r ≠ 0 then (r, t1) else (0, { t1 with sure := t1.seen, row := [] })) := by
      unfold Hid Sf.syncDir
      rw [hd, hbl, ← hsn]
      rfl
    rw [hbl] at CB
    clear hd hbl hsn
    by_cases h0 : r = 0
    · have hq : ((r : Int) == 0) = true := by rw [beq_iff_eq]; omega
      have HE2 : Hid (Sf.syncDir t = (0, { t1 with sure := t1.seen, row := [] })) := HE.out.trans (if_neg (by simpa using h0))
      have HR : Hid (r = 0) := h0
      clear HE h0
      go_enter Tryz.func37, Tryz.ntmps37
      go_wp2_with fail
      refine CB.out.mono ?_
      rintro e1 w1 ⟨rfl, hX, hT⟩
      have HX := Lib.hid hX
      have d4 : w1.cell? ⟨b, 4, none⟩ = some (.slice Au nu cu) := hX.cell rfl
      have d2 : w1.cell? ⟨b, 2, none⟩ = some vs := hX.cell rfl
      have z2 : w1.frozen? ⟨b, 2, none⟩ = false := frozen_of_row w1 b 2 _ _ hX.head
      have h2 := head_set hX.head 2 (.slice Au nu cu) (C' := headC t1 vf (.slice Au nu cu) vr (.slice Au nu cu)) rfl
      have T2 := Turned.setCell (F := fun k => k = b) (Turned.refl (fun k => k = b) w1) (p := ⟨b, 2, none⟩) (fun _ => rfl) (.slice Au nu cu)
      obtain ⟨w2, hw2⟩ : ∃ w2, w1.setCell ⟨b, 2, none⟩ (.slice Au nu cu) = w2 := ⟨_, rfl⟩
      rw [hw2] at h2 T2
      have d3 : w2.cell? ⟨b, 3, none⟩ = some vr := head_cell h2 rfl
      have z3 : w2.frozen? ⟨b, 3, none⟩ = false := frozen_of_row w2 b 3 _ _ h2
      have h3 := head_set h2 3 (.slice none 0 0) (C' := headC t1 vf (.slice Au nu cu) (.slice none 0 0) (.slice Au nu cu)) rfl
      have T3 := Turned.setCell (F := fun k => k = b) T2 (p := ⟨b, 3, none⟩) (fun _ => rfl) (.slice none 0 0)
      obtain ⟨w3, hw3⟩ : ∃ w3, w2.setCell ⟨b, 3, none⟩ (.slice none 0 0) = w3 := ⟨_, rfl⟩
      rw [hw3] at h3 T3
      have HY := Lib.hid (hX.sure_dir h3 T3)
      have HT := Lib.hid ((hT.trans T3 (fun k _ hk => hk)).mono (G := f.M) (fun k _ hk => hk ▸ hm))
      clear CB hX hT h2 T2 h3 T3
      go_wp2
      go_ret
      rw [HE2.out]
      exact ⟨by rw [HR.out]; rfl, f, ⟨_, _, _, _, _, _, HY.out⟩, Fp.Next.refl _ _, HT.out⟩
    · have hq : ((r : Int) == 0) = false := by rw [beq_eq_false_iff_ne]; omega
      have HE2 : Hid (Sf.syncDir t = (r, t1)) := HE.out.trans (if_pos h0)
      clear HE h0
      go_enter Tryz.func37, Tryz.ntmps37
      go_wp2_with fail
      refine CB.out.mono ?_
      rintro e1 w1 ⟨rfl, hX, hT⟩
      have HX := Lib.hid hX
      have HT := Lib.hid (hT.mono (G := f.M) (fun k _ hk => hk ▸ hm))
      clear CB hX hT
      go_wp2
      go_ret
      rw [HE2.out]
      exact ⟨rfl, f, ⟨_, _, _, _, _, _, HX.out⟩, Fp.Next.refl _ _, HT.out⟩
end
end Go.Proofs.YtmcbjcbnckpfkaaGreat
namespace Go.Proofs.YtmcbjcbnckpfkaaGreat
open Go.RowKit
set_option linter.unusedVariables false
/-- Two lists of one's own of two kinds lie in two blocks. -/
theorem own_two {P : Program} {α β : Type} {K : El P α} {K' : El P β} {w : World} {base base' : Nat} {v u : Value} {l : List α} {m : List β} (h : OwnL K w base v l) (h' : OwnL K' w base' u m) (hT : K'.e ≠ K.e) {k : Nat} (hk : v.ownBlock = some k) : u.ownBlock ≠ some k := by
  intro e
  rcases h'.2 with ⟨rfl, _⟩ | ⟨g, s, rfl, _, _, _, hh⟩
  · cases e
  · have eg : g = k := Option.some.inj e
    subst eg
    exact own_kind h hh hT hk
theorem HasFile.mono {w : World} {f f' : Fp} {x : RawF} {g : Sf.File} (h : HasFile w f x g) (hM : ∀ k, f.M k → f'.M k) (hR : ∀ k, f.R k → f'.R k) : HasFile w f' x g := by
  obtain ⟨h1, ⟨ra, h2, h3, h4⟩, h5, h6⟩ := h
  exact ⟨h1.mono hR, ⟨ra, h2, h3, fun i r a hr ha => ⟨(h4 i r a hr ha).1, (h4 i r a hr ha).2.1, (h4 i r a hr ha).2.2.mono hR⟩⟩, fun k hk => hM k (h5 k hk), h6⟩
section
variable {w : World} {f : Fp} {t : Sf.St} {b : Nat} {vf vs vr vu : Value} {rf : List RawF} {rr : List Sl}
theorem RHas.row_two (h : RHas w f t b vf vs vr vu rf rr) {k : Nat} (hk : vr.ownBlock = some k) : vf.ownBlock ≠ some k := fun e => own_two h.body.files h.body.row (by decide) e hk
theorem RHas.act_two (h : RHas w f t b vf vs vr vu rf rr) {i : Nat} {x : RawF} (hx : rf[i]? = some x) {k : Nat} (hk : vr.ownBlock = some k) : (slV x.row).ownBlock ≠ some k := fun e => by
  have hi : i < t.files.length := by have := (List.getElem?_eq_some_iff.1 hx).1; have := h.body.nfiles; omega
  obtain ⟨ra, _, ho, _⟩ := (h.body.file i x _ hx (List.getElem?_eq_getElem hi)).acts
  exact own_two ho h.body.row (by decide) e hk
/-- A disk with another directory. -/
theorem RHas.turn_dir (h : RHas w f t b vf vs vr vu rf rr) (hf : Sf.Few t) {w5 w7 : World} {A3 : Option Addr} {c3 : Nat} {sl : Sl} {d : Sf.Dir}
    (hv : Lv eK w w.heap.size (slV sl) d) (hblk : 0 < d.length → ∀ k, (slV sl).ownBlock = some k → ¬ f.M k ∧ k < w.heap.size)
    (hlen : d.length ≤ 64) (hlt : ∀ e ∈ d, e.2 < t.files.length) (hnd : (d.map (·.2)).Nodup)
    (hA : OwnL rK w5 0 (.slice A3 (rr.length + 1) c3) (rr ++ [sl])) (hM : ∀ k, (Value.slice A3 (rr.length + 1) c3).ownBlock = some k → vr.ownBlock = some k ∨ w.heap.size ≤ k)
    (T : Turned (fun k => k = b ∨ vr.ownBlock = some k) w w7) (T5 : Turned (fun k => k = b) w5 w7)
    (hw : w7.heap[b]? = some (.cells (headC (Sf.turn t d).2 vf vs (.slice A3 (rr.length + 1) c3) (slV sl)) 53 (0, 0))) :
    RHas w7 ⟨fun k => f.M k ∨ (Value.slice A3 (rr.length + 1) c3).ownBlock = some k, fun k => f.R k ∨ (0 < d.length ∧ (slV sl).ownBlock = some k)⟩ (Sf.turn t d).2 b vf vs (.slice A3 (rr.length + 1) c3) (slV sl) rf (rr ++ [sl]) := by
  obtain ⟨h0, h1, h2, h3, h4, h5, h6⟩ := blown_same { t with seen := d, row := t.row ++ [d] }
  have hb : b < w.heap.size := h.lt b (.inl h.mine)
  have FM : ∀ k, (k = b ∨ vr.ownBlock = some k) → f.M k := fun k hk => hk.elim (fun e => e ▸ h.mine) (fun e => h.body.rowM k e)
  have FR : ∀ k, (k = b ∨ vr.ownBlock = some k) → ¬ f.R k := fun k hk => h.sep k (FM k hk)
  have hd0 : Rd eK w (fun k => 0 < d.length ∧ (slV sl).ownBlock = some k) (slV sl) d := ⟨hv, fun hp k hk => ⟨hp, hk⟩⟩
  have hd := (hd0.turned T (fun k hk he => (hblk he.1 k he.2).1 (FM k hk))).mono (R' := fun k => f.R k ∨ (0 < d.length ∧ (slV sl).ownBlock = some k)) (fun k hk => .inr hk)
  have hbk : (Value.slice A3 (rr.length + 1) c3).ownBlock ≠ some b := fun e => (hM b e).elim (fun e => h.row_ne e) (fun e => by omega)
  unfold Sf.turn at hw ⊢
  refine ⟨hw, Body.same (t := { t with seen := d, row := t.row ++ [d] }) ?_ h1 h2 h3 h4, ?_, .inl h.mine, ?_, ?_⟩
  · exact {
      nfiles := h.body.nfiles
      files := h.body.files.turned_ T (fun k hk hF => hF.elim (fun e => h.files_ne (e ▸ hk)) (fun e => h.row_two e hk))
      file := fun i x g hx hg => ((h.body.file i x g hx hg).turned T FR (fun k hk hF => hF.elim (fun e => h.acts_ne i x hx (e ▸ hk)) (fun e => h.act_two hx e hk))).mono (fun k hk => .inl hk) (fun k hk => .inl hk)
      filesM := fun k hk => .inl (h.body.filesM k hk)
      apart := h.body.apart
      nrow := by rw [List.length_append, List.length_append, h.body.nrow]; rfl
      row := hA.turned_ T5 (fun k hk e => hbk (e ▸ hk))
      rows := fun i u g hu hg => by
        by_cases hi : i < rr.length
        · rw [List.getElem?_append_left hi] at hu
          have hg' : t.row[i]? = some g := by
            have hg : (t.row ++ [d])[i]? = some g := hg
            rw [List.getElem?_append_left (by rw [← h.body.nrow]; exact hi)] at hg
            exact hg
          exact ((h.body.rows i u g hu hg').turned T FR).mono (fun k hk => .inl hk)
        · have hl : i < (rr ++ [sl]).length := (List.getElem?_eq_some_iff.1 hu).1
          have ei : i = rr.length := by simp at hl; omega
          subst ei
          have eu : sl = u := by simpa using hu
          have eg : d = g := by
            have hg : (t.row ++ [d])[rr.length]? = some g := hg
            rw [h.body.nrow] at hg
            simpa using hg
          subst eu eg
          exact hd
      rowM := fun k hk => .inr hk
      seen := hd
      sure := (h.body.sure.turned T FR).mono (fun k hk => .inl hk) }
  · have g := h.good
    unfold Sf.Few at hf
    exact {
      room := by rw [h0]; exact g.room
      files := by rw [h1, h5]; have := g.files; show t.files.length ≤ 64 + (t.acts + 1); omega
      rows := by rw [h2, h5]; have := g.rows; show (t.row ++ [d]).length ≤ t.acts + 1; simp; omega
      acts := by rw [h5]; show t.acts + 1 ≤ _; omega
      fuse := Nat.lt_of_le_of_lt h6 g.fuse
      sure := by rw [h4, h1]; exact g.sure
      seen := by rw [h3, h1]; exact ⟨hlen, hlt⟩
      row := by
        rw [h2, h1]
        intro e he
        rcases List.mem_append.1 he with he | he
        · exact g.row e he
        · simp at he; subst he; exact ⟨hlen, hlt⟩
      frow := by rw [h1, h5]; exact fun e he => Nat.le_trans (g.frow e he) (Nat.le_succ _)
      inv := ⟨by rw [h3]; exact hnd, by rw [h3, h1]; exact hlt⟩ }
  · intro k hk
    rcases hk with (hk | hk) | (hk | hk)
    · exact Nat.lt_of_lt_of_le (h.lt k (.inl hk)) T.size
    · exact Nat.lt_of_lt_of_le (hA.lt_ k hk).2 T5.size
    · exact Nat.lt_of_lt_of_le (h.lt k (.inr hk)) T.size
    · exact Nat.lt_of_lt_of_le (hblk hk.1 k hk.2).2 T.size
  · intro k hk hr
    rcases hk with hk | hk <;> rcases hr with hr | hr
    · exact h.sep k hk hr
    · exact (hblk hr.1 k hr.2).1 hk
    · rcases hM k hk with e | e
      · exact h.sep k (h.body.rowM k e) hr
      · have := h.lt k (.inr hr); omega
    · rcases hM k hk with e | e
      · exact (hblk hr.1 k hr.2).1 (h.body.rowM k e)
      · have := (hblk hr.1 k hr.2).2; omega
end
end Go.Proofs.YtmcbjcbnckpfkaaGreat
namespace Go.Proofs.YtmcbjcbnckpfkaaGreat
open Go.RowKit
set_option linter.unusedVariables false

section
variable {P : Program} {α : Type} {K : El P α} {w : World} {base : Nat} {l : List α}
theorem flat_setc {l : List α} {i j : Nat} {x x' : α} {u : Value} (hi : l[i]? = some x) (hj : j < K.size) (hx : K.enc x' = (K.enc x).set j u) : (K.flat l).set (i * K.size + j) u = K.flat (l.set i x') := by
  induction l generalizing i with
  | nil => simp at hi
  | cons y r ih =>
    rw [flat_cons]
    cases i with
    | zero =>
      simp at hi
      subst hi
      rw [Nat.zero_mul, Nat.zero_add, List.set_append_left _ _ (by rw [K.len]; exact hj), List.set_cons_zero, flat_cons, hx]
    | succ i =>
      simp at hi
      rw [List.set_append_right _ _ (by rw [K.len, Nat.succ_mul]; omega), K.len, List.set_cons_succ, flat_cons, ← ih hi]
      congr 2
      rw [Nat.succ_mul]
      omega
theorem OwnL.setc_ {g c n : Nat} (h : OwnL K w base (.slice (some ⟨g, 0, none⟩) n c) l) {i j : Nat} {x x' : α} {u : Value} (hi : l[i]? = some x) (hj : j < K.size) (hx : K.enc x' = (K.enc x).set j u) (hok : K.ok x') :
    OwnL K (w.setCell ⟨g, i * K.size + j, none⟩ u) base (.slice (some ⟨g, 0, none⟩) n c) (l.set i x') ∧ w.grownBy (w.setCell ⟨g, i * K.size + j, none⟩ u) (some g) := by
  rcases h.2 with ⟨e, rfl⟩ | ⟨g', s, e, hb, hs, hm, hh⟩
  · cases e
  · injection e with e1 e2 e3
    injection e1 with e1
    injection e1 with e1
    subst e1 e2 e3
    have hil : i < l.length := (List.getElem?_eq_some_iff.1 hi).1
    refine ⟨⟨fun y hy => ?_, .inr ⟨g, s, by rw [List.length_set], hb, hs, by rw [List.length_set]; exact hm, ?_⟩⟩, ⟨rfl, rfl, rfl, by simp, fun k _ hk => heap_setCell_other w ⟨g, _, none⟩ k u (fun e => hk (by simp [e]))⟩⟩
    · rcases List.mem_or_eq_of_mem_set hy with h3 | rfl
      · exact h.1 y h3
      · exact hok
    · rw [heap_setCell_same w g _ _ _ u hh, ← List.set_append_left _ _ hil, ← flat_setc (x := x) (by rw [List.getElem?_append_left hil]; exact hi) hj hx]
      simp
end
end Go.Proofs.YtmcbjcbnckpfkaaGreat
