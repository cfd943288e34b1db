/-
  RSfFa: stookref14: what a failure leaves, file by file: a disk that is under way.
  RSfFb: stookref14: a file of a disk, read behind other calls.
  RSfU: stookref14.torn: a file behind the first bytes of one more act.
-/
import Derived.Test.YtmcbjcbnckpfkaaGreatPt23
import Derived.Test.YtmcbjcbnckpfkaaGreatPt32
import Derived.Test.YtmcbjcbnckpfkaaGreatPt33
import Derived.Test.YtmcbjcbnckpfkaaGreatPt12
import Derived.Test.YtmcbjcbnckpfkaaGreatPt26
import Derived.Test.YtmcbjcbnckpfkaaGreatPt27
import Derived.Deep.RegionHeld3
import Derived.BigRegion
namespace Go.Proofs.YtmcbjcbnckpfkaaGreat
open Go.RowKit
set_option linter.unusedVariables false
/-- A disk under way: the files of the names that were gone over. -/
structure FailIn (wr : World) (base ob tb : Nat) (v : Value) (room a : Nat) (vf vs : Value) (rf : List RawF) (bs : List (List Nat)) (es : Sf.Dir) : Prop where
  head : wr.heap[ob]? = some (.cells (headC (Sf.new room) vf vs (.slice none 0 0) (.slice none 0 0)) 53 (0, 0))
  ob : base ≤ ob
  files : OwnL fK wr base vf rf
  ents : OwnL eK wr base vs es
  len : rf.length = bs.length
  elen : es.length = bs.length
  each : ∀ (i : Nat) (x : RawF) (b : List Nat), rf[i]? = some x → bs[i]? = some b → x.row = ⟨none, 0, 0⟩ ∧ OwnL yK wr base (slV x.sure) b
  tk : Taker wr tb v a
  tob : base ≤ tb
section
variable {wr w' : World} {base ob tb : Nat} {v : Value} {room a a' : Nat} {vf vs : Value} {rf : List RawF} {bs : List (List Nat)} {es : Sf.Dir}
/-- What turns the taker alone. -/
theorem FailIn.fresh (h : FailIn wr base ob tb v room a vf vs rf bs es) {F : Nat → Prop} (ht : Turned F wr w') (hF : ∀ k, F k → k = tb ∨ wr.heap.size ≤ k) (hT : Taker w' tb v a') : FailIn w' base ob tb v room a' vf vs rf bs es := by
  have hob : ob < wr.heap.size := (Array.getElem?_eq_some_iff.1 h.head).1
  have htb : tb ≠ ob := fun e => by
    have h1 := h.tk
    unfold Taker at h1
    rw [e, h.head] at h1
    injection h1 with h1
    injection h1 with _ h1 _
    exact absurd h1 (by decide)
  have off : ∀ {α : Type} {K : El Tryz.prog α} {u : Value} {l : List α}, OwnL K wr base u l → K.e ≠ 92 → ∀ k, u.ownBlock = some k → ¬ F k := fun ho hK k hk hf => by
    rcases hF k hf with e | e
    · exact own_kind ho h.tk (fun e => hK e.symm) (e ▸ hk)
    · have := (ho.lt_ k hk).2; omega
  exact {
    head := (ht.block ob hob (fun hf => (hF ob hf).elim (fun e => htb e.symm) (fun e => by omega))).trans h.head
    ob := h.ob
    files := h.files.turned_ ht (off h.files (by decide))
    ents := h.ents.turned_ ht (off h.ents (by decide))
    len := h.len
    elen := h.elen
    each := fun i x b hx hb => ⟨(h.each i x b hx hb).1, (h.each i x b hx hb).2.turned_ ht (off (h.each i x b hx hb).2 (by decide))⟩
    tk := hT
    tob := h.tob }
theorem FailIn.below (h : FailIn wr base ob tb v room a vf vs rf bs es) (hb : Below wr.heap.size wr w') : FailIn w' base ob tb v room a vf vs rf bs es :=
  h.fresh (Turned.of_below hb) (fun k hk => .inr hk) ((hb.block tb (Array.getElem?_eq_some_iff.1 h.tk).1).trans h.tk)
/-- One more file. -/
theorem FailIn.file (h : FailIn wr base ob tb v room a vf vs rf bs es) {sl : Sl} {b : List Nat} (hb : OwnL yK wr base (slV sl) b) {w5 w7 : World} {A : Option Addr} {c : Nat}
    (hA : OwnL fK w5 base (.slice A (rf.length + 1) c) (rf ++ [⟨sl, ⟨none, 0, 0⟩⟩])) (hG : wr.grownBy w5 vf.ownBlock) (T7 : Turned (fun k => k = ob) w5 w7)
    (hw : w7.heap[ob]? = some (.cells (headC (Sf.new room) (.slice A (rf.length + 1) c) vs (.slice none 0 0) (.slice none 0 0)) 53 (0, 0)))
    (h5 : w5.heap[ob]? = some (.cells (headC (Sf.new room) vf vs (.slice none 0 0) (.slice none 0 0)) 53 (0, 0))) {e : ByteArray × Nat} {w9 : World} {A9 : Option Addr} {c9 : Nat}
    (hE : OwnL eK w9 base (.slice A9 (es.length + 1) c9) (es ++ [e])) (T9 : Turned (fun k => vs.ownBlock = some k) w7 w9) {wz : World} (Tz : Turned (fun k => k = ob) w9 wz)
    (hz : wz.heap[ob]? = some (.cells (headC (Sf.new room) (.slice A (rf.length + 1) c) (.slice A9 (es.length + 1) c9) (.slice none 0 0) (.slice none 0 0)) 53 (0, 0))) :
    FailIn wz base ob tb v room a (.slice A (rf.length + 1) c) (.slice A9 (es.length + 1) c9) (rf ++ [⟨sl, ⟨none, 0, 0⟩⟩]) (bs ++ [b]) (es ++ [e]) := by
  have T5 : Turned (fun k => vf.ownBlock = some k) wr w5 := Turned.of_grown hG
  have T : Turned (fun k => vf.ownBlock = some k ∨ k = ob ∨ vs.ownBlock = some k) wr wz :=
    (((T5.mono (G := fun k => vf.ownBlock = some k ∨ k = ob ∨ vs.ownBlock = some k) (fun k _ hk => .inl hk)).trans (T7.mono (G := fun k => vf.ownBlock = some k ∨ k = ob ∨ vs.ownBlock = some k) (fun k _ hk => .inr (.inl hk))) (fun k _ hk => hk)).trans
      (T9.mono (G := fun k => vf.ownBlock = some k ∨ k = ob ∨ vs.ownBlock = some k) (fun k _ hk => .inr (.inr hk))) (fun k _ hk => hk)).trans (Tz.mono (G := fun k => vf.ownBlock = some k ∨ k = ob ∨ vs.ownBlock = some k) (fun k _ hk => .inr (.inl hk))) (fun k _ hk => hk)
  have htb : tb ≠ ob := fun e => by
    have h1 := h.tk
    unfold Taker at h1
    rw [e, h.head] at h1
    injection h1 with h1
    injection h1 with _ h1 _
    exact absurd h1 (by decide)
  have tk' : Taker wz tb v a := (T.block tb (Array.getElem?_eq_some_iff.1 h.tk).1 (fun hf => hf.elim (fun e => own_kind h.files h.tk (by decide) e) (fun hf => hf.elim htb (fun e => own_kind h.ents h.tk (by decide) e)))).trans h.tk
  have offy : ∀ {u : Value} {l : List Nat}, OwnL yK wr base u l → ∀ k, u.ownBlock = some k → ¬ (vf.ownBlock = some k ∨ k = ob ∨ vs.ownBlock = some k) := fun ho k hk hf => by
    rcases hf with e | e | e
    · exact own_two ho h.files (by decide) hk e
    · exact own_kind ho h.head (by decide) (e ▸ hk)
    · exact own_two ho h.ents (by decide) hk e
  have hfa : OwnL fK wz base (.slice A (rf.length + 1) c) (rf ++ [⟨sl, ⟨none, 0, 0⟩⟩]) := by
    have h7 := hA.turned_ T7 (fun k hk e => own_kind hA h5 (by decide) (e ▸ hk))
    have hents7 : OwnL eK w7 base vs es := (h.ents.turned_ T5 (fun k hk e => own_two h.files h.ents (by decide) e hk)).turned_ T7 (fun k hk e => own_kind h.ents h.head (by decide) (e ▸ hk))
    have h9 := h7.turned_ T9 (fun k hk e => own_two h7 hents7 (by decide) hk e)
    have hob9 : w9.heap[ob]? = some (.cells (headC (Sf.new room) (.slice A (rf.length + 1) c) vs (.slice none 0 0) (.slice none 0 0)) 53 (0, 0)) :=
      (T9.block ob (Array.getElem?_eq_some_iff.1 hw).1 (fun e => own_kind hents7 hw (by decide) e)).trans hw
    exact h9.turned_ Tz (fun k hk e => own_kind h9 hob9 (by decide) (e ▸ hk))
  have hea : OwnL eK wz base (.slice A9 (es.length + 1) c9) (es ++ [e]) := by
    have hents7 : OwnL eK w7 base vs es := (h.ents.turned_ T5 (fun k hk e => own_two h.files h.ents (by decide) e hk)).turned_ T7 (fun k hk e => own_kind h.ents h.head (by decide) (e ▸ hk))
    have hob9 : w9.heap[ob]? = some (.cells (headC (Sf.new room) (.slice A (rf.length + 1) c) vs (.slice none 0 0) (.slice none 0 0)) 53 (0, 0)) :=
      (T9.block ob (Array.getElem?_eq_some_iff.1 hw).1 (fun e => own_kind hents7 hw (by decide) e)).trans hw
    exact hE.turned_ Tz (fun k hk e => own_kind hE hob9 (by decide) (e ▸ hk))
  exact {
    head := hz
    ob := h.ob
    files := hfa
    ents := hea
    len := by rw [List.length_append, List.length_append, h.len]; rfl
    elen := by rw [List.length_append, List.length_append, h.elen]; rfl
    each := fun i x c hx hc => by
      by_cases hi : i < rf.length
      · rw [List.getElem?_append_left hi] at hx
        rw [List.getElem?_append_left (by rw [← h.len]; exact hi)] at hc
        have := h.each i x c hx hc
        exact ⟨this.1, this.2.turned_ T (offy this.2)⟩
      · have hl : i < (rf ++ [(⟨sl, ⟨none, 0, 0⟩⟩ : RawF)]).length := (List.getElem?_eq_some_iff.1 hx).1
        have ei : i = rf.length := by simp at hl; omega
        subst ei
        have ex : (⟨sl, ⟨none, 0, 0⟩⟩ : RawF) = x := by simpa using hx
        have ec : b = c := by rw [h.len] at hc; simpa using hc
        subst ex ec
        exact ⟨rfl, hb.turned_ T (offy hb)⟩
    tk := tk'
    tob := h.tob }
/-- What a failure has left, whole. -/
theorem FailIn.end_ {t : Sf.St} {l : List Int} (h : FailIn wr base ob tb v t.room a vf vs rf (Sf.kept t (Sf.dirOf t l) (l.drop 1)) (Sf.numbered (Sf.dirOf t l))) (hroom : t.room ≤ 1048576) (hd : (Sf.dirOf t l).length ≤ 64) (hok : ∀ (i : Nat) (b : List Nat), (Sf.kept t (Sf.dirOf t l) (l.drop 1))[i]? = some b → b.length ≤ 1048576)
    {w7 : World} (T7 : Turned (fun k => k = ob) wr w7) (hw : w7.heap[ob]? = some (.cells (headC (Sf.new t.room) vf vs (.slice none 0 0) vs) 53 (0, 0))) :
    RHas w7 ⟨fun k => base ≤ k ∧ k < w7.heap.size ∧ (k = ob ∨ vf.ownBlock = some k), fun k => base ≤ k ∧ k < w7.heap.size ∧ k ≠ ob ∧ vf.ownBlock ≠ some k⟩ (Sf.fail t l) ob vf vs (.slice none 0 0) vs rf [] := by
  have hob : ob < wr.heap.size := (Array.getElem?_eq_some_iff.1 h.head).1
  have hf7 := h.files.turned_ T7 (fun k hk e => own_kind h.files h.head (by decide) (e ▸ hk))
  have he7 := h.ents.turned_ T7 (fun k hk e => own_kind h.ents h.head (by decide) (e ▸ hk))
  have hlen : (Sf.fail t l).files.length = (Sf.dirOf t l).length := by show ((Sf.kept t _ _).map _).length = _; rw [List.length_map, Sf.kept_len]
  have hents : Rd eK w7 (fun k => base ≤ k ∧ k < w7.heap.size ∧ k ≠ ob ∧ vf.ownBlock ≠ some k) vs (Sf.numbered (Sf.dirOf t l)) :=
    ⟨he7.form_, fun _ k hk => ⟨(he7.lt_ k hk).1, (he7.lt_ k hk).2, fun e => own_kind he7 hw (by decide) (e ▸ hk), fun e => own_two hf7 he7 (by decide) e hk⟩⟩
  exact {
    head := hw
    body := {
      nfiles := by rw [hlen, h.len, Sf.kept_len]
      files := hf7.mono_ (Nat.zero_le _)
      file := fun i x g hx hg => by
        have hg : ((Sf.kept t (Sf.dirOf t l) (l.drop 1)).map (fun b => (⟨b, []⟩ : Sf.File)))[i]? = some g := hg
        rw [List.getElem?_map] at hg
        cases hb : (Sf.kept t (Sf.dirOf t l) (l.drop 1))[i]? with
        | none => rw [hb] at hg; cases hg
        | some b =>
          rw [hb] at hg
          have eg : (⟨b, []⟩ : Sf.File) = g := by simpa using hg
          subst eg
          obtain ⟨h1, h2⟩ := h.each i x b hx hb
          have h27 := h2.turned_ T7 (fun k hk e => own_kind h2 h.head (by decide) (e ▸ hk))
          refine ⟨⟨h27.form_, fun _ k hk => ⟨(h27.lt_ k hk).1, (h27.lt_ k hk).2, fun e => own_kind h27 hw (by decide) (e ▸ hk), fun e => own_two hf7 h27 (by decide) e hk⟩⟩, ⟨[], rfl, by rw [h1]; exact OwnL.nil_ _ _ _, fun j u c hu => by simp at hu⟩, fun k hk => (by rw [h1] at hk; cases hk), ?_⟩
          exact ⟨fun k hk => by
            have e : k = 0 := by simpa using hk
            subst e
            exact hok i b hb, fun k c hk => by simp at hk, by simp⟩
      filesM := fun k hk => ⟨(hf7.lt_ k hk).1, (hf7.lt_ k hk).2, .inr hk⟩
      apart := fun i j x y _ hx hy k hk => by
        have hi : i < (Sf.kept t (Sf.dirOf t l) (l.drop 1)).length := by have := (List.getElem?_eq_some_iff.1 hx).1; have := h.len; omega
        rw [(h.each i x _ hx (List.getElem?_eq_getElem hi)).1] at hk
        cases hk
      nrow := rfl
      row := OwnL.nil_ _ _ _
      rows := fun i u d hu => by simp at hu
      rowM := fun k hk => by cases hk
      seen := hents
      sure := hents }
    good := {
      room := hroom
      files := by rw [hlen]; show _ ≤ 64 + 0; omega
      rows := Nat.zero_le _
      acts := Nat.zero_le _
      fuse := by show 0 < _; omega
      sure := ⟨by show (Sf.numbered _).length ≤ 64; rw [Sf.numbered_len]; exact hd, fun e he => by rw [hlen]; exact Sf.numbered_lt _ e he⟩
      seen := ⟨by show (Sf.numbered _).length ≤ 64; rw [Sf.numbered_len]; exact hd, fun e he => by rw [hlen]; exact Sf.numbered_lt _ e he⟩
      row := fun d hd => by cases hd
      frow := fun q hq => by
        obtain ⟨b, _, rfl⟩ := List.mem_map.1 hq
        exact Nat.zero_le _
      inv := ⟨by show ((Sf.numbered _).map (·.2)).Nodup; rw [Sf.numbered_nums]; exact List.nodup_range, fun e he => by rw [hlen]; exact Sf.numbered_lt _ e he⟩ }
    mine := ⟨h.ob, Nat.lt_of_lt_of_le hob T7.size, .inl rfl⟩
    lt := fun k hk => hk.elim (fun h => h.2.1) (fun h => h.2.1)
    sep := fun k hk hr => hk.2.2.elim hr.2.2.1 hr.2.2.2 }
end
end Go.Proofs.YtmcbjcbnckpfkaaGreat
namespace Go.Proofs.YtmcbjcbnckpfkaaGreat
open Go.RowKit
set_option linter.unusedVariables false
section
variable {w : World} {f : Fp} {t : Sf.St} {b : Nat} {vf vs vr vu : Value} {rf : List RawF} {rr : List Sl}
theorem RHas.bytes_at (h : RHas w f t b vf vs vr vu rf rr) {n : Nat} (hn : n < t.files.length) :
    ∃ (g cf : Nat) (rA : Option Addr) (rc : Nat), vf = .slice (some ⟨g, 0, none⟩) t.files.length cf ∧ g < w.heap.size ∧ t.files.length ≤ 9223372036854775807 ∧ FileOk (Sf.fileAt t n) ∧
      (∀ w', Below w.heap.size w w' → w'.cell? ⟨g, n * 2 + 1, none⟩ = some (.slice rA (Sf.fileAt t n).row.length rc)) ∧
      (∀ w', Below w.heap.size w w' → ∀ k, k ≤ (Sf.fileAt t n).row.length → Calls Tryz.prog 63 #[.pointer (some ⟨g, n * 2, none⟩), .int .i64 (k : Nat)] w' (IsL1 yK (Sf.bytes (Sf.fileAt t n) k) w')) ∧
      (∀ (j : Nat) (a : Sf.Act), (Sf.fileAt t n).row[j]? = some a → ∃ (bo off : Nat) (sl : Sl), rA = some ⟨bo, off, none⟩ ∧ sl.n = a.b.length ∧ a.at_ ≤ 1048576 ∧ ∀ w', Below w.heap.size w w' → w'.cell? ⟨bo, off + j * 3, none⟩ = some (.bool a.cut) ∧ w'.cell? ⟨bo, off + j * 3 + 1, none⟩ = some (.int .i64 (a.at_ : Nat)) ∧ w'.cell? ⟨bo, off + j * 3 + 2, none⟩ = some (.slice sl.A sl.n sl.c) ∧ Lv yK w' w.heap.size (slV sl) a.b) := by
  obtain ⟨g, off, cf, x, evf, hsl, hgl, hx, c0, c1, hF⟩ := h.file_at hn
  have hown := h.body.files
  rw [evf] at hown
  have hoff : off = 0 := by
    rcases hown.2 with ⟨e, _⟩ | ⟨g', s, e, _⟩
    · cases e
    · injection e with e1 e2 e3
      injection e1 with e1
      injection e1 with e1 e2
  subst hoff
  rw [Nat.zero_add] at c0 c1
  obtain ⟨ra, hra, hOr, hrel⟩ := hF.acts
  obtain ⟨⟨sA, sn, sc⟩, ⟨rA, rn, rc⟩⟩ := x
  have ern : rn = ra.length := by
    rcases hOr.2 with ⟨e, e2⟩ | ⟨g', s, e, _⟩
    · simp only [slV, Value.slice.injEq] at e; rw [e2]; exact e.2.1
    · simp only [slV, Value.slice.injEq] at e; exact e.2.1
  subst ern
  refine ⟨g, cf, rA, rc, evf, hgl, hsl, hF.ok, fun w' hb => ?_, fun w' hb k hk => ?_, fun j a hj => ?_⟩
  · rw [← hra]
    exact (hb.cell (p := ⟨g, n * 2 + 1, none⟩) hgl).trans c1
  · have hX := h.below hb
    obtain ⟨g2, off2, cf2, x2, evf2, _, hgl2, hx2, d0, d1, hF2⟩ := hX.file_at hn
    rw [evf] at evf2
    injection evf2 with e1 _ _
    injection e1 with e1
    injection e1 with e1 e2
    subst e1 e2
    rw [Nat.zero_add] at d0 d1
    exact rbytes_file w' g (n * 2) w'.heap.size x2 (Sf.fileAt t n) hgl2 d0 d1 hF2.read (Nat.le_refl _) hF2.ok k hk
  · have hjl : j < ra.length := by have := (List.getElem?_eq_some_iff.1 hj).1; omega
    have hL : Lv aK w w.heap.size (.slice rA ra.length rc) ra := hOr.form_
    obtain ⟨bo, of2, r, hA, hbo, hrok, hq, hm⟩ := hL.mid_ hjl
    obtain ⟨q1, q2, q3⟩ := hrel j r a hq hj
    obtain ⟨rcut, rat, ⟨slA, sln, slc⟩⟩ := r
    simp only at q1 q2
    subst q1 q2
    change w.rangeAt bo (of2 + j * 3) [.bool a.cut, .int .i64 (a.at_ : Nat), .slice slA sln slc] at hm
    have hln : sln = a.b.length := by have := (Lv.len_ (A := slA) (n := sln) (c := slc) q3.lv).1; omega
    refine ⟨bo, of2, ⟨slA, sln, slc⟩, hA, hln, hrok, fun w' hb => ⟨?_, ?_, ?_, q3.lv.below_ hb (Nat.le_refl _)⟩⟩
    · exact (hb.cell (p := ⟨bo, of2 + j * 3, none⟩) hbo).trans (hm 0 _ rfl)
    · exact (hb.cell (p := ⟨bo, of2 + j * 3 + 1, none⟩) hbo).trans (hm 1 _ rfl)
    · exact (hb.cell (p := ⟨bo, of2 + j * 3 + 2, none⟩) hbo).trans (hm 2 _ rfl)
/-- A directory of a disk: as it is sure, or behind some acts. -/
theorem RHas.dir_at (h : RHas w f t b vf vs vr vu rf rr) (k : Nat) (hk : k ≤ t.row.length) :
    (Sf.dirAt t k).length ≤ 64 ∧ (∀ e ∈ Sf.dirAt t k, e.2 < t.files.length) ∧ ((k = 0 ∧ Lv eK w w.heap.size vs (Sf.dirAt t k)) ∨ (0 < k ∧ ∃ u, rr[k - 1]? = some u ∧ Lv eK w w.heap.size (slV u) (Sf.dirAt t k))) := by
  by_cases h0 : k = 0
  · subst h0
    exact ⟨h.good.sure.1, h.good.sure.2, .inl ⟨rfl, h.body.sure.lv⟩⟩
  · have e : Sf.dirAt t k = t.row.getD (k - 1) [] := if_neg h0
    have hl : k - 1 < t.row.length := by omega
    have e2 : t.row[k - 1]? = some (t.row.getD (k - 1) []) := by simp [List.getElem?_eq_getElem hl]
    have hm := List.mem_of_getElem? e2
    have hrl : k - 1 < rr.length := by rw [h.body.nrow]; exact hl
    rw [e]
    exact ⟨(h.good.row _ hm).1, (h.good.row _ hm).2, .inr ⟨by omega, _, List.getElem?_eq_getElem hrl, (h.body.rows _ _ _ (List.getElem?_eq_getElem hrl) e2).lv⟩⟩
end
end Go.Proofs.YtmcbjcbnckpfkaaGreat
namespace Go.Proofs.YtmcbjcbnckpfkaaGreat
open Go.RowKit
set_option linter.unusedVariables false
set_option maxHeartbeats 4000000 in
set_option maxRecDepth 100000 in
theorem rtorn_any (v : Value) (b : List Nat) (base : Nat) (w : World) (hv : OwnL yK w base v b) (hbs : base ≤ w.heap.size) (a : Nat) (u : Value) (l : List Nat) (B : Nat) (hB : B ≤ w.heap.size) (hu : Lv yK w B u l) (ha : a ≤ b.length) (hb : b.length ≤ 1048576) (hl : l.length ≤ 1048576) (n : Nat) (hn : n ≤ l.length) :
    Calls Tryz.prog 64 #[v, .agg #[.bool false, .int .i64 (a : Nat), u], .int .i64 (n : Nat)] w (fun e w' => ∃ A c, e = .returned (.slice A (Sf.torn b ⟨false, a, l⟩ n).length c) ∧ OwnL yK w' base (.slice A (Sf.torn b ⟨false, a, l⟩ n).length c) (Sf.torn b ⟨false, a, l⟩ n) ∧ Below w.heap.size w w') := by
  have hv1 := hv.alloc_ (.cells #[.bool false, .int .i64 (a : Nat), u] 101)
  have hu1 := hu.below_ ((Below.refl B w).alloc hB (.cells #[.bool false, .int .i64 (a : Nat), u] 101)) (Nat.le_refl _)
  obtain ⟨w1, hw1⟩ : ∃ w1, w.alloc (.cells #[.bool false, .int .i64 (a : Nat), u] 101) = w1 := ⟨_, rfl⟩
  have hbx := heap_alloc_new w (.cells #[.bool false, .int .i64 (a : Nat), u] 101)
  have hbb : Below w.heap.size w (w.alloc (.cells #[.bool false, .int .i64 (a : Nat), u] 101)) := (Below.refl _ _).alloc (Nat.le_refl _) _
  rw [hw1] at hv1 hu1 hbx hbb
  have hsz : w.heap.size < w1.heap.size := by rw [← hw1]; simp
  obtain ⟨A, c, e, _⟩ := hv.form_
  subst e
  have hul := hu
  obtain ⟨Au, cu, rfl, hcu1, hcu2, _, _⟩ := hul
  have HV := Lib.hid hv1
  have HU := Lib.hid hu1
  have HB1 := Lib.hid hbb
  have HBX : Hid (∀ w', Below w1.heap.size w1 w' → w'.cell? ⟨w.heap.size, 0, none⟩ = some (.bool false) ∧ w'.cell? ⟨w.heap.size, 1, none⟩ = some (.int .i64 (a : Nat)) ∧ w'.cell? ⟨w.heap.size, 2, none⟩ = some (.slice Au l.length cu)) := fun w' hb' => by
    have h := (hb'.block _ hsz).trans hbx
    exact ⟨by rw [cell_of_row _ _ 0 _ _ _ h]; rfl, by rw [cell_of_row _ _ 1 _ _ _ h]; rfl, by rw [cell_of_row _ _ 2 _ _ _ h]; rfl⟩
  obtain ⟨h0, h1, h2⟩ := HBX.out w1 (Below.refl _ _)
  have HEQ : Hid (Sf.torn b ⟨false, a, l⟩ n = if (if a + n < b.length then (a + n) / 512 * 512 else a + n) ≤ a then b else Sf.done b ⟨false, a, l.take ((if a + n < b.length then (a + n) / 512 * 512 else a + n) - a)⟩) := rfl
  obtain ⟨e, he⟩ : ∃ e, (if a + n < b.length then (a + n) / 512 * 512 else a + n) = e := ⟨_, rfl⟩
  rw [he] at HEQ
  have hel : e ≤ a + n := by rw [← he]; split <;> omega
  have ws : IntKind.i64.wrap ((a : Int) + (n : Int)) = (a : Int) + (n : Int) := by rw [IntKind.wrap_i64]; omega
  have hbl : b.length ≤ 9223372036854775807 := by omega
  -- the way to e
  have HE1 : Hid (a + n < b.length → IntKind.i64.wrap (((a : Int) + (n : Int)) / 512 * 512) = (e : Int)) := fun h => by
    rw [if_pos h] at he
    rw [IntKind.wrap_i64]; omega
  have HE2 : Hid (¬ a + n < b.length → (a : Int) + (n : Int) = (e : Int)) := fun h => by rw [if_neg h] at he; omega
  clear hv hu hv1 hu1 hbx hbb he
  -- behind the way: the first bytes of the act
  have wd : IntKind.i64.wrap ((e : Int) - (a : Int)) = (e : Int) - (a : Int) := by rw [IntKind.wrap_i64]; omega
  by_cases hlt : a + n < b.length
  · have hlti : (a : Int) + (n : Int) < (b.length : Int) := by omega
    have q2 := HE1.out hlt
    have HE1x : Hid True := trivial
    clear HE1 HE2 hlt
    go_enter Tryz.func64, Tryz.ntmps64
    by_cases hea : e ≤ a
    · have heai : (e : Int) ≤ (a : Int) := by omega
      have HT : Hid (Sf.torn b ⟨false, a, l⟩ n = b) := by unfold Hid; rw [HEQ.out, if_pos hea]
      clear HEQ hea
      go_wp2
      go_ret
      rw [HT.out]
      exact ⟨A, c, rfl, HV.out, HB1.out⟩
    · have heai : ¬ (e : Int) ≤ (a : Int) := by omega
      have HT : Hid (Sf.torn b ⟨false, a, l⟩ n = Sf.done b ⟨false, a, l.take (e - a)⟩) := by unfold Hid; rw [HEQ.out, if_neg hea]
      have nsub : ((e - a : Nat) : Int) = (e : Int) - (a : Int) := by omega
      have k1 := fun w => cut_to yK rfl Au l.length cu (e - a) (by omega) w
      have k2 := fun w => cutAt_to yK rfl Au l.length cu (e - a) (by omega) w
      simp only [nsub] at k1 k2
      change ∀ w, (Instr.slice 33 (.slice Au l.length cu) none (some (.int .i64 ((e : Int) - (a : Int)))) none).run Tryz.prog w = .ok (.slice Au (e - a) cu) w at k1
      change ∀ w, (Instr.sliceAt 33 (.slice Au l.length cu) none (some (.int .i64 ((e : Int) - (a : Int)))) none).run Tryz.prog w = .ok (.slice Au (e - a) cu) w at k2
      have HT2 := Lib.hid (HU.out.take_ (k := e - a) (by omega))
      have hcu0 : (0 : Int) ≤ (e : Int) - (a : Int) := by omega
      have hcu3 : (e : Int) - (a : Int) ≤ (cu : Int) := by omega
      have htl : (l.take (e - a)).length ≤ 1048576 := by rw [List.length_take]; omega
      have SB : Hid (∀ w', Below w1.heap.size w1.drew w' → w'.cell? ⟨w.heap.size, 0, none⟩ = some (.bool false) ∧ w'.cell? ⟨w.heap.size, 1, none⟩ = some (.int .i64 (a : Nat)) ∧ w'.cell? ⟨w.heap.size, 2, none⟩ = some (.slice Au l.length cu)) := fun w' hb' => HBX.out w' ((Below.refl _ _).drew.trans hb')
      have s0 := SB.out _ (Below.refl _ _)
      have C := Lib.hid (rdone_any (.slice A b.length c) b w1.drew.heap.size w1.drew (HV.out.drew_.form_) (Nat.le_refl _) false a _ (l.take (e - a)) ((HT2.out.drew_).mono_ (B' := w1.drew.heap.size) (by show B ≤ w1.heap.size; omega)) ha (by omega) (by omega))
      rw [← HT.out] at C
      clear HEQ hea nsub HT HE1x
      go_wp2
      go_region_held3 (fun w' => w'.cell? ⟨w.heap.size, 0, none⟩ = some (.bool false) ∧ w'.cell? ⟨w.heap.size, 1, none⟩ = some (.int .i64 (a : Nat)) ∧ w'.cell? ⟨w.heap.size, 2, none⟩ = some (.slice Au l.length cu)) (first | exact s0 | exact s1)
        (first
          | (go_at_call 84; (with_reducible refine C.out.mono ?_); rintro e5 x1 ⟨A9, c9, rfl, ho, hb⟩; have HO := Lib.hid ho; have HB := Lib.hid hb; have s1 := SB.out x1 hb; clear ho hb C s0))
      all_goals
        go_wp2
        go_ret
        exact ⟨A9, c9, rfl, HO.out.mono_ (Nat.le_trans hbs (Nat.le_of_lt hsz)), HB1.out.trans (((Below.refl _ _).drew.trans HB.out).mono (Nat.le_of_lt hsz))⟩
  · have hlti : ¬ (a : Int) + (n : Int) < (b.length : Int) := by omega
    have q2 := HE2.out hlt
    have hei : (e : Int) = (a : Int) + (n : Int) := q2.symm
    have HE1x : Hid True := trivial
    clear HE1 HE2 hlt hei
    rw [q2] at ws
    go_enter Tryz.func64, Tryz.ntmps64
    by_cases hea : e ≤ a
    · have heai : (e : Int) ≤ (a : Int) := by omega
      have HT : Hid (Sf.torn b ⟨false, a, l⟩ n = b) := by unfold Hid; rw [HEQ.out, if_pos hea]
      clear HEQ hea
      go_wp2
      go_ret
      rw [HT.out]
      exact ⟨A, c, rfl, HV.out, HB1.out⟩
    · have heai : ¬ (e : Int) ≤ (a : Int) := by omega
      have HT : Hid (Sf.torn b ⟨false, a, l⟩ n = Sf.done b ⟨false, a, l.take (e - a)⟩) := by unfold Hid; rw [HEQ.out, if_neg hea]
      have nsub : ((e - a : Nat) : Int) = (e : Int) - (a : Int) := by omega
      have k1 := fun w => cut_to yK rfl Au l.length cu (e - a) (by omega) w
      have k2 := fun w => cutAt_to yK rfl Au l.length cu (e - a) (by omega) w
      simp only [nsub] at k1 k2
      change ∀ w, (Instr.slice 33 (.slice Au l.length cu) none (some (.int .i64 ((e : Int) - (a : Int)))) none).run Tryz.prog w = .ok (.slice Au (e - a) cu) w at k1
      change ∀ w, (Instr.sliceAt 33 (.slice Au l.length cu) none (some (.int .i64 ((e : Int) - (a : Int)))) none).run Tryz.prog w = .ok (.slice Au (e - a) cu) w at k2
      have HT2 := Lib.hid (HU.out.take_ (k := e - a) (by omega))
      have hcu0 : (0 : Int) ≤ (e : Int) - (a : Int) := by omega
      have hcu3 : (e : Int) - (a : Int) ≤ (cu : Int) := by omega
      have htl : (l.take (e - a)).length ≤ 1048576 := by rw [List.length_take]; omega
      have SB : Hid (∀ w', Below w1.heap.size w1.drew w' → w'.cell? ⟨w.heap.size, 0, none⟩ = some (.bool false) ∧ w'.cell? ⟨w.heap.size, 1, none⟩ = some (.int .i64 (a : Nat)) ∧ w'.cell? ⟨w.heap.size, 2, none⟩ = some (.slice Au l.length cu)) := fun w' hb' => HBX.out w' ((Below.refl _ _).drew.trans hb')
      have s0 := SB.out _ (Below.refl _ _)
      have C := Lib.hid (rdone_any (.slice A b.length c) b w1.drew.heap.size w1.drew (HV.out.drew_.form_) (Nat.le_refl _) false a _ (l.take (e - a)) ((HT2.out.drew_).mono_ (B' := w1.drew.heap.size) (by show B ≤ w1.heap.size; omega)) ha (by omega) (by omega))
      rw [← HT.out] at C
      clear HEQ hea nsub HT HE1x
      go_wp2
      go_region_held3 (fun w' => w'.cell? ⟨w.heap.size, 0, none⟩ = some (.bool false) ∧ w'.cell? ⟨w.heap.size, 1, none⟩ = some (.int .i64 (a : Nat)) ∧ w'.cell? ⟨w.heap.size, 2, none⟩ = some (.slice Au l.length cu)) (first | exact s0 | exact s1)
        (first
          | (go_at_call 84; (with_reducible refine C.out.mono ?_); rintro e5 x1 ⟨A9, c9, rfl, ho, hb⟩; have HO := Lib.hid ho; have HB := Lib.hid hb; have s1 := SB.out x1 hb; clear ho hb C s0))
      all_goals
        go_wp2
        go_ret
        exact ⟨A9, c9, rfl, HO.out.mono_ (Nat.le_trans hbs (Nat.le_of_lt hsz)), HB1.out.trans (((Below.refl _ _).drew.trans HB.out).mono (Nat.le_of_lt hsz))⟩
end Go.Proofs.YtmcbjcbnckpfkaaGreat
