/-
  RSfS: stookref14: turn.
  SetC: One cell of an element of several cells is set, in an own list.
  RSfW: stookref14: a disk of which one file has one more act.
-/
import Derived.Test.YtmcbjcbnckpfkaaGreatPt28
import Derived.Test.YtmcbjcbnckpfkaaGreatPt01
namespace Go.Proofs.YtmcbjcbnckpfkaaGreat
open Go.RowKit
set_option linter.unusedVariables false
/-- Two lists of one's own of two kinds lie in two blocks. -/
theorem own_two {P : Program} {α β : Type} {K : El P α} {K' : El P β} {w : World} {base base' : Nat} {v u : Value} {l : List α} {m : List β} (h : OwnL K w base v l) (h' : OwnL K' w base' u m) (hT : K'.e ≠ K.e) {k : Nat} (hk : v.ownBlock = some k) : u.ownBlock ≠ some k := by
  intro e
  rcases h'.2 with ⟨rfl, _⟩ | ⟨g, s, rfl, _, _, _, hh⟩
  · cases e
  · have eg : g = k := Option.some.inj e
    subst eg
    exact own_kind h hh hT hk
theorem HasFile.mono {w : World} {f f' : Fp} {x : RawF} {g : Sf.File} (h : HasFile w f x g) (hM : ∀ k, f.M k → f'.M k) (hR : ∀ k, f.R k → f'.R k) : HasFile w f' x g := by
  obtain ⟨h1, ⟨ra, h2, h3, h4⟩, h5, h6⟩ := h
  exact ⟨h1.mono hR, ⟨ra, h2, h3, fun i r a hr ha => ⟨(h4 i r a hr ha).1, (h4 i r a hr ha).2.1, (h4 i r a hr ha).2.2.mono hR⟩⟩, fun k hk => hM k (h5 k hk), h6⟩
section
variable {w : World} {f : Fp} {t : Sf.St} {b : Nat} {vf vs vr vu : Value} {rf : List RawF} {rr : List Sl}
theorem RHas.row_two (h : RHas w f t b vf vs vr vu rf rr) {k : Nat} (hk : vr.ownBlock = some k) : vf.ownBlock ≠ some k := fun e => own_two h.body.files h.body.row (by decide) e hk
theorem RHas.act_two (h : RHas w f t b vf vs vr vu rf rr) {i : Nat} {x : RawF} (hx : rf[i]? = some x) {k : Nat} (hk : vr.ownBlock = some k) : (slV x.row).ownBlock ≠ some k := fun e => by
  have hi : i < t.files.length := by have := (List.getElem?_eq_some_iff.1 hx).1; have := h.body.nfiles; omega
  obtain ⟨ra, _, ho, _⟩ := (h.body.file i x _ hx (List.getElem?_eq_getElem hi)).acts
  exact own_two ho h.body.row (by decide) e hk
/-- A disk with another directory. -/
theorem RHas.turn_dir (h : RHas w f t b vf vs vr vu rf rr) (hf : Sf.Few t) {w5 w7 : World} {A3 : Option Addr} {c3 : Nat} {sl : Sl} {d : Sf.Dir}
    (hv : Lv eK w w.heap.size (slV sl) d) (hblk : 0 < d.length → ∀ k, (slV sl).ownBlock = some k → ¬ f.M k ∧ k < w.heap.size)
    (hlen : d.length ≤ 64) (hlt : ∀ e ∈ d, e.2 < t.files.length) (hnd : (d.map (·.2)).Nodup)
    (hA : OwnL rK w5 0 (.slice A3 (rr.length + 1) c3) (rr ++ [sl])) (hM : ∀ k, (Value.slice A3 (rr.length + 1) c3).ownBlock = some k → vr.ownBlock = some k ∨ w.heap.size ≤ k)
    (T : Turned (fun k => k = b ∨ vr.ownBlock = some k) w w7) (T5 : Turned (fun k => k = b) w5 w7)
    (hw : w7.heap[b]? = some (.cells (headC (Sf.turn t d).2 vf vs (.slice A3 (rr.length + 1) c3) (slV sl)) 53 (0, 0))) :
    RHas w7 ⟨fun k => f.M k ∨ (Value.slice A3 (rr.length + 1) c3).ownBlock = some k, fun k => f.R k ∨ (0 < d.length ∧ (slV sl).ownBlock = some k)⟩ (Sf.turn t d).2 b vf vs (.slice A3 (rr.length + 1) c3) (slV sl) rf (rr ++ [sl]) := by
  obtain ⟨h0, h1, h2, h3, h4, h5, h6⟩ := blown_same { t with seen := d, row := t.row ++ [d] }
  have hb : b < w.heap.size := h.lt b (.inl h.mine)
  have FM : ∀ k, (k = b ∨ vr.ownBlock = some k) → f.M k := fun k hk => hk.elim (fun e => e ▸ h.mine) (fun e => h.body.rowM k e)
  have FR : ∀ k, (k = b ∨ vr.ownBlock = some k) → ¬ f.R k := fun k hk => h.sep k (FM k hk)
  have hd0 : Rd eK w (fun k => 0 < d.length ∧ (slV sl).ownBlock = some k) (slV sl) d := ⟨hv, fun hp k hk => ⟨hp, hk⟩⟩
  have hd := (hd0.turned T (fun k hk he => (hblk he.1 k he.2).1 (FM k hk))).mono (R' := fun k => f.R k ∨ (0 < d.length ∧ (slV sl).ownBlock = some k)) (fun k hk => .inr hk)
  have hbk : (Value.slice A3 (rr.length + 1) c3).ownBlock ≠ some b := fun e => (hM b e).elim (fun e => h.row_ne e) (fun e => by omega)
  unfold Sf.turn at hw ⊢
  refine ⟨hw, Body.same (t := { t with seen := d, row := t.row ++ [d] }) ?_ h1 h2 h3 h4, ?_, .inl h.mine, ?_, ?_⟩
  · exact {
      nfiles := h.body.nfiles
      files := h.body.files.turned_ T (fun k hk hF => hF.elim (fun e => h.files_ne (e ▸ hk)) (fun e => h.row_two e hk))
      file := fun i x g hx hg => ((h.body.file i x g hx hg).turned T FR (fun k hk hF => hF.elim (fun e => h.acts_ne i x hx (e ▸ hk)) (fun e => h.act_two hx e hk))).mono (fun k hk => .inl hk) (fun k hk => .inl hk)
      filesM := fun k hk => .inl (h.body.filesM k hk)
      apart := h.body.apart
      nrow := by rw [List.length_append, List.length_append, h.body.nrow]; rfl
      row := hA.turned_ T5 (fun k hk e => hbk (e ▸ hk))
      rows := fun i u g hu hg => by
        by_cases hi : i < rr.length
        · rw [List.getElem?_append_left hi] at hu
          have hg' : t.row[i]? = some g := by
            have hg : (t.row ++ [d])[i]? = some g := hg
            rw [List.getElem?_append_left (by rw [← h.body.nrow]; exact hi)] at hg
            exact hg
          exact ((h.body.rows i u g hu hg').turned T FR).mono (fun k hk => .inl hk)
        · have hl : i < (rr ++ [sl]).length := (List.getElem?_eq_some_iff.1 hu).1
          have ei : i = rr.length := by simp at hl; omega
          subst ei
          have eu : sl = u := by simpa using hu
          have eg : d = g := by
            have hg : (t.row ++ [d])[rr.length]? = some g := hg
            rw [h.body.nrow] at hg
            simpa using hg
          subst eu eg
          exact hd
      rowM := fun k hk => .inr hk
      seen := hd
      sure := (h.body.sure.turned T FR).mono (fun k hk => .inl hk) }
  · have g := h.good
    unfold Sf.Few at hf
    exact {
      room := by rw [h0]; exact g.room
      files := by rw [h1, h5]; have := g.files; show t.files.length ≤ 64 + (t.acts + 1); omega
      rows := by rw [h2, h5]; have := g.rows; show (t.row ++ [d]).length ≤ t.acts + 1; simp; omega
      acts := by rw [h5]; show t.acts + 1 ≤ _; omega
      fuse := Nat.lt_of_le_of_lt h6 g.fuse
      sure := by rw [h4, h1]; exact g.sure
      seen := by rw [h3, h1]; exact ⟨hlen, hlt⟩
      row := by
        rw [h2, h1]
        intro e he
        rcases List.mem_append.1 he with he | he
        · exact g.row e he
        · simp at he; subst he; exact ⟨hlen, hlt⟩
      frow := by rw [h1, h5]; exact fun e he => Nat.le_trans (g.frow e he) (Nat.le_succ _)
      inv := ⟨by rw [h3]; exact hnd, by rw [h3, h1]; exact hlt⟩ }
  · intro k hk
    rcases hk with (hk | hk) | (hk | hk)
    · exact Nat.lt_of_lt_of_le (h.lt k (.inl hk)) T.size
    · exact Nat.lt_of_lt_of_le (hA.lt_ k hk).2 T5.size
    · exact Nat.lt_of_lt_of_le (h.lt k (.inr hk)) T.size
    · exact Nat.lt_of_lt_of_le (hblk hk.1 k hk.2).2 T.size
  · intro k hk hr
    rcases hk with hk | hk <;> rcases hr with hr | hr
    · exact h.sep k hk hr
    · exact (hblk hr.1 k hr.2).1 hk
    · rcases hM k hk with e | e
      · exact h.sep k (h.body.rowM k e) hr
      · have := h.lt k (.inr hr); omega
    · rcases hM k hk with e | e
      · exact (hblk hr.1 k hr.2).1 (h.body.rowM k e)
      · have := (hblk hr.1 k hr.2).2; omega
end
end Go.Proofs.YtmcbjcbnckpfkaaGreat
namespace Go.Proofs.YtmcbjcbnckpfkaaGreat
open Go.RowKit
set_option linter.unusedVariables false

section
variable {P : Program} {α : Type} {K : El P α} {w : World} {base : Nat} {l : List α}
theorem flat_setc {l : List α} {i j : Nat} {x x' : α} {u : Value} (hi : l[i]? = some x) (hj : j < K.size) (hx : K.enc x' = (K.enc x).set j u) : (K.flat l).set (i * K.size + j) u = K.flat (l.set i x') := by
  induction l generalizing i with
  | nil => simp at hi
  | cons y r ih =>
    rw [flat_cons]
    cases i with
    | zero =>
      simp at hi
      subst hi
      rw [Nat.zero_mul, Nat.zero_add, List.set_append_left _ _ (by rw [K.len]; exact hj), List.set_cons_zero, flat_cons, hx]
    | succ i =>
      simp at hi
      rw [List.set_append_right _ _ (by rw [K.len, Nat.succ_mul]; omega), K.len, List.set_cons_succ, flat_cons, ← ih hi]
      congr 2
      rw [Nat.succ_mul]
      omega
theorem OwnL.setc_ {g c n : Nat} (h : OwnL K w base (.slice (some ⟨g, 0, none⟩) n c) l) {i j : Nat} {x x' : α} {u : Value} (hi : l[i]? = some x) (hj : j < K.size) (hx : K.enc x' = (K.enc x).set j u) (hok : K.ok x') :
    OwnL K (w.setCell ⟨g, i * K.size + j, none⟩ u) base (.slice (some ⟨g, 0, none⟩) n c) (l.set i x') ∧ w.grownBy (w.setCell ⟨g, i * K.size + j, none⟩ u) (some g) := by
  rcases h.2 with ⟨e, rfl⟩ | ⟨g', s, e, hb, hs, hm, hh⟩
  · cases e
  · injection e with e1 e2 e3
    injection e1 with e1
    injection e1 with e1
    subst e1 e2 e3
    have hil : i < l.length := (List.getElem?_eq_some_iff.1 hi).1
    refine ⟨⟨fun y hy => ?_, .inr ⟨g, s, by rw [List.length_set], hb, hs, by rw [List.length_set]; exact hm, ?_⟩⟩, ⟨rfl, rfl, rfl, by simp, fun k _ hk => heap_setCell_other w ⟨g, _, none⟩ k u (fun e => hk (by simp [e]))⟩⟩
    · rcases List.mem_or_eq_of_mem_set hy with h3 | rfl
      · exact h.1 y h3
      · exact hok
    · rw [heap_setCell_same w g _ _ _ u hh, ← List.set_append_left _ _ hil, ← flat_setc (x := x) (by rw [List.getElem?_append_left hil]; exact hi) hj hx]
      simp
end
end Go.Proofs.YtmcbjcbnckpfkaaGreat
namespace Go.Proofs.YtmcbjcbnckpfkaaGreat
open Go.RowKit
set_option linter.unusedVariables false
namespace Sf
theorem bytes_old {f : File} {a : Act} {k : Nat} (h : k ≤ f.row.length) : bytes ⟨f.sure, f.row ++ [a]⟩ k = bytes f k := by
  unfold bytes
  rw [List.take_append_of_le_length h]
theorem bytes_new (f : File) (a : Act) : bytes ⟨f.sure, f.row ++ [a]⟩ (f.row.length + 1) = done (now f) a := by
  rw [bytes_succ (a := a) (by simp), bytes_old (Nat.le_refl _), bytes_all]
/-- A file that is seen is no longer than what is used. -/
theorem len_lens {t : St} {d : Dir} {e : ByteArray × Nat} (h : e ∈ d) : len t e.2 ≤ lens t d := by
  induction d with
  | nil => cases h
  | cons x d ih =>
    have hc : lens t (x :: d) = len t x.2 + lens t d := by simp [lens]
    rw [hc]
    rcases List.mem_cons.1 h with rfl | h
    · omega
    · have := ih h; omega
theorem len_used {t : St} {s : ByteArray} {n : Nat} (h : get t s = (n, 0)) : len t n ≤ used t := by
  have h2 := get_ok (t := t) (s := s) (by rw [h])
  rw [h] at h2
  rw [used, h2.1]
  unfold find at h2
  obtain ⟨e, he, hq⟩ := Option.map_eq_some_iff.1 h2.2
  have := len_lens (t := t) (List.mem_of_find?_eq_some he)
  rw [hq] at this
  simpa using this
end Sf
theorem FileOk.push {f : Sf.File} (h : FileOk f) {a : Sf.Act} (h1 : a.at_ ≤ (Sf.now f).length) (h2 : a.b.length ≤ 1048576) (h3 : a.cut = true → a.b = []) (h4 : (Sf.done (Sf.now f) a).length ≤ 1048576) (h5 : f.row.length < 2199023255552) :
    FileOk ⟨f.sure, f.row ++ [a]⟩ where
  len := fun k hk => by
    rcases Nat.lt_or_ge f.row.length k with h6 | h6
    · have e : k = f.row.length + 1 := by simp at hk; omega
      rw [e, Sf.bytes_new]; exact h4
    · rw [Sf.bytes_old h6]; exact h.len k h6
  at_ := fun k c hk => by
    rcases Nat.lt_or_ge k f.row.length with h6 | h6
    · have hk : (f.row ++ [a])[k]? = some c := hk
      rw [List.getElem?_append_left h6] at hk
      rw [Sf.bytes_old (Nat.le_of_lt h6)]
      exact h.at_ k c hk
    · have hk : (f.row ++ [a])[k]? = some c := hk
      have e : k = f.row.length := by have := (List.getElem?_eq_some_iff.1 hk).1; simp at this; omega
      subst e
      have ec : a = c := by simpa using hk
      subst ec
      rw [Sf.bytes_old (Nat.le_refl _), Sf.bytes_all]
      exact ⟨h1, h2, h3⟩
  row := by simp; omega
theorem Sf.fileAt_some {t : Sf.St} {n : Nat} (h : n < t.files.length) : t.files[n]? = some (Sf.fileAt t n) := by unfold Sf.fileAt; simp [List.getElem?_eq_getElem h]
section
variable {w : World} {f : Fp} {t : Sf.St} {b : Nat} {vf vs vr vu : Value} {rf : List RawF} {rr : List Sl}
/-- The acts of two kinds of lists lie in two blocks. -/
theorem RHas.file_two (h : RHas w f t b vf vs vr vu rf rr) {i : Nat} {x : RawF} (hx : rf[i]? = some x) {k : Nat} (hk : vf.ownBlock = some k) : (slV x.row).ownBlock ≠ some k := fun e => by
  have hi : i < t.files.length := by have := (List.getElem?_eq_some_iff.1 hx).1; have := h.body.nfiles; omega
  obtain ⟨ra, _, ho, _⟩ := (h.body.file i x _ hx (List.getElem?_eq_getElem hi)).acts
  exact own_two ho h.body.files (by decide) e hk
/-- A disk of which one file has one more act. -/
theorem RHas.turn_file (h : RHas w f t b vf vs vr vu rf rr) (hf : Sf.Few t) {n : Nat} {x : RawF} {a : Sf.Act} {r : RawA} {ra : List RawA} (hx : rf[n]? = some x) (hn : n < t.files.length)
    (hra : ra.length = (Sf.fileAt t n).row.length) (hOr : OwnL aK w 0 (slV x.row) ra) (hrel : ∀ (i : Nat) (q : RawA) (c : Sf.Act), ra[i]? = some q → (Sf.fileAt t n).row[i]? = some c → q.cut = c.cut ∧ q.at_ = c.at_ ∧ Rd yK w f.R (slV q.sl) c.b)
    (hr : r.cut = a.cut ∧ r.at_ = a.at_) (hv : Lv yK w w.heap.size (slV r.sl) a.b) (hblk : 0 < a.b.length → ∀ k, (slV r.sl).ownBlock = some k → ¬ f.M k ∧ k < w.heap.size)
    (hok : FileOk ⟨(Sf.fileAt t n).sure, (Sf.fileAt t n).row ++ [a]⟩)
    {g cf : Nat} (hvf : vf = .slice (some ⟨g, 0, none⟩) rf.length cf) {w5 w7 : World} {A3 : Option Addr} {c3 : Nat}
    (hA : OwnL aK w5 0 (.slice A3 (ra.length + 1) c3) (ra ++ [r])) (hM : ∀ k, (Value.slice A3 (ra.length + 1) c3).ownBlock = some k → (slV x.row).ownBlock = some k ∨ w.heap.size ≤ k)
    (T5 : Turned (fun k => (slV x.row).ownBlock = some k) w w5) (T7 : Turned (fun k => k = b) (w5.setCell ⟨g, n * 2 + 1, none⟩ (.slice A3 (ra.length + 1) c3)) w7)
    (hw : w7.heap[b]? = some (.cells (headC (Sf.add t n a).2 vf vs vr vu) 53 (0, 0))) :
    RHas w7 ⟨fun k => f.M k ∨ (Value.slice A3 (ra.length + 1) c3).ownBlock = some k, fun k => f.R k ∨ (0 < a.b.length ∧ (slV r.sl).ownBlock = some k)⟩ (Sf.add t n a).2 b vf vs vr vu (rf.set n ⟨x.sure, ⟨A3, ra.length + 1, c3⟩⟩) rr ∧ Turned f.M w w7 := by
  obtain ⟨h0, h1, h2, h3, h4, h5, h6⟩ := blown_same (Sf.added t n a)
  have hb : b < w.heap.size := h.lt b (.inl h.mine)
  have hgk : vf.ownBlock = some g := by rw [hvf]; rfl
  have hxn : n < rf.length := (List.getElem?_eq_some_iff.1 hx).1
  have hrow : ∀ k, (slV x.row).ownBlock = some k → f.M k := fun k hk => h.body.rowMs n x hx k hk
  have hgM : f.M g := h.body.filesM g hgk
  -- the files behind the store
  have hf5 : OwnL fK w5 0 vf rf := h.body.files.turned_ T5 (fun k hk e => h.file_two hx hk e)
  rw [hvf] at hf5
  obtain ⟨hf6, hG6⟩ := hf5.setc_ (j := 1) (x' := (⟨x.sure, ⟨A3, ra.length + 1, c3⟩⟩ : RawF)) (u := .slice A3 (ra.length + 1) c3) hx (by decide) rfl trivial
  rw [← hvf] at hf6
  have hf6' : OwnL fK (w5.setCell ⟨g, n * 2 + 1, none⟩ (.slice A3 (ra.length + 1) c3)) 0 vf (rf.set n ⟨x.sure, ⟨A3, ra.length + 1, c3⟩⟩) := hf6
  have T6 : Turned (fun k => k = g) w5 (w5.setCell ⟨g, n * 2 + 1, none⟩ (.slice A3 (ra.length + 1) c3)) := Turned.setCell (F := fun k => k = g) (Turned.refl (fun k => k = g) w5) (p := ⟨g, n * 2 + 1, none⟩) (fun _ => rfl) _
  have T67 : Turned (fun k => k = g ∨ k = b) w5 w7 := (T6.mono (G := fun k => k = g ∨ k = b) (fun k _ hk => .inl hk)).trans (T7.mono (G := fun k => k = g ∨ k = b) (fun k _ hk => .inr hk)) (fun k _ hk => hk)
  have T : Turned (fun k => (slV x.row).ownBlock = some k ∨ k = g ∨ k = b) w w7 := (T5.mono (G := fun k => (slV x.row).ownBlock = some k ∨ k = g ∨ k = b) (fun k _ hk => .inl hk)).trans (T67.mono (G := fun k => (slV x.row).ownBlock = some k ∨ k = g ∨ k = b) (fun k _ hk => .inr hk)) (fun k _ hk => hk)
  have FM : ∀ k, ((slV x.row).ownBlock = some k ∨ k = g ∨ k = b) → f.M k := fun k hk => hk.elim (hrow k) (fun e => e.elim (fun e => e ▸ hgM) (fun e => e ▸ h.mine))
  have FR : ∀ k, ((slV x.row).ownBlock = some k ∨ k = g ∨ k = b) → ¬ f.R k := fun k hk => h.sep k (FM k hk)
  have hd0 : Rd yK w (fun k => 0 < a.b.length ∧ (slV r.sl).ownBlock = some k) (slV r.sl) a.b := ⟨hv, fun hp k hk => ⟨hp, hk⟩⟩
  have hd := (hd0.turned T (fun k hk he => (hblk he.1 k he.2).1 (FM k hk))).mono (R' := fun k => f.R k ∨ (0 < a.b.length ∧ (slV r.sl).ownBlock = some k)) (fun k hk => .inr hk)
  have hAg : (Value.slice A3 (ra.length + 1) c3).ownBlock ≠ some g := fun e => (hM g e).elim (fun e2 => h.file_two hx hgk e2) (fun e2 => by have := h.lt g (.inl hgM); omega)
  have hAb : (Value.slice A3 (ra.length + 1) c3).ownBlock ≠ some b := fun e => (hM b e).elim (fun e2 => h.acts_ne n x hx e2) (fun e2 => by omega)
  have hnew : ∀ {i : Nat} {y : RawF}, i ≠ n → rf[i]? = some y → ∀ k, (slV y.row).ownBlock = some k → (Value.slice A3 (ra.length + 1) c3).ownBlock ≠ some k := fun hi hy k hk e => by
    rcases hM k e with e2 | e2
    · exact h.body.apart _ _ _ _ hi hy hx k hk e2
    · have := h.lt k (.inl (h.body.rowMs _ _ hy k hk)); omega
  refine ⟨?_, T.mono (fun k _ hk => FM k hk)⟩
  have hadd : Sf.add t n a = Sf.blown (Sf.added t n a) := rfl
  rw [hadd] at hw ⊢
  refine ⟨hw, Body.same (t := Sf.added t n a) ?_ h1 h2 h3 h4, ?_, .inl h.mine, ?_, ?_⟩
  · exact {
      nfiles := by show (rf.set n _).length = (t.files.set n _).length; rw [List.length_set, List.length_set]; exact h.body.nfiles
      files := hf6'.turned_ T7 (fun k hk e => h.files_ne (e ▸ hk))
      file := fun i y q hy hq => by
        have hq : (t.files.set n ⟨(Sf.fileAt t n).sure, (Sf.fileAt t n).row ++ [a]⟩)[i]? = some q := hq
        by_cases hi : i = n
        · subst hi
          rw [List.getElem?_set_self hxn] at hy
          rw [List.getElem?_set_self hn] at hq
          injection hy with hy
          injection hq with hq
          subst hy hq
          have hF := h.body.file i x _ hx (Sf.fileAt_some hn)
          refine ⟨(hF.sure.turned T FR).mono (fun k hk => .inl hk), ⟨ra ++ [r], by simp [hra], hA.turned_ T67 (fun k hk e => e.elim (fun e => hAg (e ▸ hk)) (fun e => hAb (e ▸ hk))), fun j u c hu hc => ?_⟩, fun k hk => .inr hk, hok⟩
          by_cases hj : j < ra.length
          · rw [List.getElem?_append_left hj] at hu
            have hc : ((Sf.fileAt t i).row ++ [a])[j]? = some c := hc
            rw [List.getElem?_append_left (by omega)] at hc
            obtain ⟨q1, q2, q3⟩ := hrel j u c hu hc
            exact ⟨q1, q2, (q3.turned T FR).mono (fun k hk => .inl hk)⟩
          · have hl : j < (ra ++ [r]).length := (List.getElem?_eq_some_iff.1 hu).1
            have ej : j = ra.length := by simp at hl; omega
            subst ej
            have eu : r = u := by simpa using hu
            have ec : a = c := by
              have hc : ((Sf.fileAt t i).row ++ [a])[ra.length]? = some c := hc
              rw [hra] at hc
              simpa using hc
            subst eu ec
            exact ⟨hr.1, hr.2, hd⟩
        · rw [List.getElem?_set_ne (Ne.symm hi)] at hy hq
          exact ((h.body.file i y q hy hq).turned T FR (fun k hk e => e.elim (fun e => h.body.apart i n y x hi hy hx k hk e) (fun e => e.elim (fun e => h.file_two hy hgk (e ▸ hk)) (fun e => h.acts_ne i y hy (e ▸ hk))))).mono (fun k hk => .inl hk) (fun k hk => .inl hk)
      filesM := fun k hk => .inl (h.body.filesM k hk)
      apart := fun i j y z hij hy hz => by
        by_cases hi : i = n
        · subst hi
          rw [List.getElem?_set_self hxn] at hy
          rw [List.getElem?_set_ne hij] at hz
          injection hy with hy
          subst hy
          exact fun k hk e => hnew (Ne.symm hij) hz k e hk
        · rw [List.getElem?_set_ne (Ne.symm hi)] at hy
          by_cases hj : j = n
          · subst hj
            rw [List.getElem?_set_self hxn] at hz
            injection hz with hz
            subst hz
            exact fun k hk e => hnew hij hy k hk e
          · rw [List.getElem?_set_ne (Ne.symm hj)] at hz
            exact h.body.apart i j y z hij hy hz
      nrow := h.body.nrow
      row := h.body.row.turned_ T (fun k hk e => e.elim (fun e => h.act_two hx hk e) (fun e => e.elim (fun e => h.row_two hk (e ▸ hgk)) (fun e => h.row_ne (e ▸ hk))))
      rows := fun i u d hu hd => ((h.body.rows i u d hu hd).turned T FR).mono (fun k hk => .inl hk)
      rowM := fun k hk => .inl (h.body.rowM k hk)
      seen := (h.body.seen.turned T FR).mono (fun k hk => .inl hk)
      sure := (h.body.sure.turned T FR).mono (fun k hk => .inl hk) }
  · have g := h.good
    unfold Sf.Few at hf
    have hlen : (Sf.added t n a).files.length = t.files.length := List.length_set ..
    exact {
      room := by rw [h0]; exact g.room
      files := by rw [h1, h5, hlen]; have := g.files; show t.files.length ≤ 64 + (t.acts + 1); omega
      rows := by rw [h2, h5]; have := g.rows; show t.row.length ≤ t.acts + 1; omega
      acts := by rw [h5]; show t.acts + 1 ≤ _; omega
      fuse := Nat.lt_of_le_of_lt h6 g.fuse
      sure := by rw [h4, h1, hlen]; exact g.sure
      seen := by rw [h3, h1, hlen]; exact g.seen
      row := by rw [h2, h1, hlen]; exact g.row
      frow := by
        rw [h1, h5]
        intro q hq
        show q.row.length ≤ t.acts + 1
        rcases List.mem_or_eq_of_mem_set hq with hq | rfl
        · exact Nat.le_trans (g.frow q hq) (Nat.le_succ _)
        · have := g.frow _ (List.mem_of_getElem? (Sf.fileAt_some hn))
          simp; omega
      inv := ⟨by rw [h3]; exact g.inv.nums, by rw [h3, h1, hlen]; exact g.inv.lt⟩ }
  · intro k hk
    rcases hk with (hk | hk) | (hk | hk)
    · exact Nat.lt_of_lt_of_le (h.lt k (.inl hk)) T.size
    · exact Nat.lt_of_lt_of_le (hA.lt_ k hk).2 T67.size
    · exact Nat.lt_of_lt_of_le (h.lt k (.inr hk)) T.size
    · exact Nat.lt_of_lt_of_le (hblk hk.1 k hk.2).2 T.size
  · intro k hk hr
    rcases hk with hk | hk <;> rcases hr with hr | hr
    · exact h.sep k hk hr
    · exact (hblk hr.1 k hr.2).1 hk
    · rcases hM k hk with e | e
      · exact h.sep k (hrow k e) hr
      · have := h.lt k (.inr hr); omega
    · rcases hM k hk with e | e
      · exact (hblk hr.1 k hr.2).1 (hrow k e)
      · have := (hblk hr.1 k hr.2).2; omega
end
end Go.Proofs.YtmcbjcbnckpfkaaGreat
