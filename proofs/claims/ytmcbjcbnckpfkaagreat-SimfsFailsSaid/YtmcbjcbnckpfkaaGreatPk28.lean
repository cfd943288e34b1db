/-
  RSfW: stookref14: a disk of which one file has one more act.
  RSfE: stookref14: bytes, now: a file behind its acts.
  RSfP: stookref14: Size.
-/
import Derived.Test.YtmcbjcbnckpfkaaGreatPk27
import Derived.Test.YtmcbjcbnckpfkaaGreatPk25
import Derived.Test.YtmcbjcbnckpfkaaGreatPk24
import Derived.Deep.MidRow
import Derived.BigRegion
import Derived.Test.YtmcbjcbnckpfkaaGreatPk26
namespace Go.Proofs.YtmcbjcbnckpfkaaGreat
open Go.RowKit
set_option linter.unusedVariables false
namespace Sf
theorem bytes_old {f : File} {a : Act} {k : Nat} (h : k ≤ f.row.length) : bytes ⟨f.sure, f.row ++ [a]⟩ k = bytes f k := by
  unfold bytes
  rw [List.take_append_of_le_length h]
theorem bytes_new (f : File) (a : Act) : bytes ⟨f.sure, f.row ++ [a]⟩ (f.row.length + 1) = done (now f) a := by
  rw [bytes_succ (a := a) (by simp), bytes_old (Nat.le_refl _), bytes_all]
/-- A file that is seen is no longer than what is used. -/
theorem len_lens {t : St} {d : Dir} {e : ByteArray × Nat} (h : e ∈ d) : len t e.2 ≤ lens t d := by
  induction d with
  | nil => cases h
  | cons x d ih =>
    have hc : lens t (x :: d) = len t x.2 + lens t d := by simp [lens]
    rw [hc]
    rcases List.mem_cons.1 h with rfl | h
    · omega
    · have := ih h; omega
theorem len_used {t : St} {s : ByteArray} {n : Nat} (h : get t s = (n, 0)) : len t n ≤ used t := by
  have h2 := get_ok (t := t) (s := s) (by rw [h])
  rw [h] at h2
  rw [used, h2.1]
  unfold find at h2
  obtain ⟨e, he, hq⟩ := Option.map_eq_some_iff.1 h2.2
  have := len_lens (t := t) (List.mem_of_find?_eq_some he)
  rw [hq] at this
  simpa using this
end Sf
theorem FileOk.push {f : Sf.File} (h : FileOk f) {a : Sf.Act} (h1 : a.at_ ≤ (Sf.now f).length) (h2 : a.b.length ≤ 1048576) (h3 : a.cut = true → a.b = []) (h4 : (Sf.done (Sf.now f) a).length ≤ 1048576) (h5 : f.row.length < 2199023255552) :
    FileOk ⟨f.sure, f.row ++ [a]⟩ where
  len := fun k hk => by
    rcases Nat.lt_or_ge f.row.length k with h6 | h6
    · have e : k = f.row.length + 1 := by simp at hk; omega
      rw [e, Sf.bytes_new]; exact h4
    · rw [Sf.bytes_old h6]; exact h.len k h6
  at_ := fun k c hk => by
    rcases Nat.lt_or_ge k f.row.length with h6 | h6
    · have hk : (f.row ++ [a])[k]? = some c := hk
      rw [List.getElem?_append_left h6] at hk
      rw [Sf.bytes_old (Nat.le_of_lt h6)]
      exact h.at_ k c hk
    · have hk : (f.row ++ [a])[k]? = some c := hk
      have e : k = f.row.length := by have := (List.getElem?_eq_some_iff.1 hk).1; simp at this; omega
      subst e
      have ec : a = c := by simpa using hk
      subst ec
      rw [Sf.bytes_old (Nat.le_refl _), Sf.bytes_all]
      exact ⟨h1, h2, h3⟩
  row := by simp; omega
theorem Sf.fileAt_some {t : Sf.St} {n : Nat} (h : n < t.files.length) : t.files[n]? = some (Sf.fileAt t n) := by unfold Sf.fileAt; simp [List.getElem?_eq_getElem h]
section
variable {w : World} {f : Fp} {t : Sf.St} {b : Nat} {vf vs vr vu : Value} {rf : List RawF} {rr : List Sl}
/-- The acts of two kinds of lists lie in two blocks. -/
theorem RHas.file_two (h : RHas w f t b vf vs vr vu rf rr) {i : Nat} {x : RawF} (hx : rf[i]? = some x) {k : Nat} (hk : vf.ownBlock = some k) : (slV x.row).ownBlock ≠ some k := fun e => by
  have hi : i < t.files.length := by have := (List.getElem?_eq_some_iff.1 hx).1; have := h.body.nfiles; omega
  obtain ⟨ra, _, ho, _⟩ := (h.body.file i x _ hx (List.getElem?_eq_getElem hi)).acts
  exact own_two ho h.body.files (by decide) e hk
/-- A disk of which one file has one more act. -/
theorem RHas.turn_file (h : RHas w f t b vf vs vr vu rf rr) (hf : Sf.Few t) {n : Nat} {x : RawF} {a : Sf.Act} {r : RawA} {ra : List RawA} (hx : rf[n]? = some x) (hn : n < t.files.length)
    (hra : ra.length = (Sf.fileAt t n).row.length) (hOr : OwnL aK w 0 (slV x.row) ra) (hrel : ∀ (i : Nat) (q : RawA) (c : Sf.Act), ra[i]? = some q → (Sf.fileAt t n).row[i]? = some c → q.cut = c.cut ∧ q.at_ = c.at_ ∧ Rd yK w f.R (slV q.sl) c.b)
    (hr : r.cut = a.cut ∧ r.at_ = a.at_) (hv : Lv yK w w.heap.size (slV r.sl) a.b) (hblk : 0 < a.b.length → ∀ k, (slV r.sl).ownBlock = some k → ¬ f.M k ∧ k < w.heap.size)
    (hok : FileOk ⟨(Sf.fileAt t n).sure, (Sf.fileAt t n).row ++ [a]⟩)
    {g cf : Nat} (hvf : vf = .slice (some ⟨g, 0, none⟩) rf.length cf) {w5 w7 : World} {A3 : Option Addr} {c3 : Nat}
    (hA : OwnL aK w5 0 (.slice A3 (ra.length + 1) c3) (ra ++ [r])) (hM : ∀ k, (Value.slice A3 (ra.length + 1) c3).ownBlock = some k → (slV x.row).ownBlock = some k ∨ w.heap.size ≤ k)
    (T5 : Turned (fun k => (slV x.row).ownBlock = some k) w w5) (T7 : Turned (fun k => k = b) (w5.setCell ⟨g, n * 2 + 1, none⟩ (.slice A3 (ra.length + 1) c3)) w7)
    (hw : w7.heap[b]? = some (.cells (headC (Sf.add t n a).2 vf vs vr vu) 53 (0, 0))) :
    RHas w7 ⟨fun k => f.M k ∨ (Value.slice A3 (ra.length + 1) c3).ownBlock = some k, fun k => f.R k ∨ (0 < a.b.length ∧ (slV r.sl).ownBlock = some k)⟩ (Sf.add t n a).2 b vf vs vr vu (rf.set n ⟨x.sure, ⟨A3, ra.length + 1, c3⟩⟩) rr ∧ Turned f.M w w7 := by
  obtain ⟨h0, h1, h2, h3, h4, h5, h6⟩ := blown_same (Sf.added t n a)
  have hb : b < w.heap.size := h.lt b (.inl h.mine)
  have hgk : vf.ownBlock = some g := by rw [hvf]; rfl
  have hxn : n < rf.length := (List.getElem?_eq_some_iff.1 hx).1
  have hrow : ∀ k, (slV x.row).ownBlock = some k → f.M k := fun k hk => h.body.rowMs n x hx k hk
  have hgM : f.M g := h.body.filesM g hgk
  -- the files behind the store
  have hf5 : OwnL fK w5 0 vf rf := h.body.files.turned_ T5 (fun k hk e => h.file_two hx hk e)
  rw [hvf] at hf5
  obtain ⟨hf6, hG6⟩ := hf5.setc_ (j := 1) (x' := (⟨x.sure, ⟨A3, ra.length + 1, c3⟩⟩ : RawF)) (u := .slice A3 (ra.length + 1) c3) hx (by decide) rfl trivial
  rw [← hvf] at hf6
  have hf6' : OwnL fK (w5.setCell ⟨g, n * 2 + 1, none⟩ (.slice A3 (ra.length + 1) c3)) 0 vf (rf.set n ⟨x.sure, ⟨A3, ra.length + 1, c3⟩⟩) := hf6
  have T6 : Turned (fun k => k = g) w5 (w5.setCell ⟨g, n * 2 + 1, none⟩ (.slice A3 (ra.length + 1) c3)) := Turned.setCell (F := fun k => k = g) (Turned.refl (fun k => k = g) w5) (p := ⟨g, n * 2 + 1, none⟩) (fun _ => rfl) _
  have T67 : Turned (fun k => k = g ∨ k = b) w5 w7 := (T6.mono (G := fun k => k = g ∨ k = b) (fun k _ hk => .inl hk)).trans (T7.mono (G := fun k => k = g ∨ k = b) (fun k _ hk => .inr hk)) (fun k _ hk => hk)
  have T : Turned (fun k => (slV x.row).ownBlock = some k ∨ k = g ∨ k = b) w w7 := (T5.mono (G := fun k => (slV x.row).ownBlock = some k ∨ k = g ∨ k = b) (fun k _ hk => .inl hk)).trans (T67.mono (G := fun k => (slV x.row).ownBlock = some k ∨ k = g ∨ k = b) (fun k _ hk => .inr hk)) (fun k _ hk => hk)
  have FM : ∀ k, ((slV x.row).ownBlock = some k ∨ k = g ∨ k = b) → f.M k := fun k hk => hk.elim (hrow k) (fun e => e.elim (fun e => e ▸ hgM) (fun e => e ▸ h.mine))
  have FR : ∀ k, ((slV x.row).ownBlock = some k ∨ k = g ∨ k = b) → ¬ f.R k := fun k hk => h.sep k (FM k hk)
  have hd0 : Rd yK w (fun k => 0 < a.b.length ∧ (slV r.sl).ownBlock = some k) (slV r.sl) a.b := ⟨hv, fun hp k hk => ⟨hp, hk⟩⟩
  have hd := (hd0.turned T (fun k hk he => (hblk he.1 k he.2).1 (FM k hk))).mono (R' := fun k => f.R k ∨ (0 < a.b.length ∧ (slV r.sl).ownBlock = some k)) (fun k hk => .inr hk)
  have hAg : (Value.slice A3 (ra.length + 1) c3).ownBlock ≠ some g := fun e => (hM g e).elim (fun e2 => h.file_two hx hgk e2) (fun e2 => by have := h.lt g (.inl hgM); omega)
  have hAb : (Value.slice A3 (ra.length + 1) c3).ownBlock ≠ some b := fun e => (hM b e).elim (fun e2 => h.acts_ne n x hx e2) (fun e2 => by omega)
  have hnew : ∀ {i : Nat} {y : RawF}, i ≠ n → rf[i]? = some y → ∀ k, (slV y.row).ownBlock = some k → (Value.slice A3 (ra.length + 1) c3).ownBlock ≠ some k := fun hi hy k hk e => by
    rcases hM k e with e2 | e2
    · exact h.body.apart _ _ _ _ hi hy hx k hk e2
    · have := h.lt k (.inl (h.body.rowMs _ _ hy k hk)); omega
  refine ⟨?_, T.mono (fun k _ hk => FM k hk)⟩
  have hadd : Sf.add t n a = Sf.blown (Sf.added t n a) := rfl
  rw [hadd] at hw ⊢
  refine ⟨hw, Body.same (t := Sf.added t n a) ?_ h1 h2 h3 h4, ?_, .inl h.mine, ?_, ?_⟩
  · exact {
      nfiles := by show (rf.set n _).length = (t.files.set n _).length; rw [List.length_set, List.length_set]; exact h.body.nfiles
      files := hf6'.turned_ T7 (fun k hk e => h.files_ne (e ▸ hk))
      file := fun i y q hy hq => by
        have hq : (t.files.set n ⟨(Sf.fileAt t n).sure, (Sf.fileAt t n).row ++ [a]⟩)[i]? = some q := hq
        by_cases hi : i = n
        · subst hi
          rw [List.getElem?_set_self hxn] at hy
          rw [List.getElem?_set_self hn] at hq
          injection hy with hy
          injection hq with hq
          subst hy hq
          have hF := h.body.file i x _ hx (Sf.fileAt_some hn)
          refine ⟨(hF.sure.turned T FR).mono (fun k hk => .inl hk), ⟨ra ++ [r], by simp [hra], hA.turned_ T67 (fun k hk e => e.elim (fun e => hAg (e ▸ hk)) (fun e => hAb (e ▸ hk))), fun j u c hu hc => ?_⟩, fun k hk => .inr hk, hok⟩
          by_cases hj : j < ra.length
          · rw [List.getElem?_append_left hj] at hu
            have hc : ((Sf.fileAt t i).row ++ [a])[j]? = some c := hc
            rw [List.getElem?_append_left (by omega)] at hc
            obtain ⟨q1, q2, q3⟩ := hrel j u c hu hc
            exact ⟨q1, q2, (q3.turned T FR).mono (fun k hk => .inl hk)⟩
          · have hl : j < (ra ++ [r]).length := (List.getElem?_eq_some_iff.1 hu).1
            have ej : j = ra.length := by simp at hl; omega
            subst ej
            have eu : r = u := by simpa using hu
            have ec : a = c := by
              have hc : ((Sf.fileAt t i).row ++ [a])[ra.length]? = some c := hc
              rw [hra] at hc
              simpa using hc
            subst eu ec
            exact ⟨hr.1, hr.2, hd⟩
        · rw [List.getElem?_set_ne (Ne.symm hi)] at hy hq
          exact ((h.body.file i y q hy hq).turned T FR (fun k hk e => e.elim (fun e => h.body.apart i n y x hi hy hx k hk e) (fun e => e.elim (fun e => h.file_two hy hgk (e ▸ hk)) (fun e => h.acts_ne i y hy (e ▸ hk))))).mono (fun k hk => .inl hk) (fun k hk => .inl hk)
      filesM := fun k hk => .inl (h.body.filesM k hk)
      apart := fun i j y z hij hy hz => by
        by_cases hi : i = n
        · subst hi
          rw [List.getElem?_set_self hxn] at hy
          rw [List.getElem?_set_ne hij] at hz
          injection hy with hy
          subst hy
          exact fun k hk e => hnew (Ne.symm hij) hz k e hk
        · rw [List.getElem?_set_ne (Ne.symm hi)] at hy
          by_cases hj : j = n
          · subst hj
            rw [List.getElem?_set_self hxn] at hz
            injection hz with hz
            subst hz
            exact fun k hk e => hnew hij hy k hk e
          · rw [List.getElem?_set_ne (Ne.symm hj)] at hz
            exact h.body.apart i j y z hij hy hz
      nrow := h.body.nrow
      row := h.body.row.turned_ T (fun k hk e => e.elim (fun e => h.act_two hx hk e) (fun e => e.elim (fun e => h.row_two hk (e ▸ hgk)) (fun e => h.row_ne (e ▸ hk))))
      rows := fun i u d hu hd => ((h.body.rows i u d hu hd).turned T FR).mono (fun k hk => .inl hk)
      rowM := fun k hk => .inl (h.body.rowM k hk)
      seen := (h.body.seen.turned T FR).mono (fun k hk => .inl hk)
      sure := (h.body.sure.turned T FR).mono (fun k hk => .inl hk) }
  · have g := h.good
    unfold Sf.Few at hf
    have hlen : (Sf.added t n a).files.length = t.files.length := List.length_set ..
    exact {
      room := by rw [h0]; exact g.room
      files := by rw [h1, h5, hlen]; have := g.files; show t.files.length ≤ 64 + (t.acts + 1); omega
      rows := by rw [h2, h5]; have := g.rows; show t.row.length ≤ t.acts + 1; omega
      acts := by rw [h5]; show t.acts + 1 ≤ _; omega
      fuse := Nat.lt_of_le_of_lt h6 g.fuse
      sure := by rw [h4, h1, hlen]; exact g.sure
      seen := by rw [h3, h1, hlen]; exact g.seen
      row := by rw [h2, h1, hlen]; exact g.row
      frow := by
        rw [h1, h5]
        intro q hq
        show q.row.length ≤ t.acts + 1
        rcases List.mem_or_eq_of_mem_set hq with hq | rfl
        · exact Nat.le_trans (g.frow q hq) (Nat.le_succ _)
        · have := g.frow _ (List.mem_of_getElem? (Sf.fileAt_some hn))
          simp; omega
      inv := ⟨by rw [h3]; exact g.inv.nums, by rw [h3, h1, hlen]; exact g.inv.lt⟩ }
  · intro k hk
    rcases hk with (hk | hk) | (hk | hk)
    · exact Nat.lt_of_lt_of_le (h.lt k (.inl hk)) T.size
    · exact Nat.lt_of_lt_of_le (hA.lt_ k hk).2 T67.size
    · exact Nat.lt_of_lt_of_le (h.lt k (.inr hk)) T.size
    · exact Nat.lt_of_lt_of_le (hblk hk.1 k hk.2).2 T.size
  · intro k hk hr
    rcases hk with hk | hk <;> rcases hr with hr | hr
    · exact h.sep k hk hr
    · exact (hblk hr.1 k hr.2).1 hk
    · rcases hM k hk with e | e
      · exact h.sep k (hrow k e) hr
      · have := h.lt k (.inr hr); omega
    · rcases hM k hk with e | e
      · exact (hblk hr.1 k hr.2).1 (hrow k e)
      · have := (hblk hr.1 k hr.2).2; omega
end
end Go.Proofs.YtmcbjcbnckpfkaaGreat
namespace Go.Proofs.YtmcbjcbnckpfkaaGreat
open Go.RowKit
set_option linter.unusedVariables false
theorem done_none (b : List Nat) : Sf.done b ⟨false, 0, []⟩ = b := by simp [Sf.done]
set_option maxHeartbeats 4000000 in
set_option maxRecDepth 100000 in
theorem rbytes_file (w : World) (g off B : Nat) (x : RawF) (f : Sf.File) (hg : g < w.heap.size) (hs : w.cell? ⟨g, off, none⟩ = some (slV x.sure)) (hr : w.cell? ⟨g, off + 1, none⟩ = some (slV x.row)) (hv : FileV w B x f) (hB : B ≤ w.heap.size) (ho : FileOk f) (k : Nat) (hk : k ≤ f.row.length) :
    Calls Tryz.prog 63 #[.pointer (some ⟨g, off, none⟩), .int .i64 (k : Nat)] w (IsL1 yK (Sf.bytes f k) w) := by
  have H0 := Lib.hid hv
  have HOK := Lib.hid ho
  have hkm : k ≤ 2199023255552 := Nat.le_trans hk ho.row
  obtain ⟨⟨sA, sn, sc⟩, ⟨rA, rn, rc⟩⟩ := x
  change w.cell? ⟨g, off, none⟩ = some (.slice sA sn sc) at hs
  change w.cell? ⟨g, off + 1, none⟩ = some (.slice rA rn rc) at hr
  have HCR : Hid (∀ w', Below w.heap.size w w' → w'.cell? ⟨g, off + 1, none⟩ = some (.slice rA rn rc)) := fun w' hb' => (hb'.cell (p := ⟨g, off + 1, none⟩) hg).trans hr
  have h00 := ho.len 0 (Nat.zero_le _)
  rw [Sf.bytes_zero] at h00
  have C1 := Lib.hid (rdone_any (.slice sA sn sc) f.sure B w hv.sure hB false 0 (.slice none 0 0) [] (Lv.nil_ _ _ _) (Nat.zero_le _) (by omega) (by simp))
  rw [done_none] at C1
  have hrn : rn = f.row.length ∧ rn ≤ rc ∧ rc ≤ maxLen := by
    obtain ⟨ra, h1, h2, _⟩ := hv.acts
    have := Lv.len_ (A := rA) (n := rn) (c := rc) h2
    omega
  obtain ⟨hrn, hrc, hrm⟩ := hrn
  clear hv ho h00 hr
  go_enter Tryz.func63, Tryz.ntmps63
  go_wp2_with fail
  refine C1.out.mono ?_
  rintro e1 w1 ⟨A1, c1, rfl, ho1, hb1⟩
  have HO1 := Lib.hid ho1
  have HB1 := Lib.hid hb1
  clear C1 ho1 hb1 hs
  go_wp2
  go_loopw [5, 6] (fun u i wr => ∃ (j : Nat) (A : Option Addr) (c : Nat) (y : List Nat), j ≤ k ∧ i = .int .i64 (j : Nat) ∧ u = .slice A y.length c ∧ Hid (y = Sf.bytes f j) ∧ Hid (OwnL yK wr w.heap.size (.slice A y.length c) y) ∧ Below w.heap.size w wr) (fun _ i _ => k - (intOf i).toNat)
  case atStart => exact ⟨0, A1, c1, f.sure, by omega, rfl, rfl, rfl, HO1.out, HB1.out⟩
  case round =>
    obtain ⟨j, A, c, y, hj, rfl, rfl, HE, HY, hbr⟩ := hrel
    have HBr := Lib.hid hbr
    clear hbr HO1 HB1
    by_cases hlt : j < k
    · have hji : (j : Int) < (k : Int) := by omega
      have hj0 : (0 : Int) ≤ (j : Int) := by omega
      have hjn : (j : Int) < (rn : Int) := by omega
      have hjn2 : j < rn := by omega
      have wj : IntKind.i64.wrap ((j : Int) + 1) = (j : Int) + 1 := by rw [IntKind.wrap_i64]; omega
      have hrr := HCR.out wr HBr.out
      have HV := H0.out.below_ HBr.out hB
      obtain ⟨ra, q1, q2, q3⟩ := HV.acts
      obtain ⟨b, off2, r, hA, hb, hrok, hq, hm⟩ := q2.mid_ (k := j) (by omega)
      have ha : f.row[j]? = some f.row[j] := List.getElem?_eq_getElem (by omega)
      obtain ⟨e1, e2, e3⟩ := q3 j r _ hq ha
      obtain ⟨o1, o2, o3⟩ := HOK.out.at_ j _ ha
      have HYN := HE.out
      have hyl := HOK.out.len j (by omega)
      rw [← HYN] at hyl o1
      obtain ⟨rcut, rat, ⟨slA, sln, slc⟩⟩ := r
      change wr.rangeAt b (off2 + j * 3) [.bool rcut, .int .i64 (rat : Nat), .slice slA sln slc] at hm
      have HM := Lib.hid hm
      change rA = some ⟨b, off2, none⟩ at hA
      subst hA
      have C2 := Lib.hid (rdone_any _ y wr.heap.size wr HY.out.form_ (Nat.le_refl _) f.row[j].cut f.row[j].at_ _ f.row[j].b (e3.mono_ (B' := wr.heap.size) (Nat.le_trans hB HBr.out.size)) o1 (by omega) (by omega))
      have HE2 : Hid (Sf.done y ⟨f.row[j].cut, f.row[j].at_, f.row[j].b⟩ = Sf.bytes f (j + 1)) := by unfold Hid; rw [Sf.bytes_succ ha, HYN]
      rw [HE2.out, ← e1, ← e2] at C2
      change Hid (Calls _ _ #[_, .agg #[.bool rcut, .int .i64 (rat : Nat), .slice slA sln slc]] _ _) at C2
      clear q1 q2 q3 hq ha e1 e2 e3 o1 o2 o3 hm HE HE2 hrok hb HV HYN
      go_wp2_with (refine wpList_load_mid rfl _ _ rfl b (off2 + j * 3) rfl [.bool rcut, .int .i64 (rat : Nat), .slice slA sln slc] _ HM.out Tryz.underlying101 rfl (by kernel_rfl) ?_)
      refine C2.out.mono ?_
      rintro e2 w2 ⟨A2, c2, rfl, ho2, hb2⟩
      have HO2 := Lib.hid (ho2.mono_ HBr.out.size)
      have HB2 := Lib.hid (HBr.out.trans (hb2.mono HBr.out.size))
      clear C2 ho2 hb2 hrr HM
      go_wp2
      go_roundw
      case rel => exact ⟨j + 1, A2, c2, _, by omega, by go_num, rfl, rfl, HO2.out, HB2.out⟩
      case measure => simp [intOf]; omega
    · have hji : ¬ (j : Int) < (k : Int) := by omega
      have HK : Hid (y = Sf.bytes f k) := by
        have e : j = k := by omega
        rw [← e]; exact HE.out
      clear HE
      go_wp2
      go_ret
      rw [← HK.out]
      exact ⟨A, c, rfl, HY.out, HBr.out⟩
set_option maxHeartbeats 1000000 in
set_option maxRecDepth 100000 in
theorem rnow_file (w : World) (g off B : Nat) (x : RawF) (f : Sf.File) (hg : g < w.heap.size) (hs : w.cell? ⟨g, off, none⟩ = some (slV x.sure)) (hr : w.cell? ⟨g, off + 1, none⟩ = some (slV x.row)) (hv : FileV w B x f) (hB : B ≤ w.heap.size) (ho : FileOk f) :
    Calls Tryz.prog 83 #[.pointer (some ⟨g, off, none⟩)] w (IsL1 yK (Sf.now f) w) := by
  have C := Lib.hid (rbytes_file w g off B x f hg hs hr hv hB ho f.row.length (Nat.le_refl _))
  rw [Sf.bytes_all] at C
  have hrn : x.row.n = f.row.length := by
    obtain ⟨ra, h1, h2, _⟩ := hv.acts
    have := (Lv.len_ (A := x.row.A) (n := x.row.n) (c := x.row.c) h2).1
    omega
  have hm : f.row.length ≤ 2199023255552 := ho.row
  obtain ⟨⟨sA, sn, sc⟩, ⟨rA, rn, rc⟩⟩ := x
  change w.cell? ⟨g, off + 1, none⟩ = some (.slice rA rn rc) at hr
  change rn = f.row.length at hrn
  subst hrn
  clear hs hv ho
  go_enter Tryz.func83, Tryz.ntmps83
  go_wp2_with fail
  refine C.out.mono ?_
  rintro e1 w1 ⟨A1, c1, rfl, ho1, hb1⟩
  have HO1 := Lib.hid ho1
  have HB1 := Lib.hid hb1
  clear C ho1 hb1
  go_wp2
  go_ret
  exact ⟨A1, c1, rfl, HO1.out, HB1.out⟩
end Go.Proofs.YtmcbjcbnckpfkaaGreat
namespace Go.Proofs.YtmcbjcbnckpfkaaGreat
open Go.RowKit
set_option linter.unusedVariables false
theorem get_lt {t : Sf.St} (hg : Good t) {s : ByteArray} {k : Nat} (h : Sf.get t s = (k, 0)) : k < t.files.length := by
  unfold Sf.get at h
  split at h
  · injection h with _ h; cases h
  · split at h
    · injection h with _ h; cases h
    · rename_i n hn
      injection h with h _
      subst h
      unfold Sf.find at hn
      obtain ⟨e, he, hq⟩ := Option.map_eq_some_iff.1 hn
      rw [← hq]
      exact hg.seen.2 e (List.mem_of_find?_eq_some he)
section
variable {w : World} {f : Fp} {t : Sf.St} {b : Nat} {vf vs vr vu : Value} {rf : List RawF} {rr : List Sl}
/-- Where a file of a disk lies. -/
theorem RHas.file_at (h : RHas w f t b vf vs vr vu rf rr) {k : Nat} (hk : k < t.files.length) :
    ∃ g off c x, vf = .slice (some ⟨g, off, none⟩) t.files.length c ∧ t.files.length ≤ 9223372036854775807 ∧ g < w.heap.size ∧ rf[k]? = some x ∧ w.cell? ⟨g, off + k * 2, none⟩ = some (slV x.sure) ∧ w.cell? ⟨g, off + k * 2 + 1, none⟩ = some (slV x.row) ∧ HasFile w f x (Sf.fileAt t k) := by
  have hL := h.body.files.form_
  obtain ⟨A, c, e, hc1, hc2, _, _⟩ := hL
  subst e
  have hL := h.body.files.form_
  have hk' : k < rf.length := by rw [h.body.nfiles]; exact hk
  obtain ⟨g, off, x, rfl, hg, _, hx, hc⟩ := hL.at_ hk'
  refine ⟨g, off, c, x, by rw [h.body.nfiles], ?_, hg, hx, hc 0 _ rfl, hc 1 _ rfl, ?_⟩
  · have := h.body.nfiles
    simp only [maxLen] at hc2
    omega
  · have e : t.files[k]? = some (Sf.fileAt t k) := by unfold Sf.fileAt; simp [List.getElem?_eq_getElem hk]
    exact h.body.file k x _ hx e
end
section
variable {w : World} {f : Fp} {t : Sf.St} {b : Nat}
set_option maxHeartbeats 2000000 in
set_option maxRecDepth 100000 in
theorem rsize_disk (h : RDiskM w f t b) (s : ByteArray) : Calls Tryz.prog 52 #[.pointer (some ⟨b, 0, none⟩), .string s] w (IsNE (Sf.size t s) w) := by
  obtain ⟨vf, vs, vr, vu, rf, rr, h⟩ := h
  have CG := Lib.hid (rget_head w t b vf vs vr vu h.head w.heap.size h.body.seen.lv s)
  have d1 : w.cell? ⟨b, 1, none⟩ = some vf := h.cell rfl
  obtain ⟨k, er, hge⟩ : ∃ k er, Sf.get t s = (k, er) := ⟨_, _, rfl⟩
  by_cases he : er = 0
  · have hq : ((er : Int) == 0) = true := by rw [beq_iff_eq]; omega
    have hk := get_lt h.good (by rw [hge, he])
    obtain ⟨g, off, c, x, rfl, hsl, hg, _, c0, c1, hF⟩ := h.file_at hk
    have C := Lib.hid (rnow_file w g (off + k * 2) w.heap.size x (Sf.fileAt t k) hg c0 c1 hF.read (Nat.le_refl _) hF.ok)
    have HE : Hid (Sf.size t s = ((Sf.now (Sf.fileAt t k)).length, 0)) := by
      unfold Hid Sf.size Sf.len
      rw [hge]
      simp [he]
    rw [hge] at CG
    have hki : (k : Int) < (t.files.length : Int) := by omega
    have hk0 : ¬ (k : Int) < 0 := by omega
    have hk1 : (0 : Int) ≤ (k : Int) := by omega
    clear h hge he hF c0 c1
    go_enter Tryz.func52, Tryz.ntmps52
    go_wp2_with fail
    refine CG.out.mono ?_
    rintro e1 w1 ⟨rfl, rfl⟩
    clear CG
    go_wp2_with fail
    refine C.out.mono ?_
    rintro e2 w2 ⟨A1, c1, rfl, ho1, hb1⟩
    have HB1 := Lib.hid hb1
    clear C ho1 hb1
    go_wp2
    go_ret2
    rw [HE.out]
    exact ⟨rfl, HB1.out⟩
  · have hq : ((er : Int) == 0) = false := by rw [beq_eq_false_iff_ne]; omega
    have HE : Hid (Sf.size t s = (0, er)) := by
      unfold Hid Sf.size
      rw [hge]
      simp [he]
    rw [hge] at CG
    clear h hge he
    go_enter Tryz.func52, Tryz.ntmps52
    go_wp2_with fail
    refine CG.out.mono ?_
    rintro e1 w1 ⟨rfl, rfl⟩
    clear CG
    go_wp2
    go_ret2
    rw [HE.out]
    exact ⟨rfl, Below.refl _ _⟩
end
end Go.Proofs.YtmcbjcbnckpfkaaGreat
