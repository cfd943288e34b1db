/-
  PfC: bytes.Clone; copy into an own slice from a place on.
  PfDo: simfs.change.do: a file's bytes behind an act, written over where they lie.
  Row: A block that holds an array, whole: what reads and stores make of it.
-/
import Derived.Test.YtmcbjcbnckpfkaaGreatPk12
import Derived.Test.YtmcbjcbnckpfkaaGreatPk03
import Derived.Laws.CopyRow
import Derived.Laws.IdiomCopy
import Derived.StillTailTactics
import Derived.Test.YtmcbjcbnckpfkaaGreatProg
import Derived.WalkKit
import Derived.Below
import Derived.Laws.CopyOwn
import Derived.Lib.Hide
namespace Go.Proofs.YtmcbjcbnckpfkaaGreat
open Go.RowKit
set_option linter.unusedVariables false
theorem equalIn_slice_nil (w : World) (d : Nat) (A : Option Addr) (n c : Nat) : (Op.equalIn (d + 1) 33 (.slice A n c) (.slice none 0 0)).run Tryz.prog w = .ok A.isNone w := by
  cases A <;> simp [Op.equalIn, run_underlying Tryz.underlying33]
theorem eql_nil_slice (w : World) (A : Option Addr) (n c : Nat) : (binOp .eql 33 (.slice A n c) (.slice none 0 0)).run Tryz.prog w = .ok (.bool A.isNone) w := by
  simp only [binOp]
  simp [show Op.equal 33 (.slice A n c) (.slice none 0 0) = Op.equalIn (9999 + 1) 33 (.slice A n c) (.slice none 0 0) from rfl, equalIn_slice_nil w 9999 A n c]
set_option maxHeartbeats 1000000 in
set_option maxRecDepth 100000 in
theorem pbclone_any (v : Value) (l : List Nat) (B : Nat) (w : World) (h : Lv yK w B v l) (hB : B ≤ w.heap.size) (hsz : l.length ≤ 140737488355328) :
    Calls Tryz.prog 74 #[v] w (IsL1 yK l w) := by
  have H0 := Lib.hid h
  obtain ⟨A, c, rfl, h1, h2, h3, _⟩ := h
  cases A with
  | none =>
    have hc := h3 rfl
    have hl : l = [] := List.eq_nil_of_length_eq_zero (by omega)
    subst hl hc
    have hq := fun w => eql_nil_slice w none 0 0
    clear h1 h2 h3 hsz hB
    go_enter Tryz.func74, Tryz.ntmps74
    go_wp2
    go_ret
    exact ⟨none, 0, rfl, OwnL.nil_ _ _ _, Below.refl _ _⟩
  | some a =>
    have HN : Hid (OwnL yK (w.alloc (.cells #[] 5)) w.heap.size (.slice (some ⟨w.heap.size, 0, none⟩) 0 0) []) := ⟨by simp, .inr ⟨w.heap.size, [], rfl, Nat.le_refl _, by simp, by simp [maxLen], heap_alloc_new w _⟩⟩
    have H1 := Lib.hid (H0.out.below_ ((Below.refl w.heap.size w).alloc (Nat.le_refl _) (.cells #[] 5)) hB)
    have hb : Below w.heap.size w (w.alloc (.cells #[] 5)) := (Below.refl _ _).alloc (Nat.le_refl _) _
    have HB := Lib.hid hb
    clear hb
    have hq := fun w => eql_nil_slice w (some a) l.length c
    go_enter Tryz.func74, Tryz.ntmps74
    go_wp2_with (at_builtin; go_must (refine wpList_append_l _ yK rfl _ _ rfl w.heap.size _ rfl [] HN.out _ rfl B l H1.out (by show _ * 1 ≤ _; simp; omega) (by simp only [maxLen, List.length_nil]; omega) (by simp) ?_; intro A3 c3 w1 hA hG))
    go_ret
    simp only [List.nil_append] at hA
    exact ⟨A3, c3, by simp, hA, HB.out.grown hG HB.out.size (fun k hk => by have e : w.heap.size = k := Option.some.inj hk; omega)⟩
theorem sizeY : (Tryz.prog.info? 5).map (·.size) = some 1 := by kernel_rfl
theorem flatY (l : List Nat) : yK.flat l = l.map fun x => Value.int .u8 (x : Nat) := by
  induction l with
  | nil => rfl
  | cons x l ih => rw [flat_cons, ih]; rfl
set_option maxRecDepth 100000 in
/-- copy into an own slice, from a place on. -/
theorem copy_at {w : World} {base B n c : Nat} {A : Option Addr} {l : List Nat} (h : OwnL yK w base (.slice A n c) l) (k : Nat) (hk : k ≤ l.length) {x : Value} {m : List Nat} (hx : Lv yK w B x m) :
    ∃ A' w2, (∀ w, (Instr.slice 33 (.slice A n c) (some (.int .i64 (k : Nat))) none none).run Tryz.prog w = .ok (.slice A' (n - k) (c - k)) w) ∧
      (∀ w, (Instr.sliceAt 33 (.slice A n c) (some (.int .i64 (k : Nat))) none none).run Tryz.prog w = .ok (.slice A' (n - k) (c - k)) w) ∧
      (Builtin.copy_ #[33, 33] 3 #[.slice A' (n - k) (c - k), x]).run Tryz.prog w = .ok (.int .i64 ((Nat.min m.length (l.length - k) : Nat))) w2 ∧
      OwnL yK w2 base (.slice A n c) (l.take k ++ m.take (Nat.min m.length (l.length - k)) ++ l.drop (k + Nat.min m.length (l.length - k))) ∧ w.grownBy w2 (Value.slice A n c).ownBlock := by
  have hform := h.form_
  obtain ⟨en, hc1, hc2⟩ := hform.len_
  subst en
  have hu : Tryz.prog.underlying yK.s = some (.slice (Tryz.prog.elem yK.s)) := yK.under
  have h1' : ∀ w, (Instr.slice yK.s (.slice A l.length c) (some (.int .i64 (k : Nat))) none none).run Tryz.prog w = .ok (.slice (if c = k then A else A.map (·.add (k * yK.size))) (l.length - k) (c - k)) w := by
    intro w
    rw [run_slice_l (P := Tryz.prog) w yK.s A l.length c hu .i64 (k : Nat) (by omega) (by omega), elem_size yK rfl]
    simp only [Result.andThen, sliced, Int.toNat_natCast]
  have h2' : ∀ w, (Instr.sliceAt yK.s (.slice A l.length c) (some (.int .i64 (k : Nat))) none none).run Tryz.prog w = .ok (.slice (if c = k then A else A.map (·.add (k * yK.size))) (l.length - k) (c - k)) w := by
    intro w
    rw [run_sliceAt_slice (P := Tryz.prog) w _ _ _ _ _ hu]
    exact h1' w
  have h1 : ∀ w, (Instr.slice 33 (.slice A l.length c) (some (.int .i64 (k : Nat))) none none).run Tryz.prog w = .ok (.slice (if c = k then A else A.map (·.add (k * yK.size))) (l.length - k) (c - k)) w := h1'
  have h2 : ∀ w, (Instr.sliceAt 33 (.slice A l.length c) (some (.int .i64 (k : Nat))) none none).run Tryz.prog w = .ok (.slice (if c = k then A else A.map (·.add (k * yK.size))) (l.length - k) (c - k)) w := h2'
  obtain ⟨A1, c1, rfl, hm1, hm2, hm3, hm4, hm5⟩ := hx
  obtain ⟨q, hq⟩ : ∃ q, Nat.min m.length (l.length - k) = q := ⟨_, rfl⟩
  have hq1 : q ≤ m.length := by rw [← hq]; exact Nat.min_le_left _ _
  have hq2 : q ≤ l.length - k := by rw [← hq]; exact Nat.min_le_right _ _
  rw [hq]
  by_cases h0 : 0 < q
  · rcases h.2 with ⟨e, e2⟩ | ⟨g, s, e, hb, hs, hml, hh⟩
    · subst e2
      simp at hq2
      omega
    · injection e with e1 e2 e3
      subst e1 e3
      obtain ⟨b, off, rfl, hbB, hcell⟩ := hm5 (by omega)
      have hne : ¬ l.length + s.length = k := by omega
      have ea : (⟨g, 0, none⟩ : Addr).add k = ⟨g, k, none⟩ := by rw [add_addr, Nat.zero_add]
      have hrun := run_copy_row (P := Tryz.prog) w 33 33 3 5 g k (l.length - k) (l.length + s.length - k) ⟨b, off, none⟩ m.length c1 _ 5 (yK.flat (m.take q)) Tryz.underlying33 sizeY hh
        (by rw [flat_len, List.length_take, hq, Nat.min_eq_left hq1]; exact Nat.mul_one _) (fun j v hj => by
          rw [add_addr]
          refine hcell j v ?_
          have e2 : yK.flat m = yK.flat (m.take q) ++ yK.flat (m.drop q) := by rw [← flat_app, List.take_append_drop]
          rw [e2, List.getElem?_append_left (List.getElem?_eq_some_iff.1 hj).1]
          exact hj) (by
          rw [flat_len, List.length_take, Nat.min_eq_left hq1, List.size_toArray, flat_len, List.length_append]
          show k + q * 1 ≤ (l.length + s.length) * 1
          omega) (fun u hu => flat_one_cell _ u hu)
      have hlen : (l.take k ++ m.take q ++ l.drop (k + q)).length = l.length := by simp; omega
      have hcs : ((yK.flat (l ++ s)).toArray.toList.take k ++ yK.flat (m.take q) ++ (yK.flat (l ++ s)).toArray.toList.drop (k + (yK.flat (m.take q)).length)).toArray = (yK.flat ((l.take k ++ m.take q ++ l.drop (k + q)) ++ s)).toArray := by
        have ef : (yK.flat (m.take q)).length = q := by rw [flat_len, List.length_take, Nat.min_eq_left hq1]; exact Nat.mul_one _
        rw [ef, List.toList_toArray, flatY, flatY, flatY, List.map_append, List.map_append, List.map_append, List.map_append]
        congr 1
        rw [List.take_append_of_le_length (by rw [List.length_map]; exact hk), List.drop_append_of_le_length (by rw [List.length_map]; omega), List.map_take, List.map_drop]
        simp [List.append_assoc]
      rw [hcs] at hrun
      refine ⟨_, w.setRow g (yK.flat ((l.take k ++ m.take q ++ l.drop (k + q)) ++ s)).toArray, h1, h2, ?_, ⟨fun y hy => ?_, .inr ⟨g, s, by rw [hlen], hb, hs, by rw [hlen]; exact hml, setRow_heap w g _ _ _ _ hh⟩⟩, ⟨rfl, rfl, rfl, by simp, fun i _ hi => setRow_other w g i _ (fun e => hi (by rw [e]; rfl))⟩⟩
      · rw [if_neg hne, show yK.size = 1 from rfl, Nat.mul_one, Option.map_some, ea, hrun]
        congr 1
        rw [flat_len, List.length_take, Nat.min_eq_left hq1]
        show goInt ((q * 1 : Nat) : Int) = _
        rw [Nat.mul_one]; rfl
      · rcases List.mem_append.1 hy with hy | hy
        · rcases List.mem_append.1 hy with hy | hy
          · exact h.1 y (List.mem_of_mem_take hy)
          · exact hm4 y (List.mem_of_mem_take hy)
        · exact h.1 y (List.mem_of_mem_drop hy)
  · have hz : q = 0 := by omega
    rw [hz]
    have hrun := run_copy_none (P := Tryz.prog) w 33 33 3 5 (if c = k then A else A.map (·.add (k * yK.size))) A1 (l.length - k) (c - k) m.length c1 Tryz.underlying33 sizeY (by rw [hq, hz])
    refine ⟨_, w, h1, h2, hrun, ?_, ⟨rfl, rfl, rfl, Nat.le_refl _, fun _ _ _ => rfl⟩⟩
    simpa using h
end Go.Proofs.YtmcbjcbnckpfkaaGreat
namespace Go.Proofs.YtmcbjcbnckpfkaaGreat
open Go.RowKit
set_option linter.unusedVariables false
def cV (c : RawC) : Value := .agg #[.int .i64 (c.at_ : Nat), .slice c.sl.A c.sl.n c.sl.c, .bool c.cut]
/-- A call that answers these bytes, where they lay or in new memory. -/
def IsDone (v : Value) (base : Nat) (l : List Nat) (w : World) (e : Ending) (w' : World) : Prop :=
  ∃ A c, e = .returned (.slice A l.length c) ∧ OwnL yK w' base (.slice A l.length c) l ∧ w.grownBy w' v.ownBlock ∧ Moved w v (.slice A l.length c)
theorem OwnL.cutOff {P : Program} {α : Type} {K : El P α} {w : World} {base n c k : Nat} {A : Option Addr} {l : List α} (h : OwnL K w base (.slice A n c) l) (hk : k ≤ l.length) : OwnL K w base (.slice A k c) (l.take k) := by
  cases A with
  | none =>
    rcases h.2 with ⟨e, rfl⟩ | ⟨g, s, e, _⟩
    · injection e with _ e2 e3
      subst e2 e3
      have : k = 0 := by simpa using hk
      subst this
      exact OwnL.nil_ _ _ _
    · cases e
  | some a =>
    rcases h.2 with ⟨e, _⟩ | ⟨g, s, e, _⟩
    · cases e
    · injection e with e1 e2 e3
      injection e1 with e1
      subst e1
      exact h.take_ hk
/-- A list of one's own is in no block of another kind. -/
theorem own_ne {P : Program} {α : Type} {K : El P α} {w : World} {base b : Nat} {v : Value} {l : List α} {cs : Array Value} {T : TypeId} {fr : Nat × Nat} (h : OwnL K w base v l) (hb : w.heap[b]? = some (.cells cs T fr)) (hT : T ≠ K.e) : v.ownBlock ≠ some b := by
  intro e
  rcases h.2 with ⟨rfl, _⟩ | ⟨g, s, rfl, _, _, _, hh⟩
  · cases e
  · have eg : g = b := Option.some.inj e
    subst eg
    rw [hb] at hh
    injection hh with hh
    injection hh with _ hh _
    exact hT hh
set_option maxHeartbeats 2000000 in
set_option maxRecDepth 100000 in
theorem pcdo_any (c : RawC) (v : Value) (l : List Nat) (base B : Nat) (m : List Nat) (w : World) (hv : OwnL yK w base v l) (hm : Lv yK w B (slV c.sl) m) (hap : 0 < m.length → Apart (slV c.sl) v) (ha : c.at_ ≤ l.length) (hl : l.length ≤ 1099511627776) (hml : m.length ≤ 1099511627776) (hbase : base ≤ w.heap.size) (hB : B ≤ w.heap.size) :
    Calls Tryz.prog 90 #[cV c, v] w (IsDone v base (Sf.done l ⟨c.cut, c.at_, m⟩) w) := by
  obtain ⟨at_, ⟨Ac, nc, cc⟩, cut⟩ := c
  simp only [slV] at hm hap ha
  obtain ⟨A, cv, rfl, hc1, hc2, _, _⟩ := hv.form_
  change Calls _ _ #[.agg #[.int .i64 (at_ : Nat), .slice Ac nc cc, .bool cut], .slice A l.length cv] w _
  obtain ⟨w1, hw1⟩ : ∃ w1, w.alloc (.cells #[.int .i64 (at_ : Nat), .slice Ac nc cc, .bool cut] 113) = w1 := ⟨_, rfl⟩
  have hbx := heap_alloc_new w (.cells #[.int .i64 (at_ : Nat), .slice Ac nc cc, .bool cut] 113)
  have hbb : Below w.heap.size w (w.alloc (.cells #[.int .i64 (at_ : Nat), .slice Ac nc cc, .bool cut] 113)) := (Below.refl _ _).alloc (Nat.le_refl _) _
  have hgr : w.grownBy (w.alloc (.cells #[.int .i64 (at_ : Nat), .slice Ac nc cc, .bool cut] 113)) none := World.grownBy_alloc w _ none
  have hsz : w1.heap.size = w.heap.size + 1 := by rw [← hw1]; simp
  rw [hw1] at hbx hbb hgr
  have hv1 : OwnL yK w1 base (.slice A l.length cv) l := hv.below_ hbb (Nat.le_refl _)
  have hm1 : Lv yK w1 B (.slice Ac nc cc) m := hm.below_ hbb hB
  have h0 : w1.cell? ⟨w.heap.size, 0, none⟩ = some (.int .i64 (at_ : Nat)) := by rw [cell_of_row _ _ 0 _ _ _ hbx]; rfl
  have h1 : w1.cell? ⟨w.heap.size, 1, none⟩ = some (.slice Ac nc cc) := by rw [cell_of_row _ _ 1 _ _ _ hbx]; rfl
  have h2 : w1.cell? ⟨w.heap.size, 2, none⟩ = some (.bool cut) := by rw [cell_of_row _ _ 2 _ _ _ hbx]; rfl
  have HV := Lib.hid hv1
  have HM := Lib.hid hm1
  have HG := Lib.hid hgr
  have HBX := Lib.hid hbx
  cases cut with
  | true =>
    have HE : Hid (Sf.done l ⟨true, at_, m⟩ = l.take at_) := if_pos rfl
    have k1 := fun w => cut_to yK rfl A l.length cv at_ (by omega) w
    have k2 := fun w => cutAt_to yK rfl A l.length cv at_ (by omega) w
    change ∀ w, (Instr.slice 33 (.slice A l.length cv) none (some (.int .i64 (at_ : Nat))) none).run Tryz.prog w = .ok (.slice A at_ cv) w at k1
    change ∀ w, (Instr.sliceAt 33 (.slice A l.length cv) none (some (.int .i64 (at_ : Nat))) none).run Tryz.prog w = .ok (.slice A at_ cv) w at k2
    have HT : Hid ((l.take at_).length = at_) := by unfold Hid; rw [List.length_take]; omega
    have HO := Lib.hid (hv1.cutOff (k := at_) ha)
    clear hv hm hv1 hm1 hbx hbb hgr hap
    go_enter Tryz.func90, Tryz.ntmps90
    go_wp2
    go_ret
    rw [HE.out]
    refine ⟨A, cv, by rw [HT.out]; rfl, by rw [HT.out]; exact HO.out, ?_, ?_⟩
    · exact ⟨HG.out.os, HG.out.tape, HG.out.output, HG.out.size, fun k hk _ => HG.out.block k hk (by simp)⟩
    · rw [HT.out]
      intro k hk
      refine .inl ?_
      cases A <;> exact hk
  | false =>
    obtain ⟨A', w2, k1, k2, hcp, hown, hg2⟩ := copy_at (w := w1.drew) (hv1.drew_) at_ ha (hm1.drew_)
    obtain ⟨q, hq⟩ : ∃ q, Nat.min m.length (l.length - at_) = q := ⟨_, rfl⟩
    have hq1 : q ≤ m.length := by rw [← hq]; exact Nat.min_le_left _ _
    have hq2 : q ≤ l.length - at_ := by rw [← hq]; exact Nat.min_le_right _ _
    have hq3 : q = m.length ∨ q = l.length - at_ := by
      rcases Nat.le_total m.length (l.length - at_) with h | h
      · exact .inl (by rw [← hq]; exact Nat.min_eq_left h)
      · exact .inr (by rw [← hq]; exact Nat.min_eq_right h)
    rw [hq] at hcp hown
    replace hg2 : w1.grownBy w2 (Value.slice A l.length cv).ownBlock := ⟨hg2.os, hg2.tape, hg2.output, hg2.size, hg2.block⟩
    have HD : Hid ((l.take at_ ++ m.take q ++ l.drop (at_ + q)) ++ m.drop q = Sf.done l ⟨false, at_, m⟩) := by
      show _ = l.take at_ ++ m ++ l.drop (at_ + m.length)
      rcases hq3 with h | h
      · rw [h, List.drop_length, List.take_length, List.append_nil]
      · rw [List.drop_of_length_le (l := l) (i := at_ + q) (by omega), List.drop_of_length_le (l := l) (i := at_ + m.length) (by omega), List.append_nil, List.append_nil, List.append_assoc, List.take_append_drop]
    have HL : Hid ((l.take at_ ++ m.take q ++ l.drop (at_ + q)).length = l.length) := by unfold Hid; simp; omega
    obtain ⟨L2, hL2⟩ : ∃ L2, l.take at_ ++ m.take q ++ l.drop (at_ + q) = L2 := ⟨_, rfl⟩
    rw [hL2] at HD HL hown
    clear hL2
    have HLS : Hid (L2.length + (m.length - q) = (Sf.done l ⟨false, at_, m⟩).length) := by unfold Hid; rw [← HD.out, List.length_append, List.length_drop]
    have hm2 : Lv yK w2 B (.slice Ac nc cc) m := hm1.turnedB_ (Turned.of_grown hg2) fun hp k hk e => hap hp k hk e
    obtain ⟨en, hcn, hcm⟩ := hm.len_
    subst en
    obtain ⟨A2, k3, k4, hdrop, _⟩ := cut_from yK rfl Ac m.length cc q hq1 hcn
    change ∀ w, (Instr.slice 33 (.slice Ac m.length cc) (some (.int .i64 (q : Nat))) none none).run Tryz.prog w = .ok (.slice A2 (m.length - q) (cc - q)) w at k3
    change ∀ w, (Instr.sliceAt 33 (.slice Ac m.length cc) (some (.int .i64 (q : Nat))) none none).run Tryz.prog w = .ok (.slice A2 (m.length - q) (cc - q)) w at k4
    have HM2 := Lib.hid (hdrop _ _ _ hm2)
    have HO2 := Lib.hid hown
    have HG2 := Lib.hid hg2
    have b1 : w2.cell? ⟨w.heap.size, 1, none⟩ = some (.slice Ac m.length cc) := by
      have hb2 : w2.heap[w.heap.size]? = w1.heap[w.heap.size]? := hg2.block _ (by omega) (fun e => by have := (hv.lt_ w.heap.size e.symm).2; omega)
      rw [cell_of_row _ _ 1 _ _ _ (hb2.trans hbx)]; rfl
    have HML : Hid (m.length ≤ 1099511627776 ∧ l.length ≤ 1099511627776) := ⟨hml, hl⟩
    have HDL : Hid ((m.drop q).length = m.length - q) := by unfold Hid; rw [List.length_drop]
    have HBS : Hid (base ≤ w2.heap.size) := by have := hg2.size; unfold Hid; omega
    have HLT : Hid (∀ k, (Value.slice A l.length cv).ownBlock = some k → k < w.heap.size) := fun k hk => (hv.lt_ k hk).2
    have h0d : w1.drew.cell? ⟨w.heap.size, 0, none⟩ = some (.int .i64 (at_ : Nat)) := h0
    have h1d : w1.drew.cell? ⟨w.heap.size, 1, none⟩ = some (.slice Ac m.length cc) := h1
    clear hv hm hv1 hm1 hbx hbb hgr hap hm2 hdrop hown hg2 hq hq3 hcm
    go_enter Tryz.func90, Tryz.ntmps90
    go_wp2
    go_still_tail 6, (by kernel_rfl)
    change wpList _ _ _ _ _ w1.drew
    go_wp2_with (at_builtin; go_must (refine wpList_append_m _ yK rfl _ _ rfl base _ rfl _ HO2.out _ rfl B (m.drop q) HM2.out (by rw [HL.out, HDL.out]; show _ * 1 ≤ _; have := HML.out; omega) (by rw [HL.out, HDL.out]; have := HML.out; simp only [maxLen]; omega) HBS.out ?_; intro A3 c3 w3 hA hG hMv))
    rw [HD.out] at hA hMv
    go_ret
    refine ⟨A3, c3, by rw [← HLS.out]; rfl, hA, ?_, ?_⟩
    · exact ⟨hG.os.trans (HG2.out.os.trans HG.out.os), hG.tape.trans (HG2.out.tape.trans HG.out.tape), hG.output.trans (HG2.out.output.trans HG.out.output), Nat.le_trans HG.out.size (Nat.le_trans HG2.out.size hG.size), fun k hk hne => (hG.block k (Nat.lt_of_lt_of_le hk (Nat.le_trans HG.out.size HG2.out.size)) hne).trans ((HG2.out.block k (Nat.lt_of_lt_of_le hk HG.out.size) hne).trans (HG.out.block k hk (by simp)))⟩
    · intro k hk
      rcases hMv k hk with h | h
      · exact .inl h
      · have := HG2.out.size
        exact .inr (by omega)
end Go.Proofs.YtmcbjcbnckpfkaaGreat
namespace Go.Proofs.YtmcbjcbnckpfkaaGreat
open Go.RowKit
set_option linter.unusedVariables false

/-- Block g holds these cells, of this type. -/
def Rw (w : World) (g : Nat) (t : TypeId) (c : Array Value) : Prop := w.heap[g]? = some (.cells c t (0, 0))
section
variable {w w' : World} {g k : Nat} {t : TypeId} {c : Array Value} {v : Value}
theorem Rw.lt (h : Rw w g t c) : g < w.heap.size := (Array.getElem?_eq_some_iff.1 h).1
theorem Rw.cell (h : Rw w g t c) (k : Nat) : w.cell? ⟨g, k, none⟩ = c[k]? := cell_of_row w g k c t (0, 0) h
theorem Rw.frozen (h : Rw w g t c) (k : Nat) : w.frozen? ⟨g, k, none⟩ = false := by
  have h' : w.heap[g]? = some (.cells c t (0, 0)) := h
  simp [World.frozen?, h']
theorem Rw.below (h : Rw w g t c) {B : Nat} (hb : Below B w w') (hB : g < B) : Rw w' g t c := (hb.block g hB).trans h
theorem Rw.drew (h : Rw w g t c) : Rw w.drew g t c := h
theorem Rw.new (w : World) (t : TypeId) (c : Array Value) : Rw (w.alloc (.cells c t)) w.heap.size t c := heap_alloc_new w _
theorem Rw.at_ {n : Nat} (h : n = w.heap.size) (t : TypeId) (c : Array Value) : Rw (w.alloc (.cells c t)) n t c := by subst h; exact Rw.new w t c
theorem Rw.old (h : Rw w g t c) (o : Obj) : Rw (w.alloc o) g t c := by
  show (w.heap.push o)[g]? = _
  have := h.lt
  rw [Array.getElem?_push, if_neg (by omega)]
  exact h
theorem Rw.set (h : Rw w g t c) (k : Nat) (v : Value) : Rw (w.setCell ⟨g, k, none⟩ v) g t (c.setIfInBounds k v) := by
  unfold Rw
  rw [setCell_eq_setRow w g k c t (0, 0) v h]
  exact setRow_heap w g c _ t (0, 0) h
theorem Rw.setOther (h : Rw w g t c) {g' : Nat} (hg : g ≠ g') (k : Nat) (v : Value) : Rw (w.setCell ⟨g', k, none⟩ v) g t c := by
  unfold Rw World.setCell at *
  simp only [Array.getElem?_modify, Ne.symm hg, if_false]
  exact h
theorem Rw.row (h : Rw w g t c) (c' : Array Value) : Rw (w.setRow g c') g t c' := setRow_heap w g c c' t (0, 0) h
theorem Rw.rowOther (h : Rw w g t c) {g' : Nat} (hg : g ≠ g') (c' : Array Value) : Rw (w.setRow g' c') g t c := (setRow_other w g' g c' hg).trans h
end
end Go.Proofs.YtmcbjcbnckpfkaaGreat
