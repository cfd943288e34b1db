/-
  PfDo: simfs.change.do: a file's bytes behind an act, written over where they lie.
  PfBg: simfs.change.begun.
  StepM: An element put behind an own list at a step of a region that draws its order; and where the list lies then.
-/
import Derived.Test.YtmcbjcbnckpfkaaGreatPt14
import Derived.StillTailTactics
import Derived.Test.YtmcbjcbnckpfkaaGreatPt02
import Derived.Deep.RegionHeld3
import Derived.Test.YtmcbjcbnckpfkaaGreatPt01
namespace Go.Proofs.YtmcbjcbnckpfkaaGreat
open Go.RowKit
set_option linter.unusedVariables false
def cV (c : RawC) : Value := .agg #[.int .i64 (c.at_ : Nat), .slice c.sl.A c.sl.n c.sl.c, .bool c.cut]
/-- A call that answers these bytes, where they lay or in new memory. -/
def IsDone (v : Value) (base : Nat) (l : List Nat) (w : World) (e : Ending) (w' : World) : Prop :=
  ∃ A c, e = .returned (.slice A l.length c) ∧ OwnL yK w' base (.slice A l.length c) l ∧ w.grownBy w' v.ownBlock ∧ Moved w v (.slice A l.length c)
theorem OwnL.cutOff {P : Program} {α : Type} {K : El P α} {w : World} {base n c k : Nat} {A : Option Addr} {l : List α} (h : OwnL K w base (.slice A n c) l) (hk : k ≤ l.length) : OwnL K w base (.slice A k c) (l.take k) := by
  cases A with
  | none =>
    rcases h.2 with ⟨e, rfl⟩ | ⟨g, s, e, _⟩
    · injection e with _ e2 e3
      subst e2 e3
      have : k = 0 := by simpa using hk
      subst this
      exact OwnL.nil_ _ _ _
    · cases e
  | some a =>
    rcases h.2 with ⟨e, _⟩ | ⟨g, s, e, _⟩
    · cases e
    · injection e with e1 e2 e3
      injection e1 with e1
      subst e1
      exact h.take_ hk
/-- A list of one's own is in no block of another kind. -/
theorem own_ne {P : Program} {α : Type} {K : El P α} {w : World} {base b : Nat} {v : Value} {l : List α} {cs : Array Value} {T : TypeId} {fr : Nat × Nat} (h : OwnL K w base v l) (hb : w.heap[b]? = some (.cells cs T fr)) (hT : T ≠ K.e) : v.ownBlock ≠ some b := by
  intro e
  rcases h.2 with ⟨rfl, _⟩ | ⟨g, s, rfl, _, _, _, hh⟩
  · cases e
  · have eg : g = b := Option.some.inj e
    subst eg
    rw [hb] at hh
    injection hh with hh
    injection hh with _ hh _
    exact hT hh
set_option maxHeartbeats 2000000 in
set_option maxRecDepth 100000 in
theorem pcdo_any (c : RawC) (v : Value) (l : List Nat) (base B : Nat) (m : List Nat) (w : World) (hv : OwnL yK w base v l) (hm : Lv yK w B (slV c.sl) m) (hap : 0 < m.length → Apart (slV c.sl) v) (ha : c.at_ ≤ l.length) (hl : l.length ≤ 1099511627776) (hml : m.length ≤ 1099511627776) (hbase : base ≤ w.heap.size) (hB : B ≤ w.heap.size) :
    Calls Tryz.prog 90 #[cV c, v] w (IsDone v base (Sf.done l ⟨c.cut, c.at_, m⟩) w) := by
  obtain ⟨at_, ⟨Ac, nc, cc⟩, cut⟩ := c
  simp only [slV] at hm hap ha
  obtain ⟨A, cv, rfl, hc1, hc2, _, _⟩ := hv.form_
  change Calls _ _ #[.agg #[.int .i64 (at_ : Nat), .slice Ac nc cc, .bool cut], .slice A l.length cv] w _
  obtain ⟨w1, hw1⟩ : ∃ w1, w.alloc (.cells #[.int .i64 (at_ : Nat), .slice Ac nc cc, .bool cut] 113) = w1 := ⟨_, rfl⟩
  have hbx := heap_alloc_new w (.cells #[.int .i64 (at_ : Nat), .slice Ac nc cc, .bool cut] 113)
  have hbb : Below w.heap.size w (w.alloc (.cells #[.int .i64 (at_ : Nat), .slice Ac nc cc, .bool cut] 113)) := (Below.refl _ _).alloc (Nat.le_refl _) _
  have hgr : w.grownBy (w.alloc (.cells #[.int .i64 (at_ : Nat), .slice Ac nc cc, .bool cut] 113)) none := World.grownBy_alloc w _ none
  have hsz : w1.heap.size = w.heap.size + 1 := by rw [← hw1]; simp
  rw [hw1] at hbx hbb hgr
  have hv1 : OwnL yK w1 base (.slice A l.length cv) l := hv.below_ hbb (Nat.le_refl _)
  have hm1 : Lv yK w1 B (.slice Ac nc cc) m := hm.below_ hbb hB
  have h0 : w1.cell? ⟨w.heap.size, 0, none⟩ = some (.int .i64 (at_ : Nat)) := by rw [cell_of_row _ _ 0 _ _ _ hbx]; rfl
  have h1 : w1.cell? ⟨w.heap.size, 1, none⟩ = some (.slice Ac nc cc) := by rw [cell_of_row _ _ 1 _ _ _ hbx]; rfl
  have h2 : w1.cell? ⟨w.heap.size, 2, none⟩ = some (.bool cut) := by rw [cell_of_row _ _ 2 _ _ _ hbx]; rfl
  have HV := Lib.hid hv1
  have HM := Lib.hid hm1
  have HG := Lib.hid hgr
  have HBX := Lib.hid hbx
  cases cut with
  | true =>
    have HE : Hid (Sf.done l ⟨true, at_, m⟩ = l.take at_) := if_pos rfl
    have k1 := fun w => cut_to yK rfl A l.length cv at_ (by omega) w
    have k2 := fun w => cutAt_to yK rfl A l.length cv at_ (by omega) w
    change ∀ w, (Instr.slice 33 (.slice A l.length cv) none (some (.int .i64 (at_ : Nat))) none).run Tryz.prog w = .ok (.slice A at_ cv) w at k1
    change ∀ w, (Instr.sliceAt 33 (.slice A l.length cv) none (some (.int .i64 (at_ : Nat))) none).run Tryz.prog w = .ok (.slice A at_ cv) w at k2
    have HT : Hid ((l.take at_).length = at_) := by unfold Hid; rw [List.length_take]; omega
    have HO := Lib.hid (hv1.cutOff (k := at_) ha)
    clear hv hm hv1 hm1 hbx hbb hgr hap
    go_enter Tryz.func90, Tryz.ntmps90
    go_wp2
    go_ret
    rw [HE.out]
    refine ⟨A, cv, by rw [HT.out]; rfl, by rw [HT.out]; exact HO.out, ?_, ?_⟩
    · exact ⟨HG.out.os, HG.out.tape, HG.out.output, HG.out.size, fun k hk _ => HG.out.block k hk (by simp)⟩
    · rw [HT.out]
      intro k hk
      refine .inl ?_
      cases A <;> exact hk
  | false =>
    obtain ⟨A', w2, k1, k2, hcp, hown, hg2⟩ := copy_at (w := w1.drew) (hv1.drew_) at_ ha (hm1.drew_)
    obtain ⟨q, hq⟩ : ∃ q, Nat.min m.length (l.length - at_) = q := ⟨_, rfl⟩
    have hq1 : q ≤ m.length := by rw [← hq]; exact Nat.min_le_left _ _
    have hq2 : q ≤ l.length - at_ := by rw [← hq]; exact Nat.min_le_right _ _
    have hq3 : q = m.length ∨ q = l.length - at_ := by
      rcases Nat.le_total m.length (l.length - at_) with h | h
      · exact .inl (by rw [← hq]; exact Nat.min_eq_left h)
      · exact .inr (by rw [← hq]; exact Nat.min_eq_right h)
    rw [hq] at hcp hown
    replace hg2 : w1.grownBy w2 (Value.slice A l.length cv).ownBlock := ⟨hg2.os, hg2.tape, hg2.output, hg2.size, hg2.block⟩
    have HD : Hid ((l.take at_ ++ m.take q ++ l.drop (at_ + q)) ++ m.drop q = Sf.done l ⟨false, at_, m⟩) := by
      show _ = l.take at_ ++ m ++ l.drop (at_ + m.length)
      rcases hq3 with h | h
      · rw [h, List.drop_length, List.take_length, List.append_nil]
      · rw [List.drop_of_length_le (l := l) (i := at_ + q) (by omega), List.drop_of_length_le (l := l) (i := at_ + m.length) (by omega), List.append_nil, List.append_nil, List.append_assoc, List.take_append_drop]
    have HL : Hid ((l.take at_ ++ m.take q ++ l.drop (at_ + q)).length = l.length) := by unfold Hid; simp; omega
    obtain ⟨L2, hL2⟩ : ∃ L2, l.take at_ ++ m.take q ++ l.drop (at_ + q) = L2 := ⟨_, rfl⟩
    rw [hL2] at HD HL hown
    clear hL2
    have HLS : Hid (L2.length + (m.length - q) = (Sf.done l ⟨false, at_, m⟩).length) := by unfold Hid; rw [← HD.out, List.length_append, List.length_drop]
    have hm2 : Lv yK w2 B (.slice Ac nc cc) m := hm1.turnedB_ (Turned.of_grown hg2) fun hp k hk e => hap hp k hk e
    obtain ⟨en, hcn, hcm⟩ := hm.len_
    subst en
    obtain ⟨A2, k3, k4, hdrop, _⟩ := cut_from yK rfl Ac m.length cc q hq1 hcn
    change ∀ w, (Instr.slice 33 (.slice Ac m.length cc) (some (.int .i64 (q : Nat))) none none).run Tryz.prog w = .ok (.slice A2 (m.length - q) (cc - q)) w at k3
    change ∀ w, (Instr.sliceAt 33 (.slice Ac m.length cc) (some (.int .i64 (q : Nat))) none none).run Tryz.prog w = .ok (.slice A2 (m.length - q) (cc - q)) w at k4
    have HM2 := Lib.hid (hdrop _ _ _ hm2)
    have HO2 := Lib.hid hown
    have HG2 := Lib.hid hg2
    have b1 : w2.cell? ⟨w.heap.size, 1, none⟩ = some (.slice Ac m.length cc) := by
      have hb2 : w2.heap[w.heap.size]? = w1.heap[w.heap.size]? := hg2.block _ (by omega) (fun e => by have := (hv.lt_ w.heap.size e.symm).2; omega)
      rw [cell_of_row _ _ 1 _ _ _ (hb2.trans hbx)]; rfl
    have HML : Hid (m.length ≤ 1099511627776 ∧ l.length ≤ 1099511627776) := ⟨hml, hl⟩
    have HDL : Hid ((m.drop q).length = m.length - q) := by unfold Hid; rw [List.length_drop]
    have HBS : Hid (base ≤ w2.heap.size) := by have := hg2.size; unfold Hid; omega
    have HLT : Hid (∀ k, (Value.slice A l.length cv).ownBlock = some k → k < w.heap.size) := fun k hk => (hv.lt_ k hk).2
    have h0d : w1.drew.cell? ⟨w.heap.size, 0, none⟩ = some (.int .i64 (at_ : Nat)) := h0
    have h1d : w1.drew.cell? ⟨w.heap.size, 1, none⟩ = some (.slice Ac m.length cc) := h1
    clear hv hm hv1 hm1 hbx hbb hgr hap hm2 hdrop hown hg2 hq hq3 hcm
    go_enter Tryz.func90, Tryz.ntmps90
    go_wp2
    go_still_tail 6, (by kernel_rfl)
    change wpList _ _ _ _ _ w1.drew
    go_wp2_with (at_builtin; go_must (refine wpList_append_m _ yK rfl _ _ rfl base _ rfl _ HO2.out _ rfl B (m.drop q) HM2.out (by rw [HL.out, HDL.out]; show _ * 1 ≤ _; have := HML.out; omega) (by rw [HL.out, HDL.out]; have := HML.out; simp only [maxLen]; omega) HBS.out ?_; intro A3 c3 w3 hA hG hMv))
    rw [HD.out] at hA hMv
    go_ret
    refine ⟨A3, c3, by rw [← HLS.out]; rfl, hA, ?_, ?_⟩
    · exact ⟨hG.os.trans (HG2.out.os.trans HG.out.os), hG.tape.trans (HG2.out.tape.trans HG.out.tape), hG.output.trans (HG2.out.output.trans HG.out.output), Nat.le_trans HG.out.size (Nat.le_trans HG2.out.size hG.size), fun k hk hne => (hG.block k (Nat.lt_of_lt_of_le hk (Nat.le_trans HG.out.size HG2.out.size)) hne).trans ((HG2.out.block k (Nat.lt_of_lt_of_le hk HG.out.size) hne).trans (HG.out.block k hk (by simp)))⟩
    · intro k hk
      rcases hMv k hk with h | h
      · exact .inl h
      · have := HG2.out.size
        exact .inr (by omega)
end Go.Proofs.YtmcbjcbnckpfkaaGreat
namespace Go.Proofs.YtmcbjcbnckpfkaaGreat
open Go.RowKit
set_option linter.unusedVariables false
namespace Sf
/-- Where the bytes that are written end. -/
def upTo (a n lb : Nat) : Nat := if a + n < lb then (a + n) / 512 * 512 else a + n
theorem upTo_le (a n lb : Nat) : upTo a n lb ≤ a + n := by
  unfold upTo
  split
  · omega
  · exact Nat.le_refl _
theorem torn_done (b : List Nat) (a : Act) (n : Nat) : torn b a n = done b ⟨false, a.at_, a.b.take (upTo a.at_ n b.length - a.at_)⟩ := by
  unfold torn
  simp only
  change (if upTo a.at_ n b.length ≤ a.at_ then b else _) = _
  by_cases h : upTo a.at_ n b.length ≤ a.at_
  · rw [if_pos h, Nat.sub_eq_zero_of_le h, List.take_zero]
    simp [done]
  · rw [if_neg h]
    rfl
end Sf
set_option maxHeartbeats 4000000 in
set_option maxRecDepth 100000 in
theorem pbegun_any (c : RawC) (A0 : Option Addr) (lb cb t : Nat) (B : Nat) (m : List Nat) (w : World) (hm : Lv yK w B (slV c.sl) m) (hB : B ≤ w.heap.size) (hc : c.at_ ≤ 1048576) (ht : t ≤ m.length) (hml : m.length ≤ 1048576) (hlb : lb ≤ 1048576) :
    Calls Tryz.prog 91 #[cV c, .slice A0 lb cb, .int .i64 (t : Nat)] w (fun e w' => e = .returned (cV ⟨c.at_, ⟨c.sl.A, Sf.upTo c.at_ t lb - c.at_, c.sl.c⟩, false⟩) ∧ Below w.heap.size w w') := by
  obtain ⟨at_, ⟨Ac, nc, cc⟩, cut⟩ := c
  simp only [slV] at hm hc ⊢
  obtain ⟨rfl, hmc, _⟩ := hm.len_
  change Calls _ _ #[.agg #[.int .i64 (at_ : Nat), .slice Ac m.length cc, .bool cut], _, _] w (fun e w' => e = .returned (.agg #[.int .i64 (at_ : Nat), .slice Ac (Sf.upTo at_ t lb - at_) cc, .bool false]) ∧ _)
  obtain ⟨W, hW⟩ : ∃ W, (w.alloc (.cells #[.int .i64 (at_ : Nat), .slice Ac m.length cc, .bool cut] 113)).alloc (.cells #[.int .i64 0, .slice none 0 0, .bool false] 113) = W := ⟨_, rfl⟩
  obtain ⟨p, hp⟩ : ∃ p, w.heap.size = p := ⟨_, rfl⟩
  have hW0 : W.heap[p]? = some (.cells #[.int .i64 (at_ : Nat), .slice Ac m.length cc, .bool cut] 113 (0, 0)) := by
    rw [← hW, ← hp, heap_alloc_old _ _ (by simp)]; exact heap_alloc_new _ _
  have hW1 : W.heap[p + 1]? = some (.cells #[.int .i64 0, .slice none 0 0, .bool false] 113 (0, 0)) := by
    rw [← hW, ← hp]
    have := heap_alloc_new (w.alloc (.cells #[.int .i64 (at_ : Nat), .slice Ac m.length cc, .bool cut] 113)) (.cells #[.int .i64 0, .slice none 0 0, .bool false] 113)
    simpa using this
  have hb : Below p w W := by rw [← hW, ← hp]; exact ((Below.refl _ _).alloc (Nat.le_refl _) _).alloc (by simp) _
  have hWs : W.heap.size = p + 2 := by rw [← hW, ← hp]; simp
  have HY : Hid (∀ w', Turned (fun k => k = p + 1) W w' → w'.cell? ⟨p, 0, none⟩ = some (.int .i64 (at_ : Nat)) ∧ w'.cell? ⟨p, 1, none⟩ = some (.slice Ac m.length cc)) := fun w' ht => by
    have hh := (ht.block p (by omega) (by omega)).trans hW0
    exact ⟨by rw [cell_of_row _ _ 0 _ _ _ hh]; rfl, by rw [cell_of_row _ _ 1 _ _ _ hh]; rfl⟩
  have c0 : W.cell? ⟨p, 0, none⟩ = some (.int .i64 (at_ : Nat)) := by rw [cell_of_row _ _ 0 _ _ _ hW0]; rfl
  have hue := Sf.upTo_le at_ t lb
  have hadd : IntKind.i64.wrap ((at_ : Int) + (t : Int)) = ((at_ + t : Nat) : Int) := by rw [IntKind.wrap_i64]; omega
  obtain ⟨E, hE⟩ : ∃ E, Sf.upTo at_ t lb = E := ⟨_, rfl⟩
  rw [hE] at hue ⊢
  have HWS := Lib.hid hWs
  have HBW := Lib.hid hb
  have HZ : Hid (Rw W (p + 1) 113 #[.int .i64 0, .slice none 0 0, .bool false]) := hW1
  have HRR : Hid (Rw W p 113 #[.int .i64 (at_ : Nat), .slice Ac m.length cc, .bool cut]) := hW0
  have hsub : IntKind.i64.wrap ((E : Int) - (at_ : Int)) = (E : Int) - (at_ : Int) := by rw [IntKind.wrap_i64]; omega
  obtain ⟨K0, hK0⟩ : ∃ K, E - at_ = K := ⟨_, rfl⟩
  have hmax : (if (E : Int) - (at_ : Int) < 0 then 0 else (E : Int) - (at_ : Int)) = (K0 : Int) := by split <;> omega
  have k1 : ∀ w, (Instr.slice 33 (.slice Ac m.length cc) none (some (.int .i64 (K0 : Nat))) none).run Tryz.prog w = .ok (.slice Ac K0 cc) w := fun w => cut_to yK rfl Ac m.length cc K0 (by omega) w
  have k2 : ∀ w, (Instr.sliceAt 33 (.slice Ac m.length cc) none (some (.int .i64 (K0 : Nat))) none).run Tryz.prog w = .ok (.slice Ac K0 cc) w := fun w => cutAt_to yK rfl Ac m.length cc K0 (by omega) w
  rw [hK0]
  obtain ⟨s, hs⟩ : ∃ s, at_ + t = s := ⟨_, rfl⟩
  rw [hs] at hadd hue
  unfold Sf.upTo at hE
  rw [hs] at hE
  clear hm hW0 hW1 hb hWs hK0
  by_cases hlt : s < lb
  · rw [if_pos hlt] at hE
    have hlt' : (s : Int) < (lb : Int) := by omega
    have hEi : (s : Int) - (s : Int) % 512 = (E : Int) := by omega
    go_enter Tryz.func91, Tryz.ntmps91
    go_wp2
    refine wp_region_held_drew (S := fun w' => Turned (fun k => k = p + 1) W w') (by kernel_rfl) ((Turned.refl _ W).drew) (fun hH => ?_)
    refine wpAnyH_take (i := 0) (v := ?_) rfl (by kernel_rfl) (by kernel_rfl) (by kernel_rfl) (fun _ _ _ h => h) (Or.inl ⟨by rfl, (by intro w' hSw; go_simp; first | done | with_reducible rfl)⟩) hH ?_
    try simp only [Act.put, List.getElem_toArray, List.getElem_cons_zero, List.setIfInBounds_toArray, List.set_cons_zero, List.set_cons_succ]
    refine wpAnyH_take (i := 1) (v := ?_) rfl (by kernel_rfl) (by kernel_rfl) (by kernel_rfl) (fun _ _ _ h => h) (Or.inl ⟨by rfl, (by intro w' hSw; obtain ⟨s0, s1⟩ := HY.out w' hSw; go_simp; first | done | with_reducible rfl)⟩) hH ?_
    try simp only [Act.put, List.getElem_toArray, List.getElem_cons_succ, List.getElem_cons_zero, List.setIfInBounds_toArray, List.set_cons_zero, List.set_cons_succ]
    refine wpAnyH_take (i := 2) (v := ?_) rfl (by kernel_rfl) (by kernel_rfl) (by kernel_rfl) (fun _ _ _ h => h) (Or.inl ⟨by rfl, (by intro w' hSw; go_simp; first | done | with_reducible rfl)⟩) hH ?_
    try simp only [Act.put, List.getElem_toArray, List.getElem_cons_succ, List.getElem_cons_zero, List.setIfInBounds_toArray, List.set_cons_zero, List.set_cons_succ]
    refine wpAnyH_take (i := 3) (v := ?_) rfl (by kernel_rfl) (by kernel_rfl) (by kernel_rfl) (fun _ _ _ h => h) (Or.inl ⟨by rfl, (by intro w' hSw; obtain ⟨s0, s1⟩ := HY.out w' hSw; go_simp; first | done | with_reducible rfl)⟩) hH ?_
    try simp only [Act.put, List.getElem_toArray, List.getElem_cons_succ, List.getElem_cons_zero, List.setIfInBounds_toArray, List.set_cons_zero, List.set_cons_succ]
    refine wpAnyH_take (i := 4) (v := ?_) rfl (by kernel_rfl) (by kernel_rfl) (by kernel_rfl) (fun _ _ _ h => h) (Or.inl ⟨by rfl, (by intro w' hSw; go_simp; first | done | with_reducible rfl)⟩) hH ?_
    try simp only [Act.put, List.getElem_toArray, List.getElem_cons_succ, List.getElem_cons_zero, List.setIfInBounds_toArray, List.set_cons_zero, List.set_cons_succ]
    refine wpAnyH_take (i := 5) (v := ?_) rfl (by kernel_rfl) (by kernel_rfl) (by kernel_rfl) (fun _ _ _ h => h) (Or.inl ⟨by rfl, (by intro w' hSw; go_simp; first | done | with_reducible rfl)⟩) hH ?_
    try simp only [Act.put, List.getElem_toArray, List.getElem_cons_succ, List.getElem_cons_zero, List.setIfInBounds_toArray, List.set_cons_zero, List.set_cons_succ]
    refine wpAnyH_take (i := 6) (v := ?_) rfl (by kernel_rfl) (by kernel_rfl) (by kernel_rfl) (fun _ _ _ h => h) (Or.inl ⟨by rfl, (by intro w' hSw; obtain ⟨s0, s1⟩ := HY.out w' hSw; go_simp; first | done | with_reducible rfl)⟩) hH ?_
    try simp only [Act.put, List.getElem_toArray, List.getElem_cons_succ, List.getElem_cons_zero, List.setIfInBounds_toArray, List.set_cons_zero, List.set_cons_succ]
    refine wpAnyH_take (i := 7) (v := ?_) rfl (by kernel_rfl) (by kernel_rfl) (by kernel_rfl) (fun _ _ _ h => h) (Or.inl ⟨by rfl, (by intro w' hSw; go_simp; first | done | with_reducible rfl)⟩) hH ?_
    try simp only [Act.put, List.getElem_toArray, List.getElem_cons_succ, List.getElem_cons_zero, List.setIfInBounds_toArray, List.set_cons_zero, List.set_cons_succ]
    refine wpAnyH_take (i := 8) (v := ?_) rfl (by kernel_rfl) (by kernel_rfl) (by kernel_rfl) (fun _ _ _ h => h) (Or.inl ⟨by rfl, (by intro w' hSw; go_simp; first | done | with_reducible rfl)⟩) hH ?_
    try simp only [Act.put, List.getElem_toArray, List.getElem_cons_succ, List.getElem_cons_zero, List.setIfInBounds_toArray, List.set_cons_zero, List.set_cons_succ]
    refine wpAnyH_take (i := 9) (v := ?_) rfl (by kernel_rfl) (by kernel_rfl) (by kernel_rfl) (fun _ _ _ h => h) (Or.inl ⟨by rfl, (by intro w' hSw; go_simp; first | done | with_reducible rfl)⟩) hH ?_
    try simp only [Act.put, List.getElem_toArray, List.getElem_cons_succ, List.getElem_cons_zero, List.setIfInBounds_toArray, List.set_cons_zero, List.set_cons_succ]
    refine wpAnyH_take (i := 10) (v := ?_) rfl (by kernel_rfl) (by kernel_rfl) (by kernel_rfl) (fun _ _ _ h => h) (Or.inl ⟨by rfl, (by intro w' hSw; go_simp; first | done | with_reducible rfl)⟩) hH ?_
    try simp only [Act.put, List.getElem_toArray, List.getElem_cons_succ, List.getElem_cons_zero, List.setIfInBounds_toArray, List.set_cons_zero, List.set_cons_succ]
    refine wpAnyH_ready (rs := [11]) (by kernel_rfl) (by simp) ?_
    refine AllReadyH.cons rfl (fun K hK => ?_) AllReadyH.nil
    rw [if_pos (by rfl)]
    have HZ3 : Hid (Rw W.drew (p + 1) 113 #[.int .i64 0, .slice none 0 0, .bool false]) := HZ.out
    refine wp_store_row 113 (.tmp 6) (.tmp 30) rfl (p + 1) #[.int .i64 (at_ : Nat), .slice Ac K0 cc, .bool false] rfl rfl 113 _ HZ3.out (by kernel_rfl) rfl (by simp [Value.oneCell']) ?_
    have HT4 : Hid (Turned (fun k => k = p + 1) W (W.drew.setRow (p + 1) #[.int .i64 (at_ : Nat), .slice Ac K0 cc, .bool false])) := ((Turned.refl (fun k => k = p + 1) W).drew).setRow (fun _ => rfl) _
    have HRZ := Lib.hid (HZ3.out.row #[.int .i64 (at_ : Nat), .slice Ac K0 cc, .bool false])
    refine hK.out _ _ HT4.out (fun hH => ?_)
    clear hK K
    refine wpAnyH_done (by kernel_rfl) ?_ _
    clear hH
    go_wp2
    try simp only [Act.put, List.getElem_toArray, List.getElem_cons_succ, List.getElem_cons_zero]
    refine bodyPost_ret (v := .agg #[.int .i64 (at_ : Nat), .slice Ac K0 cc, .bool false]) (results_cell_row rfl _ _ (p + 1) 113 #[.int .i64 (at_ : Nat), .slice Ac K0 cc, .bool false] (0, 0) _ rfl HRZ.out Tryz.underlying113 rfl (by kernel_rfl)) rfl ⟨rfl, ?_⟩
    have t1 := (Turned.of_below HBW.out).trans HT4.out (fun k _ (h : k = p + 1) => (by omega : p ≤ k))
    rw [hp]
    exact t1.below (by omega) (fun k h => h)
  · rw [if_neg hlt] at hE
    subst hE
    have hlt' : ¬ (s : Int) < (lb : Int) := by omega
    go_enter Tryz.func91, Tryz.ntmps91
    go_wp2
    refine wp_region_held_drew (S := fun w' => Turned (fun k => k = p + 1) W w') (by kernel_rfl) ((Turned.refl _ W).drew) (fun hH => ?_)
    refine wpAnyH_take (i := 0) (v := ?_) rfl (by kernel_rfl) (by kernel_rfl) (by kernel_rfl) (fun _ _ _ h => h) (Or.inl ⟨by rfl, (by intro w' hSw; go_simp; first | done | with_reducible rfl)⟩) hH ?_
    try simp only [Act.put, List.getElem_toArray, List.getElem_cons_zero, List.setIfInBounds_toArray, List.set_cons_zero, List.set_cons_succ]
    refine wpAnyH_take (i := 1) (v := ?_) rfl (by kernel_rfl) (by kernel_rfl) (by kernel_rfl) (fun _ _ _ h => h) (Or.inl ⟨by rfl, (by intro w' hSw; obtain ⟨s0, s1⟩ := HY.out w' hSw; go_simp; first | done | with_reducible rfl)⟩) hH ?_
    try simp only [Act.put, List.getElem_toArray, List.getElem_cons_succ, List.getElem_cons_zero, List.setIfInBounds_toArray, List.set_cons_zero, List.set_cons_succ]
    refine wpAnyH_take (i := 2) (v := ?_) rfl (by kernel_rfl) (by kernel_rfl) (by kernel_rfl) (fun _ _ _ h => h) (Or.inl ⟨by rfl, (by intro w' hSw; go_simp; first | done | with_reducible rfl)⟩) hH ?_
    try simp only [Act.put, List.getElem_toArray, List.getElem_cons_succ, List.getElem_cons_zero, List.setIfInBounds_toArray, List.set_cons_zero, List.set_cons_succ]
    refine wpAnyH_take (i := 3) (v := ?_) rfl (by kernel_rfl) (by kernel_rfl) (by kernel_rfl) (fun _ _ _ h => h) (Or.inl ⟨by rfl, (by intro w' hSw; obtain ⟨s0, s1⟩ := HY.out w' hSw; go_simp; first | done | with_reducible rfl)⟩) hH ?_
    try simp only [Act.put, List.getElem_toArray, List.getElem_cons_succ, List.getElem_cons_zero, List.setIfInBounds_toArray, List.set_cons_zero, List.set_cons_succ]
    refine wpAnyH_take (i := 4) (v := ?_) rfl (by kernel_rfl) (by kernel_rfl) (by kernel_rfl) (fun _ _ _ h => h) (Or.inl ⟨by rfl, (by intro w' hSw; go_simp; first | done | with_reducible rfl)⟩) hH ?_
    try simp only [Act.put, List.getElem_toArray, List.getElem_cons_succ, List.getElem_cons_zero, List.setIfInBounds_toArray, List.set_cons_zero, List.set_cons_succ]
    refine wpAnyH_take (i := 5) (v := ?_) rfl (by kernel_rfl) (by kernel_rfl) (by kernel_rfl) (fun _ _ _ h => h) (Or.inl ⟨by rfl, (by intro w' hSw; go_simp; first | done | with_reducible rfl)⟩) hH ?_
    try simp only [Act.put, List.getElem_toArray, List.getElem_cons_succ, List.getElem_cons_zero, List.setIfInBounds_toArray, List.set_cons_zero, List.set_cons_succ]
    refine wpAnyH_take (i := 6) (v := ?_) rfl (by kernel_rfl) (by kernel_rfl) (by kernel_rfl) (fun _ _ _ h => h) (Or.inl ⟨by rfl, (by intro w' hSw; obtain ⟨s0, s1⟩ := HY.out w' hSw; go_simp; first | done | with_reducible rfl)⟩) hH ?_
    try simp only [Act.put, List.getElem_toArray, List.getElem_cons_succ, List.getElem_cons_zero, List.setIfInBounds_toArray, List.set_cons_zero, List.set_cons_succ]
    refine wpAnyH_take (i := 7) (v := ?_) rfl (by kernel_rfl) (by kernel_rfl) (by kernel_rfl) (fun _ _ _ h => h) (Or.inl ⟨by rfl, (by intro w' hSw; go_simp; first | done | with_reducible rfl)⟩) hH ?_
    try simp only [Act.put, List.getElem_toArray, List.getElem_cons_succ, List.getElem_cons_zero, List.setIfInBounds_toArray, List.set_cons_zero, List.set_cons_succ]
    refine wpAnyH_take (i := 8) (v := ?_) rfl (by kernel_rfl) (by kernel_rfl) (by kernel_rfl) (fun _ _ _ h => h) (Or.inl ⟨by rfl, (by intro w' hSw; go_simp; first | done | with_reducible rfl)⟩) hH ?_
    try simp only [Act.put, List.getElem_toArray, List.getElem_cons_succ, List.getElem_cons_zero, List.setIfInBounds_toArray, List.set_cons_zero, List.set_cons_succ]
    refine wpAnyH_take (i := 9) (v := ?_) rfl (by kernel_rfl) (by kernel_rfl) (by kernel_rfl) (fun _ _ _ h => h) (Or.inl ⟨by rfl, (by intro w' hSw; go_simp; first | done | with_reducible rfl)⟩) hH ?_
    try simp only [Act.put, List.getElem_toArray, List.getElem_cons_succ, List.getElem_cons_zero, List.setIfInBounds_toArray, List.set_cons_zero, List.set_cons_succ]
    refine wpAnyH_take (i := 10) (v := ?_) rfl (by kernel_rfl) (by kernel_rfl) (by kernel_rfl) (fun _ _ _ h => h) (Or.inl ⟨by rfl, (by intro w' hSw; go_simp; first | done | with_reducible rfl)⟩) hH ?_
    try simp only [Act.put, List.getElem_toArray, List.getElem_cons_succ, List.getElem_cons_zero, List.setIfInBounds_toArray, List.set_cons_zero, List.set_cons_succ]
    refine wpAnyH_ready (rs := [11]) (by kernel_rfl) (by simp) ?_
    refine AllReadyH.cons rfl (fun K hK => ?_) AllReadyH.nil
    rw [if_pos (by rfl)]
    have HZ3 : Hid (Rw W.drew (p + 1) 113 #[.int .i64 0, .slice none 0 0, .bool false]) := HZ.out
    refine wp_store_row 113 (.tmp 6) (.tmp 30) rfl (p + 1) #[.int .i64 (at_ : Nat), .slice Ac K0 cc, .bool false] rfl rfl 113 _ HZ3.out (by kernel_rfl) rfl (by simp [Value.oneCell']) ?_
    have HT4 : Hid (Turned (fun k => k = p + 1) W (W.drew.setRow (p + 1) #[.int .i64 (at_ : Nat), .slice Ac K0 cc, .bool false])) := ((Turned.refl (fun k => k = p + 1) W).drew).setRow (fun _ => rfl) _
    have HRZ := Lib.hid (HZ3.out.row #[.int .i64 (at_ : Nat), .slice Ac K0 cc, .bool false])
    refine hK.out _ _ HT4.out (fun hH => ?_)
    clear hK K
    refine wpAnyH_done (by kernel_rfl) ?_ _
    clear hH
    go_wp2
    try simp only [Act.put, List.getElem_toArray, List.getElem_cons_succ, List.getElem_cons_zero]
    refine bodyPost_ret (v := .agg #[.int .i64 (at_ : Nat), .slice Ac K0 cc, .bool false]) (results_cell_row rfl _ _ (p + 1) 113 #[.int .i64 (at_ : Nat), .slice Ac K0 cc, .bool false] (0, 0) _ rfl HRZ.out Tryz.underlying113 rfl (by kernel_rfl)) rfl ⟨rfl, ?_⟩
    have t1 := (Turned.of_below HBW.out).trans HT4.out (fun k _ (h : k = p + 1) => (by omega : p ≤ k))
    rw [hp]
    exact t1.below (by omega) (fun k h => h)
end Go.Proofs.YtmcbjcbnckpfkaaGreat
namespace Go.Proofs.YtmcbjcbnckpfkaaGreat
open Go.RowKit
set_option linter.unusedVariables false

section
variable {P : Program} {α : Type}
theorem step_append_m (w : World) {ops : Array Oper} {o : Oper} {a : Act} {K' : Act → World → Prop} {Q : Exit → Act → World → Prop} {E : Prop} (K : El P α) (hgd : o.guard = none) (s t : Operand)
    (ho : o.op = .call { callee := .builtin .append, args := #[s, t], argTypes := #[K.s, K.s] })
    (base : Nat) (v : Value) (hs : a.eval s = v) (l : List α) (hown : OwnL K w base v l) (x : Value) (hx0 : a.eval t = x) (B : Nat) (m : List α) (hx : Lv K w B x m) (hsz : (l.length + m.length) * K.bytes ≤ 140737488355328) (h63 : l.length + m.length ≤ maxLen) (hbase : base ≤ w.heap.size)
    (h : ∀ A c w', OwnL K w' base (.slice A (l ++ m).length c) (l ++ m) → w.grownBy w' v.ownBlock → Moved w v (.slice A (l ++ m).length c) → K' (a.put o.dst (.slice A (l ++ m).length c)) w') :
    if Region.wanted o (yielded ops a.tmps) = true then Oper.wp P o a w K' Q else E := by
  have hw : Region.wanted o (yielded ops a.tmps) = true := by simp [Region.wanted, hgd]
  rw [if_pos hw]
  obtain ⟨v', w', hr, hA, hG, hM⟩ := run_append_m w base v l hown o.type x B m hx hsz h63 hbase
  obtain ⟨A, c, rfl, _⟩ := hA.form_
  unfold Oper.wp execOp
  simp only [ho, resolve, invoke, builtin, Sem.run_bind, Sem.run_pure, Result.andThen_ok, List.map_toArray, List.map_cons, List.map_nil, hs, hx0, hr]
  exact h A c w' hA hG hM
theorem step_push_m (w : World) {ops : Array Oper} {o : Oper} {a : Act} {K' : Act → World → Prop} {Q : Exit → Act → World → Prop} {E : Prop} (K : El P α) (hgd : o.guard = none) (s t : Operand)
    (ho : o.op = .call { callee := .builtin .append, args := #[s, t], argTypes := #[K.s, K.s] })
    (base : Nat) (v : Value) (hs : a.eval s = v) (l : List α) (hown : OwnL K w base v l) (ht : a.eval t = .slice (some ⟨w.heap.size, 0, none⟩) 1 1) (x : α) (hx : K.ok x) (cs : Array Value) (hcs : cs = (K.enc x).toArray) (e : TypeId) (he : e = K.e) (hsz : (l.length + 1) * K.bytes ≤ 140737488355328) (h63 : l.length + 1 ≤ maxLen) (hbase : base ≤ w.heap.size)
    (h : ∀ A c w', OwnL K w' base (.slice A (l.length + 1) c) (l ++ [x]) → w.grownBy w' v.ownBlock → Moved w v (.slice A (l.length + 1) c) → K' (a.put o.dst (.slice A (l.length + 1) c)) w') :
    if Region.wanted o (yielded ops a.tmps) = true then Oper.wp P o a (w.alloc (.cells cs e)) K' Q else E := by
  subst hcs he
  refine step_append_m _ K hgd s t ho base v hs l (hown.alloc_ _) _ ht _ [x] (Lv.lit_ w hx) (by simpa using hsz) (by simpa using h63) (by simp; omega) fun A c w' h1 h2 h3 => ?_
  rw [List.length_append, List.length_singleton] at h1 h3 ⊢
  exact h A c w' h1 (grown_alloc h2) (fun k hk => (h3 k hk).imp id (fun h => by simp at h; omega))
end
end Go.Proofs.YtmcbjcbnckpfkaaGreat
