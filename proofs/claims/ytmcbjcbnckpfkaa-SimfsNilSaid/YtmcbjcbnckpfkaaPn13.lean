/-
  Row: A block that holds an array, whole: what reads and stores make of it.
  PfBg: simfs.change.begun.
  StepM: An element put behind an own list at a step of a region that draws its order; and where the list lies then.
-/
import Derived.Test.YtmcbjcbnckpfkaaProg
import Derived.WalkKit
import Derived.Below
import Derived.Laws.CopyOwn
import Derived.Lib.Hide
import Derived.Test.YtmcbjcbnckpfkaaPn12
import Derived.Deep.RegionHeld3
import Derived.Test.YtmcbjcbnckpfkaaPn01
namespace Go.Proofs.Ytmcbjcbnckpfkaa
open Go.RowKit
set_option linter.unusedVariables false

/-- Block g holds these cells, of this type. -/
def Rw (w : World) (g : Nat) (t : TypeId) (c : Array Value) : Prop := w.heap[g]? = some (.cells c t (0, 0))
section
variable {w w' : World} {g k : Nat} {t : TypeId} {c : Array Value} {v : Value}
theorem Rw.lt (h : Rw w g t c) : g < w.heap.size := (Array.getElem?_eq_some_iff.1 h).1
theorem Rw.cell (h : Rw w g t c) (k : Nat) : w.cell? ⟨g, k, none⟩ = c[k]? := cell_of_row w g k c t (0, 0) h
theorem Rw.frozen (h : Rw w g t c) (k : Nat) : w.frozen? ⟨g, k, none⟩ = false := by
  have h' : w.heap[g]? = some (.cells c t (0, 0)) := h
  simp [World.frozen?, h']
theorem Rw.below (h : Rw w g t c) {B : Nat} (hb : Below B w w') (hB : g < B) : Rw w' g t c := (hb.block g hB).trans h
theorem Rw.drew (h : Rw w g t c) : Rw w.drew g t c := h
theorem Rw.new (w : World) (t : TypeId) (c : Array Value) : Rw (w.alloc (.cells c t)) w.heap.size t c := heap_alloc_new w _
theorem Rw.at_ {n : Nat} (h : n = w.heap.size) (t : TypeId) (c : Array Value) : Rw (w.alloc (.cells c t)) n t c := by subst h; exact Rw.new w t c
theorem Rw.old (h : Rw w g t c) (o : Obj) : Rw (w.alloc o) g t c := by
  show (w.heap.push o)[g]? = _
  have := h.lt
  rw [Array.getElem?_push, if_neg (by omega)]
  exact h
theorem Rw.set (h : Rw w g t c) (k : Nat) (v : Value) : Rw (w.setCell ⟨g, k, none⟩ v) g t (c.setIfInBounds k v) := by
  unfold Rw
  rw [setCell_eq_setRow w g k c t (0, 0) v h]
  exact setRow_heap w g c _ t (0, 0) h
theorem Rw.setOther (h : Rw w g t c) {g' : Nat} (hg : g ≠ g') (k : Nat) (v : Value) : Rw (w.setCell ⟨g', k, none⟩ v) g t c := by
  unfold Rw World.setCell at *
  simp only [Array.getElem?_modify, Ne.symm hg, if_false]
  exact h
theorem Rw.row (h : Rw w g t c) (c' : Array Value) : Rw (w.setRow g c') g t c' := setRow_heap w g c c' t (0, 0) h
theorem Rw.rowOther (h : Rw w g t c) {g' : Nat} (hg : g ≠ g') (c' : Array Value) : Rw (w.setRow g' c') g t c := (setRow_other w g' g c' hg).trans h
end
end Go.Proofs.Ytmcbjcbnckpfkaa
namespace Go.Proofs.Ytmcbjcbnckpfkaa
open Go.RowKit
set_option linter.unusedVariables false
namespace Sf
/-- Where the bytes that are written end. -/
def upTo (a n lb : Nat) : Nat := if a + n < lb then (a + n) / 512 * 512 else a + n
theorem upTo_le (a n lb : Nat) : upTo a n lb ≤ a + n := by
  unfold upTo
  split
  · omega
  · exact Nat.le_refl _
theorem torn_done (b : List Nat) (a : Act) (n : Nat) : torn b a n = done b ⟨false, a.at_, a.b.take (upTo a.at_ n b.length - a.at_)⟩ := by
  unfold torn
  simp only
  change (if upTo a.at_ n b.length ≤ a.at_ then b else _) = _
  by_cases h : upTo a.at_ n b.length ≤ a.at_
  · rw [if_pos h, Nat.sub_eq_zero_of_le h, List.take_zero]
    simp [done]
  · rw [if_neg h]
    rfl
end Sf
set_option maxHeartbeats 4000000 in
set_option maxRecDepth 100000 in
theorem pbegun_any (c : RawC) (A0 : Option Addr) (lb cb t : Nat) (B : Nat) (m : List Nat) (w : World) (hm : Lv yK w B (slV c.sl) m) (hB : B ≤ w.heap.size) (hc : c.at_ ≤ 1048576) (ht : t ≤ m.length) (hml : m.length ≤ 1048576) (hlb : lb ≤ 1048576) :
    Calls Try.prog 66 #[cV c, .slice A0 lb cb, .int .i64 (t : Nat)] w (fun e w' => e = .returned (cV ⟨c.at_, ⟨c.sl.A, Sf.upTo c.at_ t lb - c.at_, c.sl.c⟩, false⟩) ∧ Below w.heap.size w w') := by
  obtain ⟨at_, ⟨Ac, nc, cc⟩, cut⟩ := c
  simp only [slV] at hm hc ⊢
  obtain ⟨rfl, hmc, _⟩ := hm.len_
  change Calls _ _ #[.agg #[.int .i64 (at_ : Nat), .slice Ac m.length cc, .bool cut], _, _] w (fun e w' => e = .returned (.agg #[.int .i64 (at_ : Nat), .slice Ac (Sf.upTo at_ t lb - at_) cc, .bool false]) ∧ _)
  obtain ⟨W, hW⟩ : ∃ W, (w.alloc (.cells #[.int .i64 (at_ : Nat), .slice Ac m.length cc, .bool cut] 96)).alloc (.cells #[.int .i64 0, .slice none 0 0, .bool false] 96) = W := ⟨_, rfl⟩
  obtain ⟨p, hp⟩ : ∃ p, w.heap.size = p := ⟨_, rfl⟩
  have hW0 : W.heap[p]? = some (.cells #[.int .i64 (at_ : Nat), .slice Ac m.length cc, .bool cut] 96 (0, 0)) := by
    rw [← hW, ← hp, heap_alloc_old _ _ (by simp)]; exact heap_alloc_new _ _
  have hW1 : W.heap[p + 1]? = some (.cells #[.int .i64 0, .slice none 0 0, .bool false] 96 (0, 0)) := by
    rw [← hW, ← hp]
    have := heap_alloc_new (w.alloc (.cells #[.int .i64 (at_ : Nat), .slice Ac m.length cc, .bool cut] 96)) (.cells #[.int .i64 0, .slice none 0 0, .bool false] 96)
    simpa using this
  have hb : Below p w W := by rw [← hW, ← hp]; exact ((Below.refl _ _).alloc (Nat.le_refl _) _).alloc (by simp) _
  have hWs : W.heap.size = p + 2 := by rw [← hW, ← hp]; simp
  have HY : Hid (∀ w', Turned (fun k => k = p + 1) W w' → w'.cell? ⟨p, 0, none⟩ = some (.int .i64 (at_ : Nat)) ∧ w'.cell? ⟨p, 1, none⟩ = some (.slice Ac m.length cc)) := fun w' ht => by
    have hh := (ht.block p (by omega) (by omega)).trans hW0
    exact ⟨by rw [cell_of_row _ _ 0 _ _ _ hh]; rfl, by rw [cell_of_row _ _ 1 _ _ _ hh]; rfl⟩
  have c0 : W.cell? ⟨p, 0, none⟩ = some (.int .i64 (at_ : Nat)) := by rw [cell_of_row _ _ 0 _ _ _ hW0]; rfl
  have hue := Sf.upTo_le at_ t lb
  have hadd : IntKind.i64.wrap ((at_ : Int) + (t : Int)) = ((at_ + t : Nat) : Int) := by rw [IntKind.wrap_i64]; omega
  obtain ⟨E, hE⟩ : ∃ E, Sf.upTo at_ t lb = E := ⟨_, rfl⟩
  rw [hE] at hue ⊢
  have HWS := Lib.hid hWs
  have HBW := Lib.hid hb
  have HZ : Hid (Rw W (p + 1) 96 #[.int .i64 0, .slice none 0 0, .bool false]) := hW1
  have HRR : Hid (Rw W p 96 #[.int .i64 (at_ : Nat), .slice Ac m.length cc, .bool cut]) := hW0
  have hsub : IntKind.i64.wrap ((E : Int) - (at_ : Int)) = (E : Int) - (at_ : Int) := by rw [IntKind.wrap_i64]; omega
  obtain ⟨K0, hK0⟩ : ∃ K, E - at_ = K := ⟨_, rfl⟩
  have hmax : (if (E : Int) - (at_ : Int) < 0 then 0 else (E : Int) - (at_ : Int)) = (K0 : Int) := by split <;> omega
  have k1 : ∀ w, (Instr.slice 22 (.slice Ac m.length cc) none (some (.int .i64 (K0 : Nat))) none).run Try.prog w = .ok (.slice Ac K0 cc) w := fun w => cut_to yK rfl Ac m.length cc K0 (by omega) w
  have k2 : ∀ w, (Instr.sliceAt 22 (.slice Ac m.length cc) none (some (.int .i64 (K0 : Nat))) none).run Try.prog w = .ok (.slice Ac K0 cc) w := fun w => cutAt_to yK rfl Ac m.length cc K0 (by omega) w
  rw [hK0]
  obtain ⟨s, hs⟩ : ∃ s, at_ + t = s := ⟨_, rfl⟩
  rw [hs] at hadd hue
  unfold Sf.upTo at hE
  rw [hs] at hE
  clear hm hW0 hW1 hb hWs hK0
  by_cases hlt : s < lb
  · rw [if_pos hlt] at hE
    have hlt' : (s : Int) < (lb : Int) := by omega
    have hEi : (s : Int) - (s : Int) % 512 = (E : Int) := by omega
    go_enter Try.func66, Try.ntmps66
    go_wp2
    refine wp_region_held_drew (S := fun w' => Turned (fun k => k = p + 1) W w') (by kernel_rfl) ((Turned.refl _ W).drew) (fun hH => ?_)
    refine wpAnyH_take (i := 0) (v := ?_) rfl (by kernel_rfl) (by kernel_rfl) (by kernel_rfl) (fun _ _ _ h => h) (Or.inl ⟨by rfl, (by intro w' hSw; go_simp; first | done | with_reducible rfl)⟩) hH ?_
    try simp only [Act.put, List.getElem_toArray, List.getElem_cons_zero, List.setIfInBounds_toArray, List.set_cons_zero, List.set_cons_succ]
    refine wpAnyH_take (i := 1) (v := ?_) rfl (by kernel_rfl) (by kernel_rfl) (by kernel_rfl) (fun _ _ _ h => h) (Or.inl ⟨by rfl, (by intro w' hSw; obtain ⟨s0, s1⟩ := HY.out w' hSw; go_simp; first | done | with_reducible rfl)⟩) hH ?_
    try simp only [Act.put, List.getElem_toArray, List.getElem_cons_succ, List.getElem_cons_zero, List.setIfInBounds_toArray, List.set_cons_zero, List.set_cons_succ]
    refine wpAnyH_take (i := 2) (v := ?_) rfl (by kernel_rfl) (by kernel_rfl) (by kernel_rfl) (fun _ _ _ h => h) (Or.inl ⟨by rfl, (by intro w' hSw; go_simp; first | done | with_reducible rfl)⟩) hH ?_
    try simp only [Act.put, List.getElem_toArray, List.getElem_cons_succ, List.getElem_cons_zero, List.setIfInBounds_toArray, List.set_cons_zero, List.set_cons_succ]
    refine wpAnyH_take (i := 3) (v := ?_) rfl (by kernel_rfl) (by kernel_rfl) (by kernel_rfl) (fun _ _ _ h => h) (Or.inl ⟨by rfl, (by intro w' hSw; obtain ⟨s0, s1⟩ := HY.out w' hSw; go_simp; first | done | with_reducible rfl)⟩) hH ?_
    try simp only [Act.put, List.getElem_toArray, List.getElem_cons_succ, List.getElem_cons_zero, List.setIfInBounds_toArray, List.set_cons_zero, List.set_cons_succ]
    refine wpAnyH_take (i := 4) (v := ?_) rfl (by kernel_rfl) (by kernel_rfl) (by kernel_rfl) (fun _ _ _ h => h) (Or.inl ⟨by rfl, (by intro w' hSw; go_simp; first | done | with_reducible rfl)⟩) hH ?_
    try simp only [Act.put, List.getElem_toArray, List.getElem_cons_succ, List.getElem_cons_zero, List.setIfInBounds_toArray, List.set_cons_zero, List.set_cons_succ]
    refine wpAnyH_take (i := 5) (v := ?_) rfl (by kernel_rfl) (by kernel_rfl) (by kernel_rfl) (fun _ _ _ h => h) (Or.inl ⟨by rfl, (by intro w' hSw; go_simp; first | done | with_reducible rfl)⟩) hH ?_
    try simp only [Act.put, List.getElem_toArray, List.getElem_cons_succ, List.getElem_cons_zero, List.setIfInBounds_toArray, List.set_cons_zero, List.set_cons_succ]
    refine wpAnyH_take (i := 6) (v := ?_) rfl (by kernel_rfl) (by kernel_rfl) (by kernel_rfl) (fun _ _ _ h => h) (Or.inl ⟨by rfl, (by intro w' hSw; obtain ⟨s0, s1⟩ := HY.out w' hSw; go_simp; first | done | with_reducible rfl)⟩) hH ?_
    try simp only [Act.put, List.getElem_toArray, List.getElem_cons_succ, List.getElem_cons_zero, List.setIfInBounds_toArray, List.set_cons_zero, List.set_cons_succ]
    refine wpAnyH_take (i := 7) (v := ?_) rfl (by kernel_rfl) (by kernel_rfl) (by kernel_rfl) (fun _ _ _ h => h) (Or.inl ⟨by rfl, (by intro w' hSw; go_simp; first | done | with_reducible rfl)⟩) hH ?_
    try simp only [Act.put, List.getElem_toArray, List.getElem_cons_succ, List.getElem_cons_zero, List.setIfInBounds_toArray, List.set_cons_zero, List.set_cons_succ]
    refine wpAnyH_take (i := 8) (v := ?_) rfl (by kernel_rfl) (by kernel_rfl) (by kernel_rfl) (fun _ _ _ h => h) (Or.inl ⟨by rfl, (by intro w' hSw; go_simp; first | done | with_reducible rfl)⟩) hH ?_
    try simp only [Act.put, List.getElem_toArray, List.getElem_cons_succ, List.getElem_cons_zero, List.setIfInBounds_toArray, List.set_cons_zero, List.set_cons_succ]
    refine wpAnyH_take (i := 9) (v := ?_) rfl (by kernel_rfl) (by kernel_rfl) (by kernel_rfl) (fun _ _ _ h => h) (Or.inl ⟨by rfl, (by intro w' hSw; go_simp; first | done | with_reducible rfl)⟩) hH ?_
    try simp only [Act.put, List.getElem_toArray, List.getElem_cons_succ, List.getElem_cons_zero, List.setIfInBounds_toArray, List.set_cons_zero, List.set_cons_succ]
    refine wpAnyH_take (i := 10) (v := ?_) rfl (by kernel_rfl) (by kernel_rfl) (by kernel_rfl) (fun _ _ _ h => h) (Or.inl ⟨by rfl, (by intro w' hSw; go_simp; first | done | with_reducible rfl)⟩) hH ?_
    try simp only [Act.put, List.getElem_toArray, List.getElem_cons_succ, List.getElem_cons_zero, List.setIfInBounds_toArray, List.set_cons_zero, List.set_cons_succ]
    refine wpAnyH_ready (rs := [11]) (by kernel_rfl) (by simp) ?_
    refine AllReadyH.cons rfl (fun K hK => ?_) AllReadyH.nil
    rw [if_pos (by rfl)]
    have HZ3 : Hid (Rw W.drew (p + 1) 96 #[.int .i64 0, .slice none 0 0, .bool false]) := HZ.out
    refine wp_store_row 96 (.tmp 6) (.tmp 30) rfl (p + 1) #[.int .i64 (at_ : Nat), .slice Ac K0 cc, .bool false] rfl rfl 96 _ HZ3.out (by kernel_rfl) rfl (by simp [Value.oneCell']) ?_
    have HT4 : Hid (Turned (fun k => k = p + 1) W (W.drew.setRow (p + 1) #[.int .i64 (at_ : Nat), .slice Ac K0 cc, .bool false])) := ((Turned.refl (fun k => k = p + 1) W).drew).setRow (fun _ => rfl) _
    have HRZ := Lib.hid (HZ3.out.row #[.int .i64 (at_ : Nat), .slice Ac K0 cc, .bool false])
    refine hK.out _ _ HT4.out (fun hH => ?_)
    clear hK K
    refine wpAnyH_done (by kernel_rfl) ?_ _
    clear hH
    go_wp2
    try simp only [Act.put, List.getElem_toArray, List.getElem_cons_succ, List.getElem_cons_zero]
    refine bodyPost_ret (v := .agg #[.int .i64 (at_ : Nat), .slice Ac K0 cc, .bool false]) (results_cell_row rfl _ _ (p + 1) 96 #[.int .i64 (at_ : Nat), .slice Ac K0 cc, .bool false] (0, 0) _ rfl HRZ.out Try.underlying96 rfl (by kernel_rfl)) rfl ⟨rfl, ?_⟩
    have t1 := (Turned.of_below HBW.out).trans HT4.out (fun k _ (h : k = p + 1) => (by omega : p ≤ k))
    rw [hp]
    exact t1.below (by omega) (fun k h => h)
  · rw [if_neg hlt] at hE
    subst hE
    have hlt' : ¬ (s : Int) < (lb : Int) := by omega
    go_enter Try.func66, Try.ntmps66
    go_wp2
    refine wp_region_held_drew (S := fun w' => Turned (fun k => k = p + 1) W w') (by kernel_rfl) ((Turned.refl _ W).drew) (fun hH => ?_)
    refine wpAnyH_take (i := 0) (v := ?_) rfl (by kernel_rfl) (by kernel_rfl) (by kernel_rfl) (fun _ _ _ h => h) (Or.inl ⟨by rfl, (by intro w' hSw; go_simp; first | done | with_reducible rfl)⟩) hH ?_
    try simp only [Act.put, List.getElem_toArray, List.getElem_cons_zero, List.setIfInBounds_toArray, List.set_cons_zero, List.set_cons_succ]
    refine wpAnyH_take (i := 1) (v := ?_) rfl (by kernel_rfl) (by kernel_rfl) (by kernel_rfl) (fun _ _ _ h => h) (Or.inl ⟨by rfl, (by intro w' hSw; obtain ⟨s0, s1⟩ := HY.out w' hSw; go_simp; first | done | with_reducible rfl)⟩) hH ?_
    try simp only [Act.put, List.getElem_toArray, List.getElem_cons_succ, List.getElem_cons_zero, List.setIfInBounds_toArray, List.set_cons_zero, List.set_cons_succ]
    refine wpAnyH_take (i := 2) (v := ?_) rfl (by kernel_rfl) (by kernel_rfl) (by kernel_rfl) (fun _ _ _ h => h) (Or.inl ⟨by rfl, (by intro w' hSw; go_simp; first | done | with_reducible rfl)⟩) hH ?_
    try simp only [Act.put, List.getElem_toArray, List.getElem_cons_succ, List.getElem_cons_zero, List.setIfInBounds_toArray, List.set_cons_zero, List.set_cons_succ]
    refine wpAnyH_take (i := 3) (v := ?_) rfl (by kernel_rfl) (by kernel_rfl) (by kernel_rfl) (fun _ _ _ h => h) (Or.inl ⟨by rfl, (by intro w' hSw; obtain ⟨s0, s1⟩ := HY.out w' hSw; go_simp; first | done | with_reducible rfl)⟩) hH ?_
    try simp only [Act.put, List.getElem_toArray, List.getElem_cons_succ, List.getElem_cons_zero, List.setIfInBounds_toArray, List.set_cons_zero, List.set_cons_succ]
    refine wpAnyH_take (i := 4) (v := ?_) rfl (by kernel_rfl) (by kernel_rfl) (by kernel_rfl) (fun _ _ _ h => h) (Or.inl ⟨by rfl, (by intro w' hSw; go_simp; first | done | with_reducible rfl)⟩) hH ?_
    try simp only [Act.put, List.getElem_toArray, List.getElem_cons_succ, List.getElem_cons_zero, List.setIfInBounds_toArray, List.set_cons_zero, List.set_cons_succ]
    refine wpAnyH_take (i := 5) (v := ?_) rfl (by kernel_rfl) (by kernel_rfl) (by kernel_rfl) (fun _ _ _ h => h) (Or.inl ⟨by rfl, (by intro w' hSw; go_simp; first | done | with_reducible rfl)⟩) hH ?_
    try simp only [Act.put, List.getElem_toArray, List.getElem_cons_succ, List.getElem_cons_zero, List.setIfInBounds_toArray, List.set_cons_zero, List.set_cons_succ]
    refine wpAnyH_take (i := 6) (v := ?_) rfl (by kernel_rfl) (by kernel_rfl) (by kernel_rfl) (fun _ _ _ h => h) (Or.inl ⟨by rfl, (by intro w' hSw; obtain ⟨s0, s1⟩ := HY.out w' hSw; go_simp; first | done | with_reducible rfl)⟩) hH ?_
    try simp only [Act.put, List.getElem_toArray, List.getElem_cons_succ, List.getElem_cons_zero, List.setIfInBounds_toArray, List.set_cons_zero, List.set_cons_succ]
    refine wpAnyH_take (i := 7) (v := ?_) rfl (by kernel_rfl) (by kernel_rfl) (by kernel_rfl) (fun _ _ _ h => h) (Or.inl ⟨by rfl, (by intro w' hSw; go_simp; first | done | with_reducible rfl)⟩) hH ?_
    try simp only [Act.put, List.getElem_toArray, List.getElem_cons_succ, List.getElem_cons_zero, List.setIfInBounds_toArray, List.set_cons_zero, List.set_cons_succ]
    refine wpAnyH_take (i := 8) (v := ?_) rfl (by kernel_rfl) (by kernel_rfl) (by kernel_rfl) (fun _ _ _ h => h) (Or.inl ⟨by rfl, (by intro w' hSw; go_simp; first | done | with_reducible rfl)⟩) hH ?_
    try simp only [Act.put, List.getElem_toArray, List.getElem_cons_succ, List.getElem_cons_zero, List.setIfInBounds_toArray, List.set_cons_zero, List.set_cons_succ]
    refine wpAnyH_take (i := 9) (v := ?_) rfl (by kernel_rfl) (by kernel_rfl) (by kernel_rfl) (fun _ _ _ h => h) (Or.inl ⟨by rfl, (by intro w' hSw; go_simp; first | done | with_reducible rfl)⟩) hH ?_
    try simp only [Act.put, List.getElem_toArray, List.getElem_cons_succ, List.getElem_cons_zero, List.setIfInBounds_toArray, List.set_cons_zero, List.set_cons_succ]
    refine wpAnyH_take (i := 10) (v := ?_) rfl (by kernel_rfl) (by kernel_rfl) (by kernel_rfl) (fun _ _ _ h => h) (Or.inl ⟨by rfl, (by intro w' hSw; go_simp; first | done | with_reducible rfl)⟩) hH ?_
    try simp only [Act.put, List.getElem_toArray, List.getElem_cons_succ, List.getElem_cons_zero, List.setIfInBounds_toArray, List.set_cons_zero, List.set_cons_succ]
    refine wpAnyH_ready (rs := [11]) (by kernel_rfl) (by simp) ?_
    refine AllReadyH.cons rfl (fun K hK => ?_) AllReadyH.nil
    rw [if_pos (by rfl)]
    have HZ3 : Hid (Rw W.drew (p + 1) 96 #[.int .i64 0, .slice none 0 0, .bool false]) := HZ.out
    refine wp_store_row 96 (.tmp 6) (.tmp 30) rfl (p + 1) #[.int .i64 (at_ : Nat), .slice Ac K0 cc, .bool false] rfl rfl 96 _ HZ3.out (by kernel_rfl) rfl (by simp [Value.oneCell']) ?_
    have HT4 : Hid (Turned (fun k => k = p + 1) W (W.drew.setRow (p + 1) #[.int .i64 (at_ : Nat), .slice Ac K0 cc, .bool false])) := ((Turned.refl (fun k => k = p + 1) W).drew).setRow (fun _ => rfl) _
    have HRZ := Lib.hid (HZ3.out.row #[.int .i64 (at_ : Nat), .slice Ac K0 cc, .bool false])
    refine hK.out _ _ HT4.out (fun hH => ?_)
    clear hK K
    refine wpAnyH_done (by kernel_rfl) ?_ _
    clear hH
    go_wp2
    try simp only [Act.put, List.getElem_toArray, List.getElem_cons_succ, List.getElem_cons_zero]
    refine bodyPost_ret (v := .agg #[.int .i64 (at_ : Nat), .slice Ac K0 cc, .bool false]) (results_cell_row rfl _ _ (p + 1) 96 #[.int .i64 (at_ : Nat), .slice Ac K0 cc, .bool false] (0, 0) _ rfl HRZ.out Try.underlying96 rfl (by kernel_rfl)) rfl ⟨rfl, ?_⟩
    have t1 := (Turned.of_below HBW.out).trans HT4.out (fun k _ (h : k = p + 1) => (by omega : p ≤ k))
    rw [hp]
    exact t1.below (by omega) (fun k h => h)
end Go.Proofs.Ytmcbjcbnckpfkaa
namespace Go.Proofs.Ytmcbjcbnckpfkaa
open Go.RowKit
set_option linter.unusedVariables false

section
variable {P : Program} {α : Type}
theorem step_append_m (w : World) {ops : Array Oper} {o : Oper} {a : Act} {K' : Act → World → Prop} {Q : Exit → Act → World → Prop} {E : Prop} (K : El P α) (hgd : o.guard = none) (s t : Operand)
    (ho : o.op = .call { callee := .builtin .append, args := #[s, t], argTypes := #[K.s, K.s] })
    (base : Nat) (v : Value) (hs : a.eval s = v) (l : List α) (hown : OwnL K w base v l) (x : Value) (hx0 : a.eval t = x) (B : Nat) (m : List α) (hx : Lv K w B x m) (hsz : (l.length + m.length) * K.bytes ≤ 140737488355328) (h63 : l.length + m.length ≤ maxLen) (hbase : base ≤ w.heap.size)
    (h : ∀ A c w', OwnL K w' base (.slice A (l ++ m).length c) (l ++ m) → w.grownBy w' v.ownBlock → Moved w v (.slice A (l ++ m).length c) → K' (a.put o.dst (.slice A (l ++ m).length c)) w') :
    if Region.wanted o (yielded ops a.tmps) = true then Oper.wp P o a w K' Q else E := by
  have hw : Region.wanted o (yielded ops a.tmps) = true := by simp [Region.wanted, hgd]
  rw [if_pos hw]
  obtain ⟨v', w', hr, hA, hG, hM⟩ := run_append_m w base v l hown o.type x B m hx hsz h63 hbase
  obtain ⟨A, c, rfl, _⟩ := hA.form_
  unfold Oper.wp execOp
  simp only [ho, resolve, invoke, builtin, Sem.run_bind, Sem.run_pure, Result.andThen_ok, List.map_toArray, List.map_cons, List.map_nil, hs, hx0, hr]
  exact h A c w' hA hG hM
theorem step_push_m (w : World) {ops : Array Oper} {o : Oper} {a : Act} {K' : Act → World → Prop} {Q : Exit → Act → World → Prop} {E : Prop} (K : El P α) (hgd : o.guard = none) (s t : Operand)
    (ho : o.op = .call { callee := .builtin .append, args := #[s, t], argTypes := #[K.s, K.s] })
    (base : Nat) (v : Value) (hs : a.eval s = v) (l : List α) (hown : OwnL K w base v l) (ht : a.eval t = .slice (some ⟨w.heap.size, 0, none⟩) 1 1) (x : α) (hx : K.ok x) (cs : Array Value) (hcs : cs = (K.enc x).toArray) (e : TypeId) (he : e = K.e) (hsz : (l.length + 1) * K.bytes ≤ 140737488355328) (h63 : l.length + 1 ≤ maxLen) (hbase : base ≤ w.heap.size)
    (h : ∀ A c w', OwnL K w' base (.slice A (l.length + 1) c) (l ++ [x]) → w.grownBy w' v.ownBlock → Moved w v (.slice A (l.length + 1) c) → K' (a.put o.dst (.slice A (l.length + 1) c)) w') :
    if Region.wanted o (yielded ops a.tmps) = true then Oper.wp P o a (w.alloc (.cells cs e)) K' Q else E := by
  subst hcs he
  refine step_append_m _ K hgd s t ho base v hs l (hown.alloc_ _) _ ht _ [x] (Lv.lit_ w hx) (by simpa using hsz) (by simpa using h63) (by simp; omega) fun A c w' h1 h2 h3 => ?_
  rw [List.length_append, List.length_singleton] at h1 h3 ⊢
  exact h A c w' h1 (grown_alloc h2) (fun k hk => (h3 k hk).imp id (fun h => by simp at h; omega))
end
end Go.Proofs.Ytmcbjcbnckpfkaa
