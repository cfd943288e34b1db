/-
  PfBg: simfs.change.begun.
  StepM: An element put behind an own list at a step of a region that draws its order; and where the list lies then.
  PfCh: simfs.file.changed.
-/
import Derived.Test.YtmcbjcbnckpfkaaGreatPk14
import Derived.Deep.RegionHeld3
import Derived.Test.YtmcbjcbnckpfkaaGreatPk01
namespace Go.Proofs.YtmcbjcbnckpfkaaGreat
open Go.RowKit
set_option linter.unusedVariables false
namespace Sf
/-- Where the bytes that are written end. -/
def upTo (a n lb : Nat) : Nat := if a + n < lb then (a + n) / 512 * 512 else a + n
theorem upTo_le (a n lb : Nat) : upTo a n lb ≤ a + n := by
  unfold upTo
  split
  · omega
  · exact Nat.le_refl _
theorem torn_done (b : List Nat) (a : Act) (n : Nat) : torn b a n = done b ⟨false, a.at_, a.b.take (upTo a.at_ n b.length - a.at_)⟩ := by
  unfold torn
  simp only
  change (if upTo a.at_ n b.length ≤ a.at_ then b else _) = _
  by_cases h : upTo a.at_ n b.length ≤ a.at_
  · rw [if_pos h, Nat.sub_eq_zero_of_le h, List.take_zero]
    simp [done]
  · rw [if_neg h]
    rfl
end Sf
set_option maxHeartbeats 4000000 in
set_option maxRecDepth 100000 in
theorem pbegun_any (c : RawC) (A0 : Option Addr) (lb cb t : Nat) (B : Nat) (m : List Nat) (w : World) (hm : Lv yK w B (slV c.sl) m) (hB : B ≤ w.heap.size) (hc : c.at_ ≤ 1048576) (ht : t ≤ m.length) (hml : m.length ≤ 1048576) (hlb : lb ≤ 1048576) :
    Calls Tryz.prog 91 #[cV c, .slice A0 lb cb, .int .i64 (t : Nat)] w (fun e w' => e = .returned (cV ⟨c.at_, ⟨c.sl.A, Sf.upTo c.at_ t lb - c.at_, c.sl.c⟩, false⟩) ∧ Below w.heap.size w w') := by
  obtain ⟨at_, ⟨Ac, nc, cc⟩, cut⟩ := c
  simp only [slV] at hm hc ⊢
  obtain ⟨rfl, hmc, _⟩ := hm.len_
  change Calls _ _ #[.agg #[.int .i64 (at_ : Nat), .slice Ac m.length cc, .bool cut], _, _] w (fun e w' => e = .returned (.agg #[.int .i64 (at_ : Nat), .slice Ac (Sf.upTo at_ t lb - at_) cc, .bool false]) ∧ _)
  obtain ⟨W, hW⟩ : ∃ W, (w.alloc (.cells #[.int .i64 (at_ : Nat), .slice Ac m.length cc, .bool cut] 113)).alloc (.cells #[.int .i64 0, .slice none 0 0, .bool false] 113) = W := ⟨_, rfl⟩
  obtain ⟨p, hp⟩ : ∃ p, w.heap.size = p := ⟨_, rfl⟩
  have hW0 : W.heap[p]? = some (.cells #[.int .i64 (at_ : Nat), .slice Ac m.length cc, .bool cut] 113 (0, 0)) := by
    rw [← hW, ← hp, heap_alloc_old _ _ (by simp)]; exact heap_alloc_new _ _
  have hW1 : W.heap[p + 1]? = some (.cells #[.int .i64 0, .slice none 0 0, .bool false] 113 (0, 0)) := by
    rw [← hW, ← hp]
    have := heap_alloc_new (w.alloc (.cells #[.int .i64 (at_ : Nat), .slice Ac m.length cc, .bool cut] 113)) (.cells #[.int .i64 0, .slice none 0 0, .bool false] 113)
    simpa using this
  have hb : Below p w W := by rw [← hW, ← hp]; exact ((Below.refl _ _).alloc (Nat.le_refl _) _).alloc (by simp) _
  have hWs : W.heap.size = p + 2 := by rw [← hW, ← hp]; simp
  have HY : Hid (∀ w', Turned (fun k => k = p + 1) W w' → w'.cell? ⟨p, 0, none⟩ = some (.int .i64 (at_ : Nat)) ∧ w'.cell? ⟨p, 1, none⟩ = some (.slice Ac m.length cc)) := fun w' ht => by
    have hh := (ht.block p (by omega) (by omega)).trans hW0
    exact ⟨by rw [cell_of_row _ _ 0 _ _ _ hh]; rfl, by rw [cell_of_row _ _ 1 _ _ _ hh]; rfl⟩
  have c0 : W.cell? ⟨p, 0, none⟩ = some (.int .i64 (at_ : Nat)) := by rw [cell_of_row _ _ 0 _ _ _ hW0]; rfl
  have hue := Sf.upTo_le at_ t lb
  have hadd : IntKind.i64.wrap ((at_ : Int) + (t : Int)) = ((at_ + t : Nat) : Int) := by rw [IntKind.wrap_i64]; omega
  obtain ⟨E, hE⟩ : ∃ E, Sf.upTo at_ t lb = E := ⟨_, rfl⟩
  rw [hE] at hue ⊢
  have HWS := Lib.hid hWs
  have HBW := Lib.hid hb
  have HZ : Hid (Rw W (p + 1) 113 #[.int .i64 0, .slice none 0 0, .bool false]) := hW1
  have HRR : Hid (Rw W p 113 #[.int .i64 (at_ : Nat), .slice Ac m.length cc, .bool cut]) := hW0
  have hsub : IntKind.i64.wrap ((E : Int) - (at_ : Int)) = (E : Int) - (at_ : Int) := by rw [IntKind.wrap_i64]; omega
  obtain ⟨K0, hK0⟩ : ∃ K, E - at_ = K := ⟨_, rfl⟩
  have hmax : (if (E : Int) - (at_ : Int) < 0 then 0 else (E : Int) - (at_ : Int)) = (K0 : Int) := by split <;> omega
  have k1 : ∀ w, (Instr.slice 33 (.slice Ac m.length cc) none (some (.int .i64 (K0 : Nat))) none).run Tryz.prog w = .ok (.slice Ac K0 cc) w := fun w => cut_to yK rfl Ac m.length cc K0 (by omega) w
  have k2 : ∀ w, (Instr.sliceAt 33 (.slice Ac m.length cc) none (some (.int .i64 (K0 : Nat))) none).run Tryz.prog w = .ok (.slice Ac K0 cc) w := fun w => cutAt_to yK rfl Ac m.length cc K0 (by omega) w
  rw [hK0]
  obtain ⟨s, hs⟩ : ∃ s, at_ + t = s := ⟨_, rfl⟩
  rw [hs] at hadd hue
  unfold Sf.upTo at hE
  rw [hs] at hE
  clear hm hW0 hW1 hb hWs hK0
  by_cases hlt : s < lb
  · rw [if_pos hlt] at hE
    have hlt' : (s : Int) < (lb : Int) := by omega
    have hEi : (s : Int) - (s : Int) % 512 = (E : Int) := by omega
    go_enter Tryz.func91, Tryz.ntmps91
    go_wp2
    refine wp_region_held_drew (S := fun w' => Turned (fun k => k = p + 1) W w') (by kernel_rfl) ((Turned.refl _ W).drew) (fun hH => ?_)
    refine wpAnyH_take (i := 0) (v := ?_) rfl (by kernel_rfl) (by kernel_rfl) (by kernel_rfl) (fun _ _ _ h => h) (Or.inl ⟨by rfl, (by intro w' hSw; go_simp; first | done | with_reducible rfl)⟩) hH ?_
    try simp only [Act.put, List.getElem_toArray, List.getElem_cons_zero, List.setIfInBounds_toArray, List.set_cons_zero, List.set_cons_succ]
    refine wpAnyH_take (i := 1) (v := ?_) rfl (by kernel_rfl) (by kernel_rfl) (by kernel_rfl) (fun _ _ _ h => h) (Or.inl ⟨by rfl, (by intro w' hSw; obtain ⟨s0, s1⟩ := HY.out w' hSw; go_simp; first | done | with_reducible rfl)⟩) hH ?_
    try simp only [Act.put, List.getElem_toArray, List.getElem_cons_succ, List.getElem_cons_zero, List.setIfInBounds_toArray, List.set_cons_zero, List.set_cons_succ]
    refine wpAnyH_take (i := 2) (v := ?_) rfl (by kernel_rfl) (by kernel_rfl) (by kernel_rfl) (fun _ _ _ h => h) (Or.inl ⟨by rfl, (by intro w' hSw; go_simp; first | done | with_reducible rfl)⟩) hH ?_
    try simp only [Act.put, List.getElem_toArray, List.getElem_cons_succ, List.getElem_cons_zero, List.setIfInBounds_toArray, List.set_cons_zero, List.set_cons_succ]
    refine wpAnyH_take (i := 3) (v := ?_) rfl (by kernel_rfl) (by kernel_rfl) (by kernel_rfl) (fun _ _ _ h => h) (Or.inl ⟨by rfl, (by intro w' hSw; obtain ⟨s0, s1⟩ := HY.out w' hSw; go_simp; first | done | with_reducible rfl)⟩) hH ?_
    try simp only [Act.put, List.getElem_toArray, List.getElem_cons_succ, List.getElem_cons_zero, List.setIfInBounds_toArray, List.set_cons_zero, List.set_cons_succ]
    refine wpAnyH_take (i := 4) (v := ?_) rfl (by kernel_rfl) (by kernel_rfl) (by kernel_rfl) (fun _ _ _ h => h) (Or.inl ⟨by rfl, (by intro w' hSw; go_simp; first | done | with_reducible rfl)⟩) hH ?_
    try simp only [Act.put, List.getElem_toArray, List.getElem_cons_succ, List.getElem_cons_zero, List.setIfInBounds_toArray, List.set_cons_zero, List.set_cons_succ]
    refine wpAnyH_take (i := 5) (v := ?_) rfl (by kernel_rfl) (by kernel_rfl) (by kernel_rfl) (fun _ _ _ h => h) (Or.inl ⟨by rfl, (by intro w' hSw; go_simp; first | done | with_reducible rfl)⟩) hH ?_
    try simp only [Act.put, List.getElem_toArray, List.getElem_cons_succ, List.getElem_cons_zero, List.setIfInBounds_toArray, List.set_cons_zero, List.set_cons_succ]
    refine wpAnyH_take (i := 6) (v := ?_) rfl (by kernel_rfl) (by kernel_rfl) (by kernel_rfl) (fun _ _ _ h => h) (Or.inl ⟨by rfl, (by intro w' hSw; obtain ⟨s0, s1⟩ := HY.out w' hSw; go_simp; first | done | with_reducible rfl)⟩) hH ?_
    try simp only [Act.put, List.getElem_toArray, List.getElem_cons_succ, List.getElem_cons_zero, List.setIfInBounds_toArray, List.set_cons_zero, List.set_cons_succ]
    refine wpAnyH_take (i := 7) (v := ?_) rfl (by kernel_rfl) (by kernel_rfl) (by kernel_rfl) (fun _ _ _ h => h) (Or.inl ⟨by rfl, (by intro w' hSw; go_simp; first | done | with_reducible rfl)⟩) hH ?_
    try simp only [Act.put, List.getElem_toArray, List.getElem_cons_succ, List.getElem_cons_zero, List.setIfInBounds_toArray, List.set_cons_zero, List.set_cons_succ]
    refine wpAnyH_take (i := 8) (v := ?_) rfl (by kernel_rfl) (by kernel_rfl) (by kernel_rfl) (fun _ _ _ h => h) (Or.inl ⟨by rfl, (by intro w' hSw; go_simp; first | done | with_reducible rfl)⟩) hH ?_
    try simp only [Act.put, List.getElem_toArray, List.getElem_cons_succ, List.getElem_cons_zero, List.setIfInBounds_toArray, List.set_cons_zero, List.set_cons_succ]
    refine wpAnyH_take (i := 9) (v := ?_) rfl (by kernel_rfl) (by kernel_rfl) (by kernel_rfl) (fun _ _ _ h => h) (Or.inl ⟨by rfl, (by intro w' hSw; go_simp; first | done | with_reducible rfl)⟩) hH ?_
    try simp only [Act.put, List.getElem_toArray, List.getElem_cons_succ, List.getElem_cons_zero, List.setIfInBounds_toArray, List.set_cons_zero, List.set_cons_succ]
    refine wpAnyH_take (i := 10) (v := ?_) rfl (by kernel_rfl) (by kernel_rfl) (by kernel_rfl) (fun _ _ _ h => h) (Or.inl ⟨by rfl, (by intro w' hSw; go_simp; first | done | with_reducible rfl)⟩) hH ?_
    try simp only [Act.put, List.getElem_toArray, List.getElem_cons_succ, List.getElem_cons_zero, List.setIfInBounds_toArray, List.set_cons_zero, List.set_cons_succ]
    refine wpAnyH_ready (rs := [11]) (by kernel_rfl) (by simp) ?_
    refine AllReadyH.cons rfl (fun K hK => ?_) AllReadyH.nil
    rw [if_pos (by rfl)]
    have HZ3 : Hid (Rw W.drew (p + 1) 113 #[.int .i64 0, .slice none 0 0, .bool false]) := HZ.out
    refine wp_store_row 113 (.tmp 6) (.tmp 30) rfl (p + 1) #[.int .i64 (at_ : Nat), .slice Ac K0 cc, .bool false] rfl rfl 113 _ HZ3.out (by kernel_rfl) rfl (by simp [Value.oneCell']) ?_
    have HT4 : Hid (Turned (fun k => k = p + 1) W (W.drew.setRow (p + 1) #[.int .i64 (at_ : Nat), .slice Ac K0 cc, .bool false])) := ((Turned.refl (fun k => k = p + 1) W).drew).setRow (fun _ => rfl) _
    have HRZ := Lib.hid (HZ3.out.row #[.int .i64 (at_ : Nat), .slice Ac K0 cc, .bool false])
    refine hK.out _ _ HT4.out (fun hH => ?_)
    clear hK K
    refine wpAnyH_done (by kernel_rfl) ?_ _
    clear hH
    go_wp2
    try simp only [Act.put, List.getElem_toArray, List.getElem_cons_succ, List.getElem_cons_zero]
    refine bodyPost_ret (v := .agg #[.int .i64 (at_ : Nat), .slice Ac K0 cc, .bool false]) (results_cell_row rfl _ _ (p + 1) 113 #[.int .i64 (at_ : Nat), .slice Ac K0 cc, .bool false] (0, 0) _ rfl HRZ.out Tryz.underlying113 rfl (by kernel_rfl)) rfl ⟨rfl, ?_⟩
    have t1 := (Turned.of_below HBW.out).trans HT4.out (fun k _ (h : k = p + 1) => (by omega : p ≤ k))
    rw [hp]
    exact t1.below (by omega) (fun k h => h)
  · rw [if_neg hlt] at hE
    subst hE
    have hlt' : ¬ (s : Int) < (lb : Int) := by omega
    go_enter Tryz.func91, Tryz.ntmps91
    go_wp2
    refine wp_region_held_drew (S := fun w' => Turned (fun k => k = p + 1) W w') (by kernel_rfl) ((Turned.refl _ W).drew) (fun hH => ?_)
    refine wpAnyH_take (i := 0) (v := ?_) rfl (by kernel_rfl) (by kernel_rfl) (by kernel_rfl) (fun _ _ _ h => h) (Or.inl ⟨by rfl, (by intro w' hSw; go_simp; first | done | with_reducible rfl)⟩) hH ?_
    try simp only [Act.put, List.getElem_toArray, List.getElem_cons_zero, List.setIfInBounds_toArray, List.set_cons_zero, List.set_cons_succ]
    refine wpAnyH_take (i := 1) (v := ?_) rfl (by kernel_rfl) (by kernel_rfl) (by kernel_rfl) (fun _ _ _ h => h) (Or.inl ⟨by rfl, (by intro w' hSw; obtain ⟨s0, s1⟩ := HY.out w' hSw; go_simp; first | done | with_reducible rfl)⟩) hH ?_
    try simp only [Act.put, List.getElem_toArray, List.getElem_cons_succ, List.getElem_cons_zero, List.setIfInBounds_toArray, List.set_cons_zero, List.set_cons_succ]
    refine wpAnyH_take (i := 2) (v := ?_) rfl (by kernel_rfl) (by kernel_rfl) (by kernel_rfl) (fun _ _ _ h => h) (Or.inl ⟨by rfl, (by intro w' hSw; go_simp; first | done | with_reducible rfl)⟩) hH ?_
    try simp only [Act.put, List.getElem_toArray, List.getElem_cons_succ, List.getElem_cons_zero, List.setIfInBounds_toArray, List.set_cons_zero, List.set_cons_succ]
    refine wpAnyH_take (i := 3) (v := ?_) rfl (by kernel_rfl) (by kernel_rfl) (by kernel_rfl) (fun _ _ _ h => h) (Or.inl ⟨by rfl, (by intro w' hSw; obtain ⟨s0, s1⟩ := HY.out w' hSw; go_simp; first | done | with_reducible rfl)⟩) hH ?_
    try simp only [Act.put, List.getElem_toArray, List.getElem_cons_succ, List.getElem_cons_zero, List.setIfInBounds_toArray, List.set_cons_zero, List.set_cons_succ]
    refine wpAnyH_take (i := 4) (v := ?_) rfl (by kernel_rfl) (by kernel_rfl) (by kernel_rfl) (fun _ _ _ h => h) (Or.inl ⟨by rfl, (by intro w' hSw; go_simp; first | done | with_reducible rfl)⟩) hH ?_
    try simp only [Act.put, List.getElem_toArray, List.getElem_cons_succ, List.getElem_cons_zero, List.setIfInBounds_toArray, List.set_cons_zero, List.set_cons_succ]
    refine wpAnyH_take (i := 5) (v := ?_) rfl (by kernel_rfl) (by kernel_rfl) (by kernel_rfl) (fun _ _ _ h => h) (Or.inl ⟨by rfl, (by intro w' hSw; go_simp; first | done | with_reducible rfl)⟩) hH ?_
    try simp only [Act.put, List.getElem_toArray, List.getElem_cons_succ, List.getElem_cons_zero, List.setIfInBounds_toArray, List.set_cons_zero, List.set_cons_succ]
    refine wpAnyH_take (i := 6) (v := ?_) rfl (by kernel_rfl) (by kernel_rfl) (by kernel_rfl) (fun _ _ _ h => h) (Or.inl ⟨by rfl, (by intro w' hSw; obtain ⟨s0, s1⟩ := HY.out w' hSw; go_simp; first | done | with_reducible rfl)⟩) hH ?_
    try simp only [Act.put, List.getElem_toArray, List.getElem_cons_succ, List.getElem_cons_zero, List.setIfInBounds_toArray, List.set_cons_zero, List.set_cons_succ]
    refine wpAnyH_take (i := 7) (v := ?_) rfl (by kernel_rfl) (by kernel_rfl) (by kernel_rfl) (fun _ _ _ h => h) (Or.inl ⟨by rfl, (by intro w' hSw; go_simp; first | done | with_reducible rfl)⟩) hH ?_
    try simp only [Act.put, List.getElem_toArray, List.getElem_cons_succ, List.getElem_cons_zero, List.setIfInBounds_toArray, List.set_cons_zero, List.set_cons_succ]
    refine wpAnyH_take (i := 8) (v := ?_) rfl (by kernel_rfl) (by kernel_rfl) (by kernel_rfl) (fun _ _ _ h => h) (Or.inl ⟨by rfl, (by intro w' hSw; go_simp; first | done | with_reducible rfl)⟩) hH ?_
    try simp only [Act.put, List.getElem_toArray, List.getElem_cons_succ, List.getElem_cons_zero, List.setIfInBounds_toArray, List.set_cons_zero, List.set_cons_succ]
    refine wpAnyH_take (i := 9) (v := ?_) rfl (by kernel_rfl) (by kernel_rfl) (by kernel_rfl) (fun _ _ _ h => h) (Or.inl ⟨by rfl, (by intro w' hSw; go_simp; first | done | with_reducible rfl)⟩) hH ?_
    try simp only [Act.put, List.getElem_toArray, List.getElem_cons_succ, List.getElem_cons_zero, List.setIfInBounds_toArray, List.set_cons_zero, List.set_cons_succ]
    refine wpAnyH_take (i := 10) (v := ?_) rfl (by kernel_rfl) (by kernel_rfl) (by kernel_rfl) (fun _ _ _ h => h) (Or.inl ⟨by rfl, (by intro w' hSw; go_simp; first | done | with_reducible rfl)⟩) hH ?_
    try simp only [Act.put, List.getElem_toArray, List.getElem_cons_succ, List.getElem_cons_zero, List.setIfInBounds_toArray, List.set_cons_zero, List.set_cons_succ]
    refine wpAnyH_ready (rs := [11]) (by kernel_rfl) (by simp) ?_
    refine AllReadyH.cons rfl (fun K hK => ?_) AllReadyH.nil
    rw [if_pos (by rfl)]
    have HZ3 : Hid (Rw W.drew (p + 1) 113 #[.int .i64 0, .slice none 0 0, .bool false]) := HZ.out
    refine wp_store_row 113 (.tmp 6) (.tmp 30) rfl (p + 1) #[.int .i64 (at_ : Nat), .slice Ac K0 cc, .bool false] rfl rfl 113 _ HZ3.out (by kernel_rfl) rfl (by simp [Value.oneCell']) ?_
    have HT4 : Hid (Turned (fun k => k = p + 1) W (W.drew.setRow (p + 1) #[.int .i64 (at_ : Nat), .slice Ac K0 cc, .bool false])) := ((Turned.refl (fun k => k = p + 1) W).drew).setRow (fun _ => rfl) _
    have HRZ := Lib.hid (HZ3.out.row #[.int .i64 (at_ : Nat), .slice Ac K0 cc, .bool false])
    refine hK.out _ _ HT4.out (fun hH => ?_)
    clear hK K
    refine wpAnyH_done (by kernel_rfl) ?_ _
    clear hH
    go_wp2
    try simp only [Act.put, List.getElem_toArray, List.getElem_cons_succ, List.getElem_cons_zero]
    refine bodyPost_ret (v := .agg #[.int .i64 (at_ : Nat), .slice Ac K0 cc, .bool false]) (results_cell_row rfl _ _ (p + 1) 113 #[.int .i64 (at_ : Nat), .slice Ac K0 cc, .bool false] (0, 0) _ rfl HRZ.out Tryz.underlying113 rfl (by kernel_rfl)) rfl ⟨rfl, ?_⟩
    have t1 := (Turned.of_below HBW.out).trans HT4.out (fun k _ (h : k = p + 1) => (by omega : p ≤ k))
    rw [hp]
    exact t1.below (by omega) (fun k h => h)
end Go.Proofs.YtmcbjcbnckpfkaaGreat
namespace Go.Proofs.YtmcbjcbnckpfkaaGreat
open Go.RowKit
set_option linter.unusedVariables false

section
variable {P : Program} {α : Type}
theorem step_append_m (w : World) {ops : Array Oper} {o : Oper} {a : Act} {K' : Act → World → Prop} {Q : Exit → Act → World → Prop} {E : Prop} (K : El P α) (hgd : o.guard = none) (s t : Operand)
    (ho : o.op = .call { callee := .builtin .append, args := #[s, t], argTypes := #[K.s, K.s] })
    (base : Nat) (v : Value) (hs : a.eval s = v) (l : List α) (hown : OwnL K w base v l) (x : Value) (hx0 : a.eval t = x) (B : Nat) (m : List α) (hx : Lv K w B x m) (hsz : (l.length + m.length) * K.bytes ≤ 140737488355328) (h63 : l.length + m.length ≤ maxLen) (hbase : base ≤ w.heap.size)
    (h : ∀ A c w', OwnL K w' base (.slice A (l ++ m).length c) (l ++ m) → w.grownBy w' v.ownBlock → Moved w v (.slice A (l ++ m).length c) → K' (a.put o.dst (.slice A (l ++ m).length c)) w') :
    if Region.wanted o (yielded ops a.tmps) = true then Oper.wp P o a w K' Q else E := by
  have hw : Region.wanted o (yielded ops a.tmps) = true := by simp [Region.wanted, hgd]
  rw [if_pos hw]
  obtain ⟨v', w', hr, hA, hG, hM⟩ := run_append_m w base v l hown o.type x B m hx hsz h63 hbase
  obtain ⟨A, c, rfl, _⟩ := hA.form_
  unfold Oper.wp execOp
  simp only [ho, resolve, invoke, builtin, Sem.run_bind, Sem.run_pure, Result.andThen_ok, List.map_toArray, List.map_cons, List.map_nil, hs, hx0, hr]
  exact h A c w' hA hG hM
theorem step_push_m (w : World) {ops : Array Oper} {o : Oper} {a : Act} {K' : Act → World → Prop} {Q : Exit → Act → World → Prop} {E : Prop} (K : El P α) (hgd : o.guard = none) (s t : Operand)
    (ho : o.op = .call { callee := .builtin .append, args := #[s, t], argTypes := #[K.s, K.s] })
    (base : Nat) (v : Value) (hs : a.eval s = v) (l : List α) (hown : OwnL K w base v l) (ht : a.eval t = .slice (some ⟨w.heap.size, 0, none⟩) 1 1) (x : α) (hx : K.ok x) (cs : Array Value) (hcs : cs = (K.enc x).toArray) (e : TypeId) (he : e = K.e) (hsz : (l.length + 1) * K.bytes ≤ 140737488355328) (h63 : l.length + 1 ≤ maxLen) (hbase : base ≤ w.heap.size)
    (h : ∀ A c w', OwnL K w' base (.slice A (l.length + 1) c) (l ++ [x]) → w.grownBy w' v.ownBlock → Moved w v (.slice A (l.length + 1) c) → K' (a.put o.dst (.slice A (l.length + 1) c)) w') :
    if Region.wanted o (yielded ops a.tmps) = true then Oper.wp P o a (w.alloc (.cells cs e)) K' Q else E := by
  subst hcs he
  refine step_append_m _ K hgd s t ho base v hs l (hown.alloc_ _) _ ht _ [x] (Lv.lit_ w hx) (by simpa using hsz) (by simpa using h63) (by simp; omega) fun A c w' h1 h2 h3 => ?_
  rw [List.length_append, List.length_singleton] at h1 h3 ⊢
  exact h A c w' h1 (grown_alloc h2) (fun k hk => (h3 k hk).imp id (fun h => by simp at h; omega))
end
end Go.Proofs.YtmcbjcbnckpfkaaGreat
namespace Go.Proofs.YtmcbjcbnckpfkaaGreat
open Go.RowKit
set_option linter.unusedVariables false
set_option maxHeartbeats 4000000 in
set_option maxRecDepth 100000 in
theorem pchanged_any (c : RawC) (x : RawX) (l m : List Nat) (rc : List RawC) (w : World) (B : Nat) (hrow : OwnL cK w 0 (slV x.row) rc) (hnow : OwnL yK w 0 (slV x.now) l) (hm : Lv yK w B (slV c.sl) m) (hB : B ≤ w.heap.size)
    (hap1 : Apart (slV x.row) (slV x.now)) (hap2 : 0 < m.length → Apart (slV c.sl) (slV x.now)) (hap3 : 0 < m.length → Apart (slV c.sl) (slV x.row)) (ha : c.at_ ≤ l.length) (hl : l.length ≤ 1099511627776) (hml : m.length ≤ 1099511627776) (hc : c.at_ ≤ 1048576) (hrl : rc.length ≤ 2199023255552) :
    Calls Tryz.prog 95 #[xV x, cV c] w (fun e w' => ∃ u v : Sl, e = .returned (xV ⟨x.sure, u, v⟩) ∧ OwnL cK w' 0 (slV u) (rc ++ [c]) ∧ OwnL yK w' 0 (slV v) (Sf.done l ⟨c.cut, c.at_, m⟩) ∧
      Turned (fun k => (slV x.row).ownBlock = some k ∨ (slV x.now).ownBlock = some k) w w' ∧ Moved w (slV x.row) (slV u) ∧ Moved w (slV x.now) (slV v) ∧ Apart (slV u) (slV v)) := by
  obtain ⟨at_, ⟨Ac, nc, cc⟩, cut⟩ := c
  obtain ⟨⟨A1, n1, c1⟩, ⟨A2, n2, c2⟩, ⟨A3, n3, c3⟩⟩ := x
  simp only [slV] at hrow hnow hm hap1 hap2 hap3 ⊢
  simp only at ha hc
  change Calls _ _ #[.agg #[.slice A1 n1 c1, .slice A2 n2 c2, .slice A3 n3 c3], .agg #[.int .i64 (at_ : Nat), .slice Ac nc cc, .bool cut]] w _
  obtain ⟨W, hW⟩ : ∃ W, ((w.alloc (.cells #[.slice A1 n1 c1, .slice A2 n2 c2, .slice A3 n3 c3] 87)).alloc (.cells #[.int .i64 (at_ : Nat), .slice Ac nc cc, .bool cut] 113)).alloc (.cells #[.slice none 0 0, .slice none 0 0, .slice none 0 0] 87) = W := ⟨_, rfl⟩
  have hWs : W.heap.size = w.heap.size + 3 := by rw [← hW]; simp
  have hW0 : W.heap[w.heap.size]? = some (.cells #[.slice A1 n1 c1, .slice A2 n2 c2, .slice A3 n3 c3] 87 (0, 0)) := by
    rw [← hW, heap_alloc_old _ _ (by simp; omega), heap_alloc_old _ _ (by simp)]; exact heap_alloc_new _ _
  have hW1 : W.heap[w.heap.size + 1]? = some (.cells #[.int .i64 (at_ : Nat), .slice Ac nc cc, .bool cut] 113 (0, 0)) := by
    rw [← hW, heap_alloc_old _ _ (by simp)]
    have := heap_alloc_new (w.alloc (.cells #[.slice A1 n1 c1, .slice A2 n2 c2, .slice A3 n3 c3] 87)) (.cells #[.int .i64 (at_ : Nat), .slice Ac nc cc, .bool cut] 113)
    simpa using this
  have hW2 : W.heap[w.heap.size + 2]? = some (.cells #[.slice none 0 0, .slice none 0 0, .slice none 0 0] 87 (0, 0)) := by
    rw [← hW]
    have := heap_alloc_new ((w.alloc (.cells #[.slice A1 n1 c1, .slice A2 n2 c2, .slice A3 n3 c3] 87)).alloc (.cells #[.int .i64 (at_ : Nat), .slice Ac nc cc, .bool cut] 113)) (.cells #[.slice none 0 0, .slice none 0 0, .slice none 0 0] 87)
    simpa using this
  have hb : Below w.heap.size w W := by rw [← hW]; exact (((Below.refl _ _).alloc (Nat.le_refl _) _).alloc (by simp) _).alloc (by simp; omega) _
  -- what stays
  have HF : Hid (∀ k, (Value.slice A2 n2 c2).ownBlock = some k ∨ (Value.slice A3 n3 c3).ownBlock = some k → k < w.heap.size) := fun k hk => hk.elim (fun h => (hrow.lt_ k h).2) (fun h => (hnow.lt_ k h).2)
  obtain ⟨F, hF⟩ : ∃ F : Nat → Prop, (fun k => (Value.slice A2 n2 c2).ownBlock = some k ∨ (Value.slice A3 n3 c3).ownBlock = some k) = F := ⟨_, rfl⟩
  have HF2 : Hid (∀ k, (Value.slice A2 n2 c2).ownBlock = some k → F k) := fun k hk => by rw [← hF]; exact .inl hk
  have HF3 : Hid (∀ k, (Value.slice A3 n3 c3).ownBlock = some k → F k) := fun k hk => by rw [← hF]; exact .inr hk
  have HFL : Hid (∀ k, F k → k < w.heap.size) := fun k hk => by rw [← hF] at hk; exact HF.out k hk
  obtain ⟨G, hG⟩ : ∃ G : Nat → Prop, (fun k => F k ∨ k = w.heap.size + 2) = G := ⟨_, rfl⟩
  have HGF : Hid (∀ k, F k → G k) := fun k hk => by rw [← hG]; exact .inl hk
  have HG2 : Hid (G (w.heap.size + 2)) := by rw [← hG]; exact .inr rfl
  have HGL : Hid (∀ k, G k → k < w.heap.size ∨ k = w.heap.size + 2) := fun k hk => by rw [← hG] at hk; exact hk.imp (HFL.out k) id
  have hcell : ∀ (p : Nat) (cs : Array Value) (T : TypeId), w.heap.size ≤ p → p < w.heap.size + 2 → W.heap[p]? = some (.cells cs T (0, 0)) → ∀ w', Turned G W w' → w'.heap[p]? = some (.cells cs T (0, 0)) := fun p cs T hp hp2 hh w' ht => by
    refine (ht.block p (Array.getElem?_eq_some_iff.1 hh).1 (fun hf => ?_)).trans hh
    have := HGL.out p hf
    omega
  have HX : Hid (∀ w', Turned G W w' → w'.cell? ⟨w.heap.size, 0, none⟩ = some (.slice A1 n1 c1) ∧ w'.cell? ⟨w.heap.size, 1, none⟩ = some (.slice A2 n2 c2) ∧ w'.cell? ⟨w.heap.size, 2, none⟩ = some (.slice A3 n3 c3)) := fun w' ht => by
    have h := hcell _ _ _ (Nat.le_refl _) (by omega) hW0 w' ht
    exact ⟨by rw [cell_of_row _ _ 0 _ _ _ h]; rfl, by rw [cell_of_row _ _ 1 _ _ _ h]; rfl, by rw [cell_of_row _ _ 2 _ _ _ h]; rfl⟩
  have HY : Hid (∀ w', Turned G W w' → w'.cell? ⟨w.heap.size + 1, 0, none⟩ = some (.int .i64 (at_ : Nat)) ∧ w'.cell? ⟨w.heap.size + 1, 1, none⟩ = some (.slice Ac nc cc) ∧ w'.cell? ⟨w.heap.size + 1, 2, none⟩ = some (.bool cut)) := fun w' ht => by
    have h := hcell _ _ _ (by omega) (by omega) hW1 w' ht
    exact ⟨by rw [cell_of_row _ _ 0 _ _ _ h]; rfl, by rw [cell_of_row _ _ 1 _ _ _ h]; rfl, by rw [cell_of_row _ _ 2 _ _ _ h]; rfl⟩
  have HZ : Hid (∀ w', Turned F W w' → w'.heap[w.heap.size + 2]? = some (.cells #[.slice none 0 0, .slice none 0 0, .slice none 0 0] 87 (0, 0))) := fun w' ht => (ht.block _ (by omega) (fun hf => by have := HFL.out _ hf; omega)).trans hW2
  -- the append
  have hrow1 : OwnL cK W.drew 0 (.slice A2 n2 c2) rc := (hrow.below_ hb (Nat.le_refl _)).drew_
  have hnow1 : OwnL yK W.drew 0 (.slice A3 n3 c3) l := (hnow.below_ hb (Nat.le_refl _)).drew_
  have hm1 : Lv yK W.drew B (.slice Ac nc cc) m := (hm.below_ hb hB).drew_
  have hok : cK.ok ⟨at_, ⟨Ac, nc, cc⟩, cut⟩ := hc
  obtain ⟨W1, hW1e⟩ : ∃ W1, W.drew.alloc (.cells #[.int .i64 (at_ : Nat), .slice Ac nc cc, .bool cut] 113) = W1 := ⟨_, rfl⟩
  have hlit := Lv.lit_ (K := cK) W.drew hok
  change Lv cK (W.drew.alloc (.cells #[.int .i64 (at_ : Nat), .slice Ac nc cc, .bool cut] 113)) _ _ _ at hlit
  have hT0 : Turned (fun _ => False) W.drew W1 := by rw [← hW1e]; exact (Turned.refl _ _).alloc _
  have hT1 : Turned F W.drew W1 := hT0.mono fun _ _ h => h.elim
  rw [hW1e] at hlit
  have hrow2 : OwnL cK W1 0 (.slice A2 n2 c2) rc := by rw [← hW1e]; exact hrow1.alloc_ _
  have hnow2 : OwnL yK W1 0 (.slice A3 n3 c3) l := hnow1.turned_ hT0 (fun k hk hf => hf)
  have hm2 : Lv yK W1 B (.slice Ac nc cc) m := hm1.turnedB_ hT0 (fun hp k hk hf => hf)
  obtain ⟨at1, hat1⟩ : ∃ D, Sf.done l ⟨cut, at_, m⟩ = D := ⟨_, rfl⟩
  have HDO : Hid (∀ W2, OwnL yK W2 0 (.slice A3 n3 c3) l → Lv yK W2 B (.slice Ac nc cc) m → B ≤ W2.heap.size → Calls Tryz.prog 90 #[.agg #[.int .i64 (at_ : Nat), .slice Ac nc cc, .bool cut], .slice A3 n3 c3] W2 (IsDone (.slice A3 n3 c3) 0 at1 W2)) := fun W2 h1 h2 h3 => by
    rw [← hat1]
    exact pcdo_any ⟨at_, ⟨Ac, nc, cc⟩, cut⟩ (.slice A3 n3 c3) l 0 B m W2 h1 h2 hap2 ha hl hml (Nat.zero_le _) h3
  rw [hat1]
  have HLIT := Lib.hid hlit
  have HROW := Lib.hid hrow2
  have HNOW := Lib.hid hnow2
  have HMM := Lib.hid hm2
  have HAP := Lib.hid hap1
  have HAP3 := Lib.hid hap3
  have HWS := Lib.hid hWs
  have HBW := Lib.hid hb
  have HRL := Lib.hid hrl
  have HS0 : Hid (Turned F W W.drew) := (Turned.refl F W).drew
  have HSL : Hid (Turned F W W1) := ((Turned.refl F W).drew).trans hT1 (fun _ _ h => h)
  clear hrow hnow hm hap1 hap2 hap3 hcell hrow1 hnow1 hm1 hlit hT1 hT0 hrow2 hnow2 hm2 hb hWs hW0 hW1 hW2 hok hat1
  go_enter Tryz.func95, Tryz.ntmps95
  go_wp2
  refine wp_region_held_drew (S := fun w' => Turned G W w') (by kernel_rfl) (HS0.out.mono fun k _ hk => HGF.out k hk) (fun hH => ?_)
  refine wpAnyH_take (i := 0) (v := ?_) rfl (by kernel_rfl) (by kernel_rfl) (by kernel_rfl) (fun _ _ _ h => h) (Or.inl ⟨by rfl, (by intro w' hSw; go_simp; first | done | with_reducible rfl)⟩) hH ?_
  try simp only [Act.put, List.getElem_toArray, List.getElem_cons_zero, List.setIfInBounds_toArray, List.set_cons_zero, List.set_cons_succ]
  refine wpAnyH_take (i := 1) (v := ?_) rfl (by kernel_rfl) (by kernel_rfl) (by kernel_rfl) (fun _ _ _ h => h) (Or.inl ⟨by rfl, (by intro w' hSw; obtain ⟨s0, s1, s2⟩ := HX.out w' hSw; go_simp; first | done | with_reducible rfl)⟩) hH ?_
  try simp only [Act.put, List.getElem_toArray, List.getElem_cons_succ, List.getElem_cons_zero, List.setIfInBounds_toArray, List.set_cons_zero, List.set_cons_succ]
  refine wpAnyH_take (i := 2) (v := ?_) rfl (by kernel_rfl) (by kernel_rfl) (by kernel_rfl) (fun _ _ _ h => h) (Or.inl ⟨by rfl, (by intro w' hSw; go_simp; first | done | with_reducible rfl)⟩) hH ?_
  try simp only [Act.put, List.getElem_toArray, List.getElem_cons_succ, List.getElem_cons_zero, List.setIfInBounds_toArray, List.set_cons_zero, List.set_cons_succ]
  refine wpAnyH_take (i := 3) (v := ?_) rfl (by kernel_rfl) (by kernel_rfl) (by kernel_rfl) (fun _ _ _ h => h) (Or.inl ⟨by rfl, (by intro w' hSw; obtain ⟨s0, s1, s2⟩ := HX.out w' hSw; go_simp; first | done | with_reducible rfl)⟩) hH ?_
  try simp only [Act.put, List.getElem_toArray, List.getElem_cons_succ, List.getElem_cons_zero, List.setIfInBounds_toArray, List.set_cons_zero, List.set_cons_succ]
  refine wpAnyH_take (i := 4) (v := ?_) rfl (by kernel_rfl) (by kernel_rfl) (by kernel_rfl) (fun _ _ _ h => h) (Or.inl ⟨by rfl, (by intro w' hSw; obtain ⟨s0, s1, s2⟩ := HY.out w' hSw; go_simp; first | done | with_reducible rfl)⟩) hH ?_
  try simp only [Act.put, List.getElem_toArray, List.getElem_cons_succ, List.getElem_cons_zero, List.setIfInBounds_toArray, List.set_cons_zero, List.set_cons_succ]
  refine wpAnyH_take (i := 7) (v := ?_) rfl (by kernel_rfl) (by kernel_rfl) (by kernel_rfl) (fun _ _ _ h => h) (Or.inl ⟨by rfl, (by intro w' hSw; obtain ⟨s0, s1, s2⟩ := HY.out w' hSw; go_simp; first | done | with_reducible rfl)⟩) hH ?_
  try simp only [Act.put, List.getElem_toArray, List.getElem_cons_succ, List.getElem_cons_zero, List.setIfInBounds_toArray, List.set_cons_zero, List.set_cons_succ]
  refine wpAnyH_take (i := 8) (v := ?_) rfl (by kernel_rfl) (by kernel_rfl) (by kernel_rfl) (fun _ _ _ h => h) (Or.inl ⟨by rfl, (by intro w' hSw; go_simp; first | done | with_reducible rfl)⟩) hH ?_
  try simp only [Act.put, List.getElem_toArray, List.getElem_cons_succ, List.getElem_cons_zero, List.setIfInBounds_toArray, List.set_cons_zero, List.set_cons_succ]
  refine wpAnyH_take (i := 9) (v := ?_) rfl (by kernel_rfl) (by kernel_rfl) (by kernel_rfl) (fun _ _ _ h => h) (Or.inl ⟨by rfl, (by intro w' hSw; obtain ⟨s0, s1, s2⟩ := HX.out w' hSw; go_simp; first | done | with_reducible rfl)⟩) hH ?_
  try simp only [Act.put, List.getElem_toArray, List.getElem_cons_succ, List.getElem_cons_zero, List.setIfInBounds_toArray, List.set_cons_zero, List.set_cons_succ]
  refine wpAnyH_ready (rs := [5]) (by kernel_rfl) (by simp) ?_
  refine AllReadyH.cons rfl (fun K hK => ?_) AllReadyH.nil
  go_simp
  refine hK.out _ _ (HSL.out.mono fun k _ hk => HGF.out k hk) (fun hH => ?_)
  clear hK K
  try simp only [Act.put, List.getElem_toArray, List.getElem_cons_succ, List.getElem_cons_zero, List.setIfInBounds_toArray, List.set_cons_zero, List.set_cons_succ]
  refine wpAnyH_ready (rs := [6]) (by kernel_rfl) (by simp) ?_
  refine AllReadyH.cons rfl (fun K hK => ?_) AllReadyH.nil
  refine step_append_m W1 cK rfl _ _ rfl 0 _ rfl rc HROW.out _ rfl _ _ HLIT.out (by show _ * 40 ≤ _; have := HRL.out; simp; omega) (by have := HRL.out; simp only [maxLen, List.length_singleton]; omega) (Nat.zero_le _) ?_
  intro Au cu W2 hown hg2 hmv2
  have hT2 : Turned F W1 W2 := (Turned.of_grown hg2).mono fun k _ hk => HF2.out k hk
  have hT12 : Turned F W W2 := HSL.out.trans hT2 (fun _ _ h => h)
  have hnow2 : OwnL yK W2 0 (.slice A3 n3 c3) l := HNOW.out.turned_ (Turned.of_grown hg2) (fun k hk e => HAP.out k e hk)
  have hm2 : Lv yK W2 B (.slice Ac nc cc) m := HMM.out.turnedB_ (Turned.of_grown hg2) (fun hp k hk e => HAP3.out hp k hk e)
  have CD := Lib.hid (HDO.out W2 hnow2 hm2 (by have := hT12.size; have := HWS.out; omega))
  have HT12 := Lib.hid hT12
  have HOW := Lib.hid hown
  have HMV : Hid (Moved w (.slice A2 n2 c2) (.slice Au (rc ++ [(⟨at_, ⟨Ac, nc, cc⟩, cut⟩ : RawC)]).length cu)) := fun k hk => (hmv2 k hk).imp id (fun h => by have := HSL.out.size; have := HWS.out; omega)
  have HN2 := Lib.hid hnow2
  refine hK.out _ _ (HT12.out.mono fun k _ hk => HGF.out k hk) (fun hH => ?_)
  clear hK K hW1e hown hg2 hmv2 hT2 hT12 hnow2 hm2 HDO HLIT HROW HNOW HMM
  try simp only [Act.put, List.getElem_toArray, List.getElem_cons_succ, List.getElem_cons_zero, List.setIfInBounds_toArray, List.set_cons_zero, List.set_cons_succ]
  refine wpAnyH_ready (rs := [10]) (by kernel_rfl) (by simp) ?_
  refine AllReadyH.cons rfl (fun K hK => ?_) AllReadyH.nil
  go_simp
  refine CD.out.mono ?_
  rintro e W3 ⟨Av, cv, rfl, hd, hg3, hmv3⟩
  have hT3 : Turned F W2 W3 := (Turned.of_grown hg3).mono fun k _ hk => HF3.out k hk
  have HT3 := Lib.hid (HT12.out.trans hT3 (fun _ _ h => h))
  have HOW3 : Hid (OwnL cK W3 0 (.slice Au (rc ++ [(⟨at_, ⟨Ac, nc, cc⟩, cut⟩ : RawC)]).length cu) (rc ++ [⟨at_, ⟨Ac, nc, cc⟩, cut⟩])) := HOW.out.turned_ (Turned.of_grown hg3) (fun k hk e => by
    rcases HMV.out k hk with h | h
    · exact HAP.out k h e
    · have h3 := HFL.out k (HF3.out k e)
      omega)
  have HD3 := Lib.hid hd
  have HM3 : Hid (Moved w (.slice A3 n3 c3) (.slice Av at1.length cv)) := fun k hk => (hmv3 k hk).imp id (fun h => by have := HT12.out.size; have := HWS.out; omega)
  have HA3 : Hid (Apart (.slice Au (rc ++ [(⟨at_, ⟨Ac, nc, cc⟩, cut⟩ : RawC)]).length cu) (.slice Av at1.length cv)) := fun k hk hk2 => by
    rcases hmv3 k hk2 with h | h
    · rcases HMV.out k hk with h2 | h2
      · exact HAP.out k h2 h
      · have h3 := HFL.out k (HF3.out k h)
        omega
    · have := (HOW.out.lt_ k hk).2
      omega
  have HZ3 : Hid (Rw W3 (w.heap.size + 2) 87 #[.slice none 0 0, .slice none 0 0, .slice none 0 0]) := HZ.out W3 HT3.out
  refine hK.out _ _ (HT3.out.mono fun k _ hk => HGF.out k hk) (fun hH => ?_)
  clear hK K CD hd hg3 hmv3 hT3
  have hnu : (rc ++ [(⟨at_, ⟨Ac, nc, cc⟩, cut⟩ : RawC)]).length = rc.length + 1 := by simp
  rw [hnu] at HOW3 HMV HA3
  clear hnu
  try simp only [Act.put, List.getElem_toArray, List.getElem_cons_succ, List.getElem_cons_zero, List.setIfInBounds_toArray, List.set_cons_zero, List.set_cons_succ]
  refine wpAnyH_take (i := 11) (v := ?_) rfl (by kernel_rfl) (by kernel_rfl) (by kernel_rfl) (fun _ _ _ h => h) (Or.inl ⟨by rfl, (by intro w' hSw; go_simp; first | done | with_reducible rfl)⟩) hH ?_
  try simp only [Act.put, List.getElem_toArray, List.getElem_cons_succ, List.getElem_cons_zero, List.setIfInBounds_toArray, List.set_cons_zero, List.set_cons_succ]
  refine wpAnyH_ready (rs := [12]) (by kernel_rfl) (by simp) ?_
  refine AllReadyH.cons rfl (fun K hK => ?_) AllReadyH.nil
  rw [if_pos (by rfl)]
  refine wp_store_row 87 (.tmp 4) (.tmp 16) rfl (w.heap.size + 2) #[.slice A1 n1 c1, .slice Au (rc.length + 1) cu, .slice Av at1.length cv] rfl rfl 87 _ HZ3.out (by kernel_rfl) rfl (by simp [Value.oneCell']) ?_
  have HT4 : Hid (Turned G W (W3.setRow (w.heap.size + 2) #[.slice A1 n1 c1, .slice Au (rc.length + 1) cu, .slice Av at1.length cv])) := (HT3.out.mono fun k _ hk => HGF.out k hk).setRow (fun _ => HG2.out) _
  have HRZ := Lib.hid (HZ3.out.row #[.slice A1 n1 c1, .slice Au (rc.length + 1) cu, .slice Av at1.length cv])
  refine hK.out _ _ HT4.out (fun hH => ?_)
  clear hK K
  refine wpAnyH_done (by kernel_rfl) ?_ _
  clear hH
  go_wp2
  try simp only [Act.put, List.getElem_toArray, List.getElem_cons_succ, List.getElem_cons_zero]
  have hoff : ∀ k, k ≠ w.heap.size + 2 → (W3.setRow (w.heap.size + 2) #[.slice A1 n1 c1, .slice Au (rc.length + 1) cu, .slice Av at1.length cv]).heap[k]? = W3.heap[k]? := fun k hk => setRow_other _ _ _ _ hk
  refine bodyPost_ret (v := .agg #[.slice A1 n1 c1, .slice Au (rc.length + 1) cu, .slice Av at1.length cv]) (results_cell_row rfl _ _ (w.heap.size + 2) 87 #[.slice A1 n1 c1, .slice Au (rc.length + 1) cu, .slice Av at1.length cv] (0, 0) _ rfl HRZ.out Tryz.underlying87 rfl (by kernel_rfl)) rfl
    ⟨⟨Au, rc.length + 1, cu⟩, ⟨Av, at1.length, cv⟩, rfl, HOW3.out.of_block fun k hk => hoff k ?_, HD3.out.of_block fun k hk => hoff k ?_, ?_, HMV.out, HM3.out, HA3.out⟩
  · rintro rfl
    exact own_ne HOW3.out HZ3.out (by decide) hk
  · rintro rfl
    exact own_ne HD3.out HZ3.out (by decide) hk
  · rw [hF]
    exact (((Turned.of_below HBW.out).mono (G := F) (fun k hk h => absurd hk (by omega))).trans HT3.out (fun _ _ h => h)).setRow (fun h => by omega) _
end Go.Proofs.YtmcbjcbnckpfkaaGreat
