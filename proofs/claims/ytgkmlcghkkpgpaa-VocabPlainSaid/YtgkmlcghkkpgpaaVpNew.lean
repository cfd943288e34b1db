/-
  vocab.newSeen.
-/
import Derived.Test.YtgkmlcghkkpgpaaVpMem
namespace Go.Proofs.Ytgkmlcghkkpgpaa
open Go.RowKit Go.Maps
set_option linter.unusedVariables false

theorem run_makeMap_hint {t k e : TypeId} (ht : Try.prog.underlying t = some (.map k e)) (q : IntKind) (n : Int) (w : World) : (Instr.makeMap t (some (.int q n))).run Try.prog w = .ok (.map (some w.heap.size)) (w.alloc (.map #[] 0)) := by
  simp [Instr.makeMap, run_underlying ht, asInt, asIntOf, Result.andThen]
theorem run_make_eq {P : Program} {α : Type} (K : El P α) (kl kc : IntKind) (m n : Nat) (hmn : m ≤ n) (hby : K.bytes * n ≤ 281474976710656) (h63 : n ≤ maxLen) (w : World) :
    (Instr.makeSlice K.s (.int kl (m : Int)) (.int kc (n : Int))).run P w = .ok (.slice (some ⟨w.heap.size, 0, none⟩) m n) (w.alloc (.cells (K.flat (List.replicate n K.z)).toArray K.e)) := by
  obtain ⟨i0, hi, hz0, hz1, hz2⟩ := info_parts K.info
  have h63' : (n : Int) ≤ 9223372036854775807 := by simp only [maxLen] at h63; omega
  have hb' : (i0.bytes : Int) * (n : Int) ≤ 281474976710656 := by
    rw [hz2]
    have h : ((K.bytes * n : Nat) : Int) ≤ 281474976710656 := by omega
    rwa [Int.natCast_mul] at h
  have hr := run_make (P := P) w K.s K.e i0 _ K.under hi hz0 kl kc m n (by omega) (by omega) hb' h63'
  simp only [Int.toNat_natCast] at hr
  rw [hr, hz1, made_cells]
theorem IsMp.fresh {P : Program} {κ β : Type} (K : MpK P κ β) {w' : World} {b : Nat} (h : w'.heap[b]? = some (.map #[] 0)) : IsMp K w' b 0 (fun _ => none) := by
  obtain ⟨D, ⟨es, clock, hb, F, hs, hD⟩, hx⟩ := IsMp.made K w'
  rw [heap_alloc_new] at hb
  cases hb
  exact ⟨D, ⟨#[], 0, h, F, hs, hD⟩, hx⟩
theorem zero_seen (b1 b2 : Nat) (v : Value) : ((Try.zeroCells80.setIfInBounds 256 (.map (some b1))).setIfInBounds 257 (.map (some b2))).setIfInBounds 258 v = (seenC (List.replicate 256 false) b1 b2 v).toArray := by
  have h : Try.zeroCells80 = (List.replicate 256 (Value.bool false) ++ [Value.map none, Value.map none, Value.slice none 0 0]).toArray := by kernel_rfl
  rw [h, List.setIfInBounds_toArray, List.setIfInBounds_toArray, List.setIfInBounds_toArray]
  refine congrArg List.toArray ?_
  unfold seenC
  rw [List.map_replicate]
  have hl : (List.replicate 256 (Value.bool false)).length = 256 := List.length_replicate
  generalize List.replicate 256 (Value.bool false) = l at hl ⊢
  rw [List.set_append_right _ _ (by omega), List.set_append_right _ _ (by omega), List.set_append_right _ _ (by omega), hl]
  rfl
theorem seen_new {w' : World} {base sb b1 b2 g n : Nat} {cs : Array Value} (hcs : (iK.flat (List.replicate n iK.z)).toArray = cs) (hn : n ≤ 4096)
    (h0 : w'.heap[sb]? = some (.cells (((Try.zeroCells80.setIfInBounds 256 (.map (some b1))).setIfInBounds 257 (.map (some b2))).setIfInBounds 258 (.slice (some ⟨g, 0, none⟩) 0 n)) 80 (0, 0)))
    (h1 : w'.heap[b1]? = some (.map #[] 0)) (h2 : w'.heap[b2]? = some (.map #[] 0)) (h3 : w'.heap[g]? = some (.cells cs 3 (0, 0))) (l0 : base ≤ sb) (l1 : base ≤ b1) (l2 : base ≤ b2) (l3 : base ≤ g) (d12 : b1 ≠ b2) (dg : g ≠ sb) : SeenD w' sb base [] := by
  rw [zero_seen] at h0
  have e1 : Vo.inR [] = fun _ => none := by funext r; simp [Vo.inR]
  have e2 : Vo.inP [] = fun _ => none := by funext r; simp [Vo.inP]
  have e3 : Vo.bits [] = List.replicate 256 false := by decide +kernel
  refine ⟨b1, b2, .slice (some ⟨g, 0, none⟩) 0 n, ?_⟩
  rw [e1, e2, e3]
  refine ⟨h0, List.length_replicate, ?_, .fresh mpR h1, .fresh mpP h2, fun e => dg (Option.some.inj e), d12, l0, l1, l2⟩
  refine ⟨fun x hx => (by cases hx), .inr ⟨g, List.replicate n iK.z, by simp [Vo.sizes, Vo.texts], l3, fun y hy => by rw [List.eq_of_mem_replicate hy]; exact iK.okz, by simp [Vo.sizes, Vo.texts, maxLen] <;> omega, ?_⟩⟩
  show w'.heap[g]? = some (.cells (iK.flat ([] ++ List.replicate n iK.z)).toArray _ _)
  rw [List.nil_append, hcs]
  exact h3
section
variable (w : World) (a b c d : Obj)
theorem four_a : ((((w.alloc a).alloc b).alloc c).alloc d).drew.heap[w.heap.size]? = some a := by
  show ((((w.alloc a).alloc b).alloc c).alloc d).heap[w.heap.size]? = some a
  rw [heap_alloc_old _ _ (by simp <;> omega), heap_alloc_old _ _ (by simp <;> omega), heap_alloc_old _ _ (by simp)]
  exact heap_alloc_new w a
theorem four_b : ((((w.alloc a).alloc b).alloc c).alloc d).drew.heap[w.heap.size + 1]? = some b := by
  show ((((w.alloc a).alloc b).alloc c).alloc d).heap[w.heap.size + 1]? = some b
  rw [heap_alloc_old _ _ (by simp <;> omega), heap_alloc_old _ _ (by simp)]
  have := heap_alloc_new (w.alloc a) b
  simpa using this
theorem four_c : ((((w.alloc a).alloc b).alloc c).alloc d).drew.heap[w.heap.size + 1 + 1]? = some c := by
  show ((((w.alloc a).alloc b).alloc c).alloc d).heap[w.heap.size + 1 + 1]? = some c
  rw [heap_alloc_old _ _ (by simp)]
  have := heap_alloc_new ((w.alloc a).alloc b) c
  simpa using this
theorem four_d : ((((w.alloc a).alloc b).alloc c).alloc d).drew.heap[w.heap.size + 1 + 1 + 1]? = some d := by
  show ((((w.alloc a).alloc b).alloc c).alloc d).heap[w.heap.size + 1 + 1 + 1]? = some d
  have := heap_alloc_new (((w.alloc a).alloc b).alloc c) d
  simpa using this
theorem four_below : Below w.heap.size w ((((w.alloc a).alloc b).alloc c).alloc d).drew :=
  (((((Below.refl _ _).alloc (Nat.le_refl _) _).alloc (by simp) _).alloc (by simp <;> omega) _).alloc (by simp <;> omega) _).drew
end

set_option maxHeartbeats 4000000 in
theorem pnewSeen_any (w : World) (n : Nat) (hn : n ≤ 4096) :
    Calls Try.prog 36 #[.int .i64 (n : Nat)] w (fun e w' => ∃ sb, e = .returned (.pointer (some ⟨sb, 0, none⟩)) ∧ SeenD w' sb w.heap.size [] ∧ Below w.heap.size w w') := by
  have hm1 := fun q n w => run_makeMap_hint Try.underlying76 q n w
  have hm2 := fun q n w => run_makeMap_hint Try.underlying77 q n w
  have hm3 := fun w => run_make_eq (P := Try.prog) iK .i64 .i64 0 n (Nat.zero_le _) (by show 8 * n ≤ _; omega) (by simp only [maxLen]; omega) w
  obtain ⟨cs, hcs⟩ : ∃ cs, (iK.flat (List.replicate n iK.z)).toArray = cs := ⟨_, rfl⟩
  rw [hcs] at hm3
  change ∀ w, (Instr.makeSlice 47 (.int .i64 0) (.int .i64 (n : Nat))).run Try.prog w = .ok (.slice (some ⟨w.heap.size, 0, none⟩) 0 n) (w.alloc (.cells cs 3)) at hm3
  go_enter Try.func36, Try.ntmps36
  go_wp2
  all_goals go_region
  all_goals go_wp2
  all_goals go_ret
  all_goals exact ⟨_, rfl, seen_new hcs hn (four_d _ _ _ _ _) (by first | exact four_a _ _ _ _ _ | exact four_b _ _ _ _ _ | exact four_c _ _ _ _ _) (by first | exact four_a _ _ _ _ _ | exact four_b _ _ _ _ _ | exact four_c _ _ _ _ _) (by first | exact four_a _ _ _ _ _ | exact four_b _ _ _ _ _ | exact four_c _ _ _ _ _) (by omega) (by omega) (by omega) (by omega) (by omega) (by omega), four_below _ _ _ _ _⟩
end Go.Proofs.Ytgkmlcghkkpgpaa
