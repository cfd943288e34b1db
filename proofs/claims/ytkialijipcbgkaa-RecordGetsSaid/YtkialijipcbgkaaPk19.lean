/-
  BqNewM: bpe.newRow's mathematics: a row of tokens between two that are none; the places ahead and behind.
  BqWait: bpe.row's wait.
  BqPut: bpe.row's put.
  BqStep: bpe.row's step.
-/
import Derived.Test.YtkialijipcbgkaaPk18
import Derived.Laws.CopyOwn
import Derived.Deep.LoopGhost
namespace Go.Proofs.Ytkialijipcbgkaa
open Go.RowKit Go.Maps
set_option linter.unusedVariables false

namespace Bp
/-- The places ahead, the places behind, as far as the first k are laid. -/
def aTo : Nat → List Int
  | 0 => List.replicate 4098 0
  | k + 1 => (aTo k).set (k + 1) (k : Int)
def nTo : Nat → List Int
  | 0 => List.replicate 4098 0
  | k + 1 => (nTo k).set k ((k + 1 : Nat) : Int)
theorem aTo_nil : aTo 0 = List.replicate 4098 0 := by rw [aTo]
theorem nTo_nil : nTo 0 = List.replicate 4098 0 := by rw [nTo]
theorem aTo_len : ∀ k, (aTo k).length = 4098
  | 0 => List.length_replicate
  | k + 1 => by rw [aTo, List.length_set]; exact aTo_len k
theorem nTo_len : ∀ k, (nTo k).length = 4098
  | 0 => List.length_replicate
  | k + 1 => by rw [nTo, List.length_set]; exact nTo_len k
theorem aTo_zero : ∀ k, (aTo k)[0]? = some 0
  | 0 => by unfold aTo; rw [List.getElem?_replicate, if_pos (by omega)]
  | k + 1 => by rw [aTo, List.getElem?_set_ne (by omega)]; exact aTo_zero k
theorem aTo_at : ∀ k i, i < k → k ≤ 4097 → (aTo k)[i + 1]? = some (i : Int)
  | 0, i, h, _ => by omega
  | k + 1, i, h, hk => by
    rw [aTo]
    by_cases e : i = k
    · subst e
      rw [List.getElem?_set_self (by rw [aTo_len]; omega)]
    · rw [List.getElem?_set_ne (by omega)]
      exact aTo_at k i (by omega) (by omega)
theorem nTo_at : ∀ k i, i < k → k ≤ 4098 → (nTo k)[i]? = some ((i + 1 : Nat) : Int)
  | 0, i, h, _ => by omega
  | k + 1, i, h, hk => by
    rw [nTo]
    by_cases e : i = k
    · subst e
      rw [List.getElem?_set_self (by rw [nTo_len]; omega)]
    · rw [List.getElem?_set_ne (by omega)]
      exact nTo_at k i (by omega) (by omega)
theorem nTo_rest : ∀ k i, k ≤ i → i < 4098 → (nTo k)[i]? = some 0
  | 0, i, _, h => by unfold nTo; rw [List.getElem?_replicate, if_pos h]
  | k + 1, i, h, hi => by
    rw [nTo, List.getElem?_set_ne (by omega)]
    exact nTo_rest k i (by omega) hi
/-- The tokens between two that are none. -/
def ends (n : Nat) : List Int := ((List.replicate 4098 0).set 0 (-1)).set (n + 1) (-1)
def toksOf (l : List Int) : List Int := (ends l.length).take 1 ++ (l ++ (ends l.length).drop (1 + l.length))
theorem ends_len (n : Nat) : (ends n).length = 4098 := by unfold ends; rw [List.length_set, List.length_set, List.length_replicate]
theorem ends_zero (n : Nat) : (ends n)[0]? = some (-1) := by
  unfold ends
  rw [List.getElem?_set_ne (by omega), List.getElem?_set_self (by rw [List.length_replicate]; omega)]
theorem ends_last {n : Nat} (h : n ≤ 4096) : (ends n)[n + 1]? = some (-1) := by
  unfold ends
  rw [List.getElem?_set_self (by rw [List.length_set, List.length_replicate]; omega)]
theorem ends_ok (n : Nat) : ∀ x ∈ ends n, I64 x := by
  intro x hx
  unfold ends at hx
  rcases List.mem_or_eq_of_mem_set hx with h | rfl
  · rcases List.mem_or_eq_of_mem_set h with h | rfl
    · rw [List.eq_of_mem_replicate h]; unfold I64; omega
    · unfold I64; omega
  · unfold I64; omega
section
variable {l : List Int}
theorem toksOf_len (h : l.length ≤ 4096) : (toksOf l).length = 4098 := by
  unfold toksOf
  rw [List.length_append, List.length_append, List.length_take, List.length_drop, ends_len]
  omega
theorem take_one : ((ends l.length).take 1).length = 1 := by rw [List.length_take, ends_len]; omega
theorem toksOf_zero : at_ (toksOf l) 0 = -1 := by
  refine at_of ?_
  unfold toksOf
  rw [List.getElem?_append_left (by rw [take_one]; omega), List.getElem?_take, if_pos (by omega)]
  exact ends_zero _
theorem toksOf_at (i : Nat) (x : Int) (h : l[i]? = some x) : at_ (toksOf l) (i + 1) = x := by
  refine at_of ?_
  unfold toksOf
  rw [List.getElem?_append_right (by rw [take_one]; omega), take_one, Nat.add_sub_cancel, List.getElem?_append_left (List.getElem?_eq_some_iff.1 h).1]
  exact h
theorem toksOf_last (h : l.length ≤ 4096) : at_ (toksOf l) (l.length + 1) = -1 := by
  refine at_of ?_
  unfold toksOf
  rw [List.getElem?_append_right (by rw [take_one]; omega), take_one, Nat.add_sub_cancel, List.getElem?_append_right (Nat.le_refl _), Nat.sub_self, List.getElem?_drop, Nat.add_zero, Nat.add_comm]
  exact ends_last h
theorem toksOf_ok (hl : ∀ x ∈ l, I64 x) : ∀ x ∈ toksOf l, I64 x := by
  intro x hx
  unfold toksOf at hx
  rcases List.mem_append.1 hx with h | h
  · exact ends_ok _ x (List.mem_of_mem_take h)
  · rcases List.mem_append.1 h with h | h
    · exact hl x h
    · exact ends_ok _ x (List.mem_of_mem_drop h)
end
end Bp

/-- A row of zeros, with its joins and its queue. -/
theorem zero_row (mb qb : Nat) : (Try.zeroCells121.setIfInBounds 12294 (.map (some mb))).setIfInBounds 12295 (.pointer (some ⟨qb, 0, none⟩)) = (rowC (List.replicate 4098 0) (List.replicate 4098 0) (List.replicate 4098 0) mb qb).toArray := by
  rw [zero_cells_row, List.setIfInBounds_toArray, List.setIfInBounds_toArray]
  refine congrArg List.toArray ?_
  unfold rowC
  rw [List.replicate_append_replicate, List.replicate_append_replicate, List.map_replicate]
  have hl : (List.replicate 12294 (Value.int .i64 0)).length = 12294 := List.length_replicate
  have he : (4098 + (4098 + 4098) : Nat) = 12294 := rfl
  rw [he]
  generalize List.replicate 12294 (Value.int .i64 0) = z at hl ⊢
  rw [List.set_append_right _ _ (by omega), List.set_append_right _ _ (by omega), hl]
  rfl
/-- The tokens are copied between the two. -/
theorem row_copy (l : List Int) (hl : l.length ≤ 4096) (A N : List Int) (mb qb : Nat) : splice (rowC (Bp.ends l.length) A N mb qb) 1 (l.map (Value.int .i64)) = rowC (Bp.toksOf l) A N mb qb := by
  have h4 := Bp.ends_len l.length
  unfold splice rowC Bp.toksOf
  rw [List.length_map, List.map_append, List.map_append (l₁ := (Bp.ends l.length).take 1 ++ _)]
  rw [List.append_assoc, List.append_assoc]
  rw [List.take_append_of_le_length (by rw [List.length_map]; omega), List.drop_append_of_le_length (by rw [List.length_map]; omega)]
  rw [List.map_append, List.map_append, List.map_take, List.map_append, List.map_drop]
  simp [List.append_assoc]
end Go.Proofs.Ytkialijipcbgkaa
namespace Go.Proofs.Ytkialijipcbgkaa
open Go.RowKit Go.Maps
set_option linter.unusedVariables false

/-- What joins are made of. -/
def JOk (J : Int → Int → Option (Int × Nat)) : Prop := ∀ x y t r, J x y = some (t, r) → I64 t ∧ r < 4294967296

set_option maxRecDepth 100000 in
set_option maxHeartbeats 2000000 in
theorem pwait_any {w : World} {rb base m : Nat} {J : Int → Int → Option (Int × Nat)} {T A N : List Int} {S : List Pr} (h : RowS w rb base J T A N S m) (hj : JOk J) (hb : base ≤ w.heap.size) {left right : Nat} (hl : left < 4098) (hr : right < 4098) (hN : N[left]? = some (right : Int)) (hm : m ≤ 4194304) :
    Calls Try.prog 85 #[.pointer (some ⟨rb, 0, none⟩), .int .i64 (left : Nat)] w (fun e w' => e = .returned (.tuple #[]) ∧ ∃ m', m' ≤ m + 1 ∧ RowS w' rb base J T A N (Bp.waitS J T S left right) m' ∧ Below base w w') := by
  obtain ⟨mb, qb, F, k, h1, h2, h3, h4, h5, h6, h7, h8⟩ := h
  obtain ⟨x, hx⟩ : ∃ x, T[left]? = some x := ⟨T[left]'(by rw [h1.lt]; exact hl), List.getElem?_eq_getElem (by rw [h1.lt]; exact hl)⟩
  obtain ⟨y, hy⟩ : ∃ y, T[right]? = some y := ⟨T[right]'(by rw [h1.lt]; exact hr), List.getElem?_eq_getElem (by rw [h1.lt]; exact hr)⟩
  have hxI := h1.ok x (List.mem_of_getElem? hx)
  have hyI := h1.ok y (List.mem_of_getElem? hy)
  have c0 := h1.behind_ hN
  have c1 := h1.tok_ hx
  have c2 := h1.tok_ hy
  have c3 := h1.map_
  have c4 := h1.queue_
  have hli : (left : Int) < 4098 := by omega
  have hri : (right : Int) < 4098 := by omega
  have hmlt := h2.lt_
  have hlk : ∀ w', w'.heap[mb]? = w.heap[mb]? → (Instr.lookup 109 (.map (some mb)) (.agg #[.int .i64 x, .int .i64 y]) true).run Try.prog w' = .ok (.tuple #[mpJ.val ((J x y).getD (0, 0)), .bool (J x y).isSome]) w' := fun w' hw => (h2.of_block hw).look_ok (x := (x, y)) ⟨i64_lit hxI, i64_lit hyI⟩
  have a1 : ∀ o : Obj, (w.alloc o).cell? ⟨rb, left, none⟩ = some (.int .i64 x) := fun o => ((h1.block_ (heap_alloc_old w o h1.lt_)).tok_ hx)
  have a2 : ∀ o : Obj, (w.alloc o).cell? ⟨rb, right, none⟩ = some (.int .i64 y) := fun o => ((h1.block_ (heap_alloc_old w o h1.lt_)).tok_ hy)
  obtain ⟨W1, hW1⟩ : ∃ W1, (w.alloc (.cells #[.int .i64 x, .int .i64 y] 113)).drew = W1 := ⟨_, rfl⟩
  obtain ⟨ba, hba⟩ : ∃ ba, w.heap.size = ba := ⟨_, rfl⟩
  have hB1 : Below ba w W1 := by rw [← hW1, ← hba]; exact ((Below.refl _ _).alloc (Nat.le_refl _) _).drew
  have hbox : W1.heap[ba]? = some (.cells #[.int .i64 x, .int .i64 y] 113 (0, 0)) := by rw [← hW1, ← hba]; exact heap_alloc_new w _
  have hba1 : ba < W1.heap.size := (Array.getElem?_eq_some_iff.1 hbox).1
  have b0 : W1.cell? ⟨ba, 0, none⟩ = some (.int .i64 x) := by rw [cell_of_row _ ba 0 _ _ _ hbox]; rfl
  have b1 : W1.cell? ⟨ba, 1, none⟩ = some (.int .i64 y) := by rw [cell_of_row _ ba 1 _ _ _ hbox]; rfl
  have hmap : W1.heap[mb]? = w.heap[mb]? := hB1.block mb (by omega)
  have g1 := h1.block_ (hB1.block rb (by rw [← hba]; exact h1.lt_))
  have d3 := g1.map_
  have d4 := g1.queue_
  have e3 : ∀ o : Obj, (W1.alloc o).cell? ⟨rb, 12294, none⟩ = some (.map (some mb)) := fun o => (g1.block_ (heap_alloc_old W1 o g1.lt_)).map_
  have e0 : ∀ o : Obj, (W1.alloc o).cell? ⟨ba, 0, none⟩ = some (.int .i64 x) := fun o => by rw [cell_of_row _ ba 0 _ _ _ ((heap_alloc_old W1 o hba1).trans hbox)]; rfl
  have e1 : ∀ o : Obj, (W1.alloc o).cell? ⟨ba, 1, none⟩ = some (.int .i64 y) := fun o => by rw [cell_of_row _ ba 1 _ _ _ ((heap_alloc_old W1 o hba1).trans hbox)]; rfl
  have k0 := hlk W1.drew hmap
  have k1 : ∀ o : Obj, _ := fun o => hlk (W1.alloc o).drew ((heap_alloc_old W1 o (by have := h2.lt_; omega)).trans hmap)
  have HQ := Lib.hid (h3.turned_ (Turned.of_below hB1) (fun j hj _ hk => by omega))
  have HR := Lib.hid g1
  have HM := Lib.hid (h2.of_block hmap)
  have HB1 := Lib.hid (hB1.mono (show base ≤ ba by omega))
  have HI : Hid (I64 x ∧ I64 y ∧ Bp.at_ T left = x ∧ Bp.at_ T right = y) := ⟨hxI, hyI, Bp.at_of hx, Bp.at_of hy⟩
  have HL : Hid (¬ F rb ∧ ¬ F mb ∧ base ≤ rb ∧ base ≤ mb ∧ (∀ j, F j → base ≤ j) ∧ base ≤ W1.heap.size) := ⟨h4, h5, h6, h7, h8, by omega⟩
  clear hB1 hbox hba1 hmap g1 hlk h1 h2 h3 h4 h5 h6 h7 h8 hmlt hxI hyI hx hy
  cases hjx : J x y with
  | none =>
    rw [hjx] at k0 k1
    have HX : Hid (Bp.waitS J T S left right = S) := by
      unfold Hid
      exact Bp.waitS_none (by rw [HI.out.2.2.1, HI.out.2.2.2]; exact hjx)
    simp only [Option.getD_none, Option.isSome_none, mpJ, mpTwo, Int.natCast_zero] at k0 k1
    clear hj
    go_enter Try.func85, Try.ntmps85
    go_wp2
    go_region
    clear hW1
    go_wp2
    go_region
    go_wp2
    refine bodyPost_end (results_none rfl _ _ _) rfl ?_
    refine ⟨rfl, m, by omega, ?_, (HB1.out.alloc HL.out.2.2.2.2.2 _).drew⟩
    rw [HX.out]
    refine RowS.to_ (w := W1) ⟨mb, qb, F, k, HR.out, HM.out, HQ.out, HL.out.1, HL.out.2.1, HL.out.2.2.1, HL.out.2.2.2.1, HL.out.2.2.2.2.1⟩ ?_
    exact ((Below.refl _ _).alloc (Nat.le_refl _) _).drew
  | some q =>
    obtain ⟨t, r⟩ := q
    rw [hjx] at k0 k1
    have HX : Hid (Bp.waitS J T S left right = Qu.ins Bp.ltP S ⟨x, y, left, right, t, r⟩) := by
      unfold Hid
      rw [Bp.waitS_some (t := t) (r := r) (by rw [HI.out.2.2.1, HI.out.2.2.2]; exact hjx), HI.out.2.2.1, HI.out.2.2.2]
    have HOk : Hid (PrOk ⟨x, y, left, right, t, r⟩) := ⟨HI.out.1, HI.out.2.1, by unfold I64; simp only; omega, by unfold I64; simp only; omega, (hj _ _ _ _ hjx).1, (hj _ _ _ _ hjx).2⟩
    simp only [Option.getD_some, Option.isSome_some, mpJ, mpTwo] at k0 k1
    obtain ⟨W2, hW2⟩ : ∃ W2, (W1.alloc (.cells #[.int .i64 t, .int .u32 (r : Nat)] 115)).drew = W2 := ⟨_, rfl⟩
    obtain ⟨bb, hbb⟩ : ∃ bb, W1.heap.size = bb := ⟨_, rfl⟩
    have hB2 : Below bb W1 W2 := by rw [← hW2, ← hbb]; exact ((Below.refl _ _).alloc (Nat.le_refl _) _).drew
    have hbox2 : W2.heap[bb]? = some (.cells #[.int .i64 t, .int .u32 (r : Nat)] 115 (0, 0)) := by rw [← hW2, ← hbb]; exact heap_alloc_new W1 _
    have v0 : W2.cell? ⟨bb, 0, none⟩ = some (.int .i64 t) := by rw [cell_of_row _ bb 0 _ _ _ hbox2]; rfl
    have v1 : W2.cell? ⟨bb, 1, none⟩ = some (.int .u32 (r : Nat)) := by rw [cell_of_row _ bb 1 _ _ _ hbox2]; rfl
    have u0 : W2.cell? ⟨ba, 0, none⟩ = some (.int .i64 x) := (hB2.cell (p := ⟨ba, 0, none⟩) (by rw [← hbb]; exact World.block_lt_of_cell? W1 _ b0)).trans b0
    have u1 : W2.cell? ⟨ba, 1, none⟩ = some (.int .i64 y) := (hB2.cell (p := ⟨ba, 1, none⟩) (by rw [← hbb]; exact World.block_lt_of_cell? W1 _ b1)).trans b1
    have hR2 := HR.out.block_ (hB2.block rb (by rw [← hbb]; exact HR.out.lt_))
    have u4 := hR2.queue_
    have HR2 := Lib.hid hR2
    have HM2 := Lib.hid (HM.out.of_block (hB2.block mb (by rw [← hbb]; exact HM.out.lt_)))
    have hQ2 := HQ.out.turned_ (Turned.of_below hB2) (fun j hj _ hk => by omega)
    have HB2 : Hid (Below base w W2) := HB1.out.trans (hB2.mono (by rw [← hbb]; exact HL.out.2.2.2.2.2))
    have HP : Hid (Calls Try.prog 100 #[.pointer (some ⟨qb, 0, none⟩), prV ⟨x, y, left, right, t, r⟩] W2.drew (fun e w' => e = .returned (.int .i64 0) ∧ ∃ F' : Nat → Prop, IsQP w' F' qb 84 #[] Bp.ltP (Qu.ins Bp.ltP S ⟨x, y, left, right, t, r⟩) (m + 1) ∧ Turned F W2.drew w' ∧ ∀ k, F' k → F k ∨ W2.drew.heap.size ≤ k)) :=
      ppushP (w := W2.drew) (hQ2.turned_ (w' := W2.drew) (F := F) (G := fun _ => False) ⟨rfl, rfl, rfl, Nat.le_refl _, fun _ _ _ => rfl⟩ (fun _ _ _ h => h)) Bp.ltP_order (less_pairs _ _) _ HOk.out hm
    unfold prV at HP
    have HBB : Hid (W1.heap.size = bb ∧ bb < W2.heap.size) := ⟨hbb, (Array.getElem?_eq_some_iff.1 hbox2).1⟩
    clear hbox2 hB2 hR2 hQ2 hj
    go_enter Try.func85, Try.ntmps85
    go_wp2
    go_region
    clear hW1
    go_wp2
    go_region
    clear hW2 e0 e1 e3 k0 k1 d3 d4 b0 b1 c0 c1 c2 c3 c4 a1 a2
    go_wp2
    go_still_tail 10, (by kernel_rfl)
    change wpList _ _ _ _ _ W2.drew
    go_wp2_with (fail)
    refine HP.out.mono ?_
    rintro e w3 ⟨rfl, F', hQ3, hT3, hF'⟩
    have HQ3 := Lib.hid hQ3
    have HT3 := Lib.hid hT3
    have HF3 := Lib.hid hF'
    clear hQ3 hT3 hF' HP
    go_wp2
    have hT := HT3.out
    have hT' : Turned F W2 w3 := ⟨hT.os, hT.tape, hT.output, hT.size, hT.block⟩
    have hF := HF3.out
    have hL := HL.out
    have hBB := HBB.out
    refine bodyPost_end (results_none rfl _ _ _) rfl ?_
    refine ⟨rfl, m + 1, Nat.le_refl _, ?_, HB2.out.trans (hT'.below (by omega) hL.2.2.2.2.1)⟩
    rw [HX.out]
    refine ⟨mb, qb, F', k, HR2.out.block_ (hT'.block rb HR2.out.lt_ hL.1), HM2.out.of_block (hT'.block mb HM2.out.lt_ hL.2.1), HQ3.out, fun h => ?_, fun h => ?_, hL.2.2.1, hL.2.2.2.1, fun j h => ?_⟩
    · rcases hF rb h with h | h
      · exact hL.1 h
      · have := HR2.out.lt_
        change W2.heap.size ≤ rb at h
        omega
    · rcases hF mb h with h | h
      · exact hL.2.1 h
      · have := HM2.out.lt_
        change W2.heap.size ≤ mb at h
        omega
    · rcases hF j h with h | h
      · exact hL.2.2.2.2.1 j h
      · change W2.heap.size ≤ j at h
        omega
end Go.Proofs.Ytkialijipcbgkaa
namespace Go.Proofs.Ytkialijipcbgkaa
open Go.RowKit Go.Maps
set_option linter.unusedVariables false

set_option maxRecDepth 100000 in
set_option maxHeartbeats 2000000 in
theorem pput_any {w : World} {rb base m : Nat} {J : Int → Int → Option (Int × Nat)} {T A N : List Int} {S : List Pr} (h : RowS w rb base J T A N S m) (hj : JOk J) (hb : base ≤ w.heap.size) {x y t : Int} {r a b c p : Nat} (hx : PrOk ⟨x, y, a, b, t, r⟩)
    (ha : a < 4098) (hbb : b < 4098) (hc : c < 4098) (hp : p < 4098) (hN : N[b]? = some (c : Int)) (hA : (A.set c (a : Int))[a]? = some (p : Int)) (hNp : (N.set a (c : Int))[p]? = some (a : Int)) (hNa : (N.set a (c : Int))[a]? = some (c : Int)) (hm : m + 1 ≤ 4194304) :
    Calls Try.prog 87 #[.pointer (some ⟨rb, 0, none⟩), prV ⟨x, y, a, b, t, r⟩] w (fun e w' => e = .returned (.tuple #[]) ∧ ∃ m', m' ≤ m + 2 ∧ RowS w' rb base J ((T.set a t).set b (-1)) (A.set c (a : Int)) (N.set a (c : Int)) (Bp.waitS J ((T.set a t).set b (-1)) (Bp.waitS J ((T.set a t).set b (-1)) S p a) a c) m' ∧ Below base w w') := by
  obtain ⟨T', hT'⟩ : ∃ T', (T.set a t).set b (-1) = T' := ⟨_, rfl⟩
  obtain ⟨A', hA'⟩ : ∃ A', A.set c (a : Int) = A' := ⟨_, rfl⟩
  obtain ⟨N', hN'⟩ : ∃ N', N.set a (c : Int) = N' := ⟨_, rfl⟩
  rw [hT', hA', hN']
  rw [hA'] at hA
  rw [hN'] at hNp hNa
  have HT' := Lib.hid hT'
  have HA' := Lib.hid hA'
  have HN' := Lib.hid hN'
  clear hT' hA' hN'
  obtain ⟨W1, hW1⟩ : ∃ W1, w.alloc (.cells #[.int .i64 x, .int .i64 y, .int .i64 (a : Nat), .int .i64 (b : Nat), .int .i64 t, .int .u32 (r : Nat)] 117) = W1 := ⟨_, rfl⟩
  obtain ⟨pb, hpb⟩ : ∃ pb, w.heap.size = pb := ⟨_, rfl⟩
  have hbox : W1.heap[pb]? = some (.cells #[.int .i64 x, .int .i64 y, .int .i64 (a : Nat), .int .i64 (b : Nat), .int .i64 t, .int .u32 (r : Nat)] 117 (0, 0)) := by rw [← hW1, ← hpb]; exact heap_alloc_new w _
  have hB1 : Below pb w W1 := by rw [← hW1, ← hpb]; exact (Below.refl _ _).alloc (Nat.le_refl _) _
  have hS1 := h.to_ (hB1.mono (by omega))
  have hlt := h.lt_
  have b2 : W1.cell? ⟨pb, 2, none⟩ = some (.int .i64 (a : Nat)) := by rw [cell_of_row _ pb 2 _ _ _ hbox]; rfl
  have b3 : W1.cell? ⟨pb, 3, none⟩ = some (.int .i64 (b : Nat)) := by rw [cell_of_row _ pb 3 _ _ _ hbox]; rfl
  have HB1 : Hid (Below base w W1) := hB1.mono (by omega)
  have HX : Hid (W1.heap[pb]? = some (.cells #[.int .i64 x, .int .i64 y, .int .i64 (a : Nat), .int .i64 (b : Nat), .int .i64 t, .int .u32 (r : Nat)] 117 (0, 0)) ∧ pb ≠ rb ∧ I64 t) := ⟨hbox, by omega, hx.2.2.2.2.1⟩
  have HS1 := Lib.hid hS1
  have HJ := Lib.hid hj
  have hai : (a : Int) < 4098 := by omega
  have hbi : (b : Int) < 4098 := by omega
  have hci : (c : Int) < 4098 := by omega
  unfold prV
  clear hbox hB1 hS1 hj h hx hlt
  go_enter Try.func87, Try.ntmps87
  go_wp2
  go_quiet (fail)
  generalize hW9 : W1.drewN _ = w9
  obtain ⟨mb, qb, F, k, h1, h2, h3, h4, h5, h6, h7, h8⟩ := HS1.out
  have g1 : RowQ w9 rb T A N mb qb := by rw [← hW9]; exact h1.block_ rfl
  have g2 : IsMp mpJ w9 mb k (fun x => J x.1 x.2) := by rw [← hW9]; exact h2.of_block rfl
  have g3 : IsQP w9 F qb 84 #[] Bp.ltP S m := by
    rw [← hW9]
    exact h3.turned_ (w' := W1.drewN _) (F := F) (G := fun _ => False) ⟨rfl, rfl, rfl, Nat.le_refl _, fun _ _ _ => rfl⟩ (fun _ _ _ h => h)
  have hB9 : Below base w w9 := by rw [← hW9]; exact below_drewN HB1.out _
  have hbox : w9.heap[pb]? = some (.cells #[.int .i64 x, .int .i64 y, .int .i64 (a : Nat), .int .i64 (b : Nat), .int .i64 t, .int .u32 (r : Nat)] 117 (0, 0)) := by rw [← hW9]; exact HX.out.1
  have b4 : w9.cell? ⟨pb, 4, none⟩ = some (.int .i64 t) := by rw [cell_of_row _ pb 4 _ _ _ hbox]; rfl
  have c0 := g1.behind_ hN
  obtain ⟨x1, hx1⟩ : ∃ x, T[a]? = some x := ⟨T[a]'(by rw [h1.lt]; exact ha), List.getElem?_eq_getElem (by rw [h1.lt]; exact ha)⟩
  obtain ⟨x2, hx2⟩ : ∃ x, T[b]? = some x := ⟨T[b]'(by rw [h1.lt]; exact hbb), List.getElem?_eq_getElem (by rw [h1.lt]; exact hbb)⟩
  have c1 := g1.tok_ hx1
  have c2 := g1.tok_ hx2
  have f1 := g1.cool_ a
  have f2 := g1.cool_ b
  have q1 := g1.setTok_ ha HX.out.2.2
  have q2 := q1.setTok_ hbb (x := -1) (by unfold I64; omega)
  obtain ⟨x3, hx3⟩ : ∃ x, (T.set a t)[b]? = some x := ⟨(T.set a t)[b]'(by rw [List.length_set, h1.lt]; exact hbb), List.getElem?_eq_getElem (by rw [List.length_set, h1.lt]; exact hbb)⟩
  have c3 := q1.tok_ hx3
  have f3 := q1.cool_ b
  obtain ⟨W3, hW3⟩ : ∃ W3, ((w9.setCell ⟨rb, a, none⟩ (.int .i64 t)).setCell ⟨rb, b, none⟩ (.int .i64 (-1))).drew = W3 := ⟨_, rfl⟩
  have hT3 : Turned (fun k => k = rb) w9 W3 := by rw [← hW3]; exact (((Turned.refl (fun k => k = rb) w9).setCell (p := ⟨rb, a, none⟩) (fun _ => rfl) _).setCell (p := ⟨rb, b, none⟩) (fun _ => rfl) _).drew
  have q3 : RowQ W3 rb ((T.set a t).set b (-1)) A N mb qb := by rw [← hW3]; exact q2.drew_
  rw [HT'.out] at q3
  -- the neighbours
  obtain ⟨x4, hx4⟩ : ∃ x, N[a]? = some x := ⟨N[a]'(by rw [h1.ln]; exact ha), List.getElem?_eq_getElem (by rw [h1.ln]; exact ha)⟩
  obtain ⟨x5, hx5⟩ : ∃ x, A[c]? = some x := ⟨A[c]'(by rw [h1.la]; exact hc), List.getElem?_eq_getElem (by rw [h1.la]; exact hc)⟩
  have c4 := q3.behind_ hx4
  have f4 := q3.cool_ (8196 + a)
  have r1 := q3.setBehind_ ha (c : Int)
  have c5 := r1.ahead_ hx5
  have f5 := r1.cool_ (4098 + c)
  have r2 := r1.setAhead_ hc (a : Int)
  obtain ⟨W4, hW4⟩ : ∃ W4, ((W3.setCell ⟨rb, 8196 + a, none⟩ (.int .i64 (c : Nat))).setCell ⟨rb, 4098 + c, none⟩ (.int .i64 (a : Nat))).drew = W4 := ⟨_, rfl⟩
  have hT4 : Turned (fun k => k = rb) W3 W4 := by rw [← hW4]; exact (((Turned.refl (fun k => k = rb) W3).setCell (p := ⟨rb, 8196 + a, none⟩) (fun _ => rfl) _).setCell (p := ⟨rb, 4098 + c, none⟩) (fun _ => rfl) _).drew
  have q4 : RowQ W4 rb T' (A.set c (a : Int)) (N.set a (c : Int)) mb qb := by rw [← hW4]; exact r2.drew_
  rw [HA'.out, HN'.out] at q4
  have c6 := q4.ahead_ hA
  have hTT : Turned (fun k => k = rb) w9 W4 := hT3.trans hT4 (fun _ _ h => h)
  have HS4 : Hid (RowS W4 rb base J T' A' N' S m) := ⟨mb, qb, F, k, q4, g2.of_block (hTT.block mb g2.lt_ (mp_row g2 g1.head)), g3.turned_ hTT (fun j _ hj e => h4 (e ▸ hj)), h4, h5, h6, h7, h8⟩
  have HB4 : Hid (Below base w W4) := hB9.trans (hTT.below (Nat.le_trans hb hB9.size) (fun j e => by rw [e]; exact h6))
  have HP : Hid (c < 4098 ∧ a < 4098 ∧ p < 4098 ∧ N'[p]? = some (a : Int) ∧ N'[a]? = some (c : Int) ∧ base ≤ W4.heap.size ∧ m + 1 ≤ 4194304) := ⟨hc, ha, hp, hNp, hNa, by have := hB9.size; have := hTT.size; omega, hm⟩
  clear q1 q2 q3 q4 r1 r2 g1 g2 g3 h1 h2 h3 h4 h5 h6 h7 h8 hT3 hT4 hTT hx1 hx2 hx3 hx4 hx5 hbox hB9 HS1 HB1 hA hNp hNa hN hm hc hp ha hbb hb
  go_wp2
  go_region
  clear hW3 c1 c2 c3 f1 f2 f3 c0 b4
  go_wp2
  go_region
  clear hW4 c4 c5 f4 f5
  go_wp2_with (fail)
  refine (pwait_any HS4.out HJ.out HP.out.2.2.2.2.2.1 HP.out.2.2.1 HP.out.2.1 HP.out.2.2.2.1 (by have := HP.out.2.2.2.2.2.2; omega)).mono ?_
  rintro e w5 ⟨rfl, m5, hm5, hS5, hB5⟩
  have HS5 := Lib.hid hS5
  have HB5 : Hid (Below base w w5) := HB4.out.trans hB5
  have HM5 : Hid (m5 ≤ m + 1 ∧ base ≤ w5.heap.size) := ⟨hm5, by have := hB5.size; have := HP.out.2.2.2.2.2.1; omega⟩
  clear hS5 hB5 hm5 c6 HS4
  go_wp2_with (fail)
  refine (pwait_any HS5.out HJ.out HM5.out.2 HP.out.2.1 HP.out.1 HP.out.2.2.2.2.1 (by have := HM5.out.1; have := HP.out.2.2.2.2.2.2; omega)).mono ?_
  rintro e w6 ⟨rfl, m6, hm6, hS6, hB6⟩
  have HS6 := Lib.hid hS6
  have HB6 : Hid (Below base w w6) := HB5.out.trans hB6
  have HM6 : Hid (m6 ≤ m + 2) := by unfold Hid; have := HM5.out.1; omega
  clear hS6 hB6 hm6
  go_wp2
  refine bodyPost_end (results_none rfl _ _ _) rfl ?_
  exact ⟨rfl, m6, HM6.out, HS6.out, HB6.out⟩
end Go.Proofs.Ytkialijipcbgkaa
namespace Go.Proofs.Ytkialijipcbgkaa
open Go.RowKit Go.Maps
set_option linter.unusedVariables false

/-- A row of these tokens, at block rb: n tokens it began with. -/
def IsRow (w : World) (rb base : Nat) (J : Int → Int → Option (Int × Nat)) (n : Nat) (l : List Int) : Prop :=
  ∃ (T A N : List Int) (S : List Pr) (m : Nat) (ps : List Nat), RowS w rb base J T A N S m ∧ Bp.St J n T A N S ps ∧ l = ps.map (Bp.at_ T) ∧ m + 2 * l.length ≤ 20000

/-- The cells of a pair. -/
def boxP (x1 x2 x3 x4 x5 : Int) (x6 : Nat) : Array Value := #[.int .i64 x1, .int .i64 x2, .int .i64 x3, .int .i64 x4, .int .i64 x5, .int .u32 (x6 : Nat)]

theorem boxP_one (x1 x2 x3 x4 x5 : Int) (x6 : Nat) : (boxP x1 x2 x3 x4 x5 x6).all (·.oneCell') = true := by simp [boxP, Value.oneCell']
theorem two_at0 (x y : Int) (w : World) : (Instr.index 113 (.agg #[.int .i64 x, .int .i64 y]) (.int .i64 0)).run Try.prog w = .ok (.int .i64 x) w := by kernel_rfl
theorem two_at1 (x y : Int) (w : World) : (Instr.index 113 (.agg #[.int .i64 x, .int .i64 y]) (.int .i64 1)).run Try.prog w = .ok (.int .i64 y) w := by kernel_rfl

set_option maxRecDepth 100000 in
set_option maxHeartbeats 2000000 in
theorem prow_step {w : World} {rb base n : Nat} {J : Int → Int → Option (Int × Nat)} {l : List Int} (h : IsRow w rb base J n l) (hj : JOk J) (hg : Bp.Grows J) (hn : n ≤ 4096) (hb : base ≤ w.heap.size) :
    Calls Try.prog 62 #[.pointer (some ⟨rb, 0, none⟩)] w (fun e w' => e = .returned (.bool (Bp.stepOf J l).isSome) ∧ IsRow w' rb base J n ((Bp.stepOf J l).getD l) ∧ Below base w w') := by
  obtain ⟨T, A, N, S0, m, ps, ⟨mb, qb, F0, h0⟩, hs0, rfl, hm⟩ := h
  have c0 := h0.row_.queue_
  have HP0 := Lib.hid (ppop_row h0 (by omega))
  have HR0 := Lib.hid h0
  have HS0 := Lib.hid hs0
  have HBS := Lib.hid hb
  have HJ : Hid (JOk J ∧ Bp.Grows J) := ⟨hj, hg⟩
  clear h0 hs0 hb hj hg
  go_enter Try.func62, Try.ntmps62
  go_wp2
  go_step3
  go_wp2
  go_step3
  go_wp2_with (fail)
  refine HP0.out.mono ?_
  rintro e w1 ⟨rfl, F1, h1, ht1, hF1⟩
  have HR1 := Lib.hid h1
  have HB1 : Hid (Below base w w1 ∧ base ≤ w1.heap.size) := by
    obtain ⟨k, -, -, -, -, -, -, -, h8⟩ := HR0.out
    exact ⟨ht1.below HBS.out h8, by have := ht1.size; have := HBS.out; omega⟩
  obtain ⟨⟨x1, x2, x3, x4, x5, x6⟩, hx⟩ : ∃ x, S0.headD (⟨0, 0, 0, 0, 0, 0⟩ : Pr) = x := ⟨_, rfl⟩
  obtain ⟨o, ho⟩ : ∃ o, (!S0.isEmpty) = o := ⟨_, rfl⟩
  rw [hx, ho]
  unfold prV
  have HXO : Hid (S0.headD (⟨0, 0, 0, 0, 0, 0⟩ : Pr) = ⟨x1, x2, x3, x4, x5, x6⟩ ∧ (!S0.isEmpty) = o) := ⟨hx, ho⟩
  clear h1 ht1 hF1 HP0 c0 hx ho
  go_wp2
  go_loopg [3, 4] S0.length (fun g s3 s4 wr => ∃ (S : List Pr) (F : Nat → Prop) (pb : Nat) (x1 x2 x3 x4 x5 : Int) (x6 : Nat), S.length ≤ g ∧ s3 = .pointer (some ⟨pb, 0, none⟩) ∧ s4 = .bool (!S.isEmpty) ∧ Hid (S.headD (⟨0, 0, 0, 0, 0, 0⟩ : Pr) = ⟨x1, x2, x3, x4, x5, x6⟩) ∧
    Hid (wr.heap[pb]? = some (.cells (boxP x1 x2 x3 x4 x5 x6) 117 (0, 0))) ∧ Hid (pb ≠ rb ∧ pb ≠ mb ∧ ¬ F pb ∧ base ≤ pb) ∧ Hid (RowT wr rb mb qb base F J T A N S.tail m) ∧ Hid (Bp.St J n T A N S ps) ∧ Hid (Qu.Row Bp.ltP S) ∧ Hid (Below base w wr ∧ base ≤ wr.heap.size))
  case atStart => exact ⟨S0, F1, w1.heap.size, x1, x2, x3, x4, x5, x6, Nat.le_refl _, rfl, by rw [HXO.out.2], HXO.out.1, heap_alloc_new w1 _, ⟨by have := HR1.out.row_.lt_; omega, by have := HR1.out.mlt_; omega, fun h => by have := HR1.out.flt_ _ h; omega, HB1.out.2⟩, HR1.out.to_ ((Below.refl _ _).alloc (Nat.le_refl _) _), HS0.out, HR0.out.order_, HB1.out.1.alloc HB1.out.2 _, by have := HB1.out.2; simp; omega⟩
  case round =>
    obtain ⟨S, F, pb, x1, x2, x3, x4, x5, x6, hSg, rfl, rfl, HX, HP, HPB, HR, HS, HO, HB⟩ := hrel
    cases S with
    | nil =>
      have HN := Lib.hid HS.out.none_
      go_wp2
      rw [Exit.noGoto_ret]
      go_ret
      refine ⟨by rw [HN.out]; rfl, ?_, HB.out.1⟩
      rw [HN.out]
      exact ⟨T, A, N, [], m, ps, ⟨mb, qb, F, HR.out⟩, HS.out, rfl, hm⟩
    | cons e S =>
      cases gk with
      | zero => simp at hSg
      | succ g =>
        obtain rfl : e = ⟨x1, x2, x3, x4, x5, x6⟩ := HX.out
        have hSl : S.length ≤ g := by simp at hSg; omega
        obtain ⟨a, b, ha, hb, han, hbn, -⟩ := HS.out.good _ (List.mem_cons_self ..)
        simp only at ha hb
        subst ha hb
        have hlen := HR.out.row_.lt
        obtain ⟨ta, hta⟩ : ∃ ta, T[a]? = some ta := ⟨T[a]'(by omega), List.getElem?_eq_getElem (by omega)⟩
        obtain ⟨tb, htb⟩ : ∃ tb, T[b]? = some tb := ⟨T[b]'(by omega), List.getElem?_eq_getElem (by omega)⟩
        have HT : Hid (T[a]? = some ta ∧ T[b]? = some tb ∧ Bp.at_ T a = ta ∧ Bp.at_ T b = tb) := ⟨hta, htb, Bp.at_of hta, Bp.at_of htb⟩
        have hai : (a : Int) < 4098 := by omega
        have hbi : (b : Int) < 4098 := by omega
        have p2 : wr.cell? ⟨pb, 2, none⟩ = some (.int .i64 (a : Nat)) := by rw [cell_of_row _ pb 2 _ _ _ HP.out]; rfl
        have p3 : wr.cell? ⟨pb, 3, none⟩ = some (.int .i64 (b : Nat)) := by rw [cell_of_row _ pb 3 _ _ _ HP.out]; rfl
        clear hlen hta htb han hbn hSg
        go_wp2
        clear p2 p3
        go_loopg [26] 2 (fun g2 s26 wy => ∃ (i : Nat), i + g2 = 2 ∧ s26 = .int .i64 (i : Nat) ∧ Hid (1 ≤ i → ta = x1) ∧ Hid (2 ≤ i → tb = x2) ∧ Hid (wy.heap[pb]? = some (.cells (boxP x1 x2 a b x5 x6) 117 (0, 0))) ∧ Hid (RowT wy rb mb qb base F J T A N S m) ∧ Hid (Below base w wy ∧ base ≤ wy.heap.size))
        case atStart => exact ⟨0, rfl, rfl, fun h => by omega, fun h => by omega, HP.out, HR.out, HB.out⟩
        case round =>
          obtain ⟨i, hi, rfl, H1, H2, HPy, HRy, HBy⟩ := hrel
          have q0 : wr.cell? ⟨pb, 0, none⟩ = some (.int .i64 x1) := by rw [cell_of_row _ pb 0 _ _ _ HPy.out]; rfl
          have q1 : wr.cell? ⟨pb, 1, none⟩ = some (.int .i64 x2) := by rw [cell_of_row _ pb 1 _ _ _ HPy.out]; rfl
          cases gk with
          | zero =>
            obtain rfl : i = 2 := by omega
            obtain ⟨c, p, g1, g2, g3, g4, g5, g6, g7, g8, -, -, ps', e1, e2, e3⟩ := HS.out.hit HJ.out.2 HO.out rfl rfl (HT.out.2.2.1.trans (H1.out (by omega))) (HT.out.2.2.2.trans (H2.out (by omega)))
            have hok : PrOk ⟨x1, x2, a, b, x5, x6⟩ := by
              obtain ⟨a', b', -, -, -, -, hj, -⟩ := HS.out.good _ (List.mem_cons_self ..)
              have h1 := HRy.out.row_.ok _ (List.mem_of_getElem? HT.out.1)
              have h2 := HRy.out.row_.ok _ (List.mem_of_getElem? HT.out.2.1)
              rw [H1.out (by omega)] at h1
              rw [H2.out (by omega)] at h2
              exact ⟨h1, h2, by unfold I64; simp only; omega, by unfold I64; simp only; omega, (HJ.out.1 _ _ _ _ hj).1, (HJ.out.1 _ _ _ _ hj).2⟩
            have HC := Lib.hid (pput_any (w := wr) ⟨mb, qb, F, HRy.out⟩ HJ.out.1 HBy.out.2 hok (by omega) (by omega) (by omega) (by omega) g5 g6 g7 g8 (by omega))
            unfold prV at HC
            have HE : Hid (Bp.stepOf J (ps.map (Bp.at_ T)) = some (ps'.map (Bp.at_ ((T.set a x5).set b (-1)))) ∧ ps'.length + 1 = ps.length) := ⟨e1, e2⟩
            have HE3 := Lib.hid e3
            have k0 : wr.cell? ⟨pb, 0, none⟩ = some (.int .i64 x1) := by rw [cell_of_row _ pb 0 _ _ _ HPy.out]; rfl
            have k1 : wr.cell? ⟨pb, 1, none⟩ = some (.int .i64 x2) := by rw [cell_of_row _ pb 1 _ _ _ HPy.out]; rfl
            have k2 : wr.cell? ⟨pb, 2, none⟩ = some (.int .i64 (a : Nat)) := by rw [cell_of_row _ pb 2 _ _ _ HPy.out]; rfl
            have k3 : wr.cell? ⟨pb, 3, none⟩ = some (.int .i64 (b : Nat)) := by rw [cell_of_row _ pb 3 _ _ _ HPy.out]; rfl
            have k4 : wr.cell? ⟨pb, 4, none⟩ = some (.int .i64 x5) := by rw [cell_of_row _ pb 4 _ _ _ HPy.out]; rfl
            have k5 : wr.cell? ⟨pb, 5, none⟩ = some (.int .u32 (x6 : Nat)) := by rw [cell_of_row _ pb 5 _ _ _ HPy.out]; rfl
            clear g1 g2 g3 g4 g5 g6 g7 g8 hok e1 e2 e3 q0 q1
            go_wp2_with (fail)
            refine HC.out.mono ?_
            rintro e w6 ⟨rfl, m6, hm6, hs6, hb6⟩
            have HS6 := Lib.hid hs6
            have HB6 : Hid (Below base w w6) := HBy.out.1.trans hb6
            have HM6 := Lib.hid hm6
            clear hs6 hb6 hm6 HC k0 k1 k2 k3 k4 k5
            go_wp2
            rw [Exit.noGoto_ret]
            go_ret
            refine ⟨by rw [HE.out.1]; rfl, ?_, HB6.out⟩
            rw [HE.out.1]
            refine ⟨_, _, _, _, m6, ps', HS6.out, HE3.out, rfl, ?_⟩
            have := HM6.out
            have := HE.out.2
            simp at hm ⊢
            omega
          | succ g2 =>
            have hi2 : i = 0 ∨ i = 1 := by omega
            have ix0 := fun w => two_at0 (a : Nat) (b : Nat) w
            have ix1 := fun w => two_at1 (a : Nat) (b : Nat) w
            rcases hi2 with rfl | rfl
            · have c1 := HRy.out.row_.tok_ HT.out.1
              by_cases hne : ta = x1
              · have hd : (ta != x1) = false := by rw [bne_eq_false_iff_eq]; exact hne
                have HE2 := Lib.hid hne
                clear hne
                go_wp2
                go_quiet (fail)
                generalize hW9 : wr.drewN _ = w9
                have HP9 : Hid (w9.heap[pb]? = some (.cells (boxP x1 x2 a b x5 x6) 117 (0, 0))) := by unfold Hid; rw [← hW9]; exact HPy.out
                have HR9 : Hid (RowT w9 rb mb qb base F J T A N S m) := by unfold Hid; rw [← hW9]; exact HRy.out.turned_ (G := fun _ => False) ⟨rfl, rfl, rfl, Nat.le_refl _, fun _ _ _ => rfl⟩ (fun h => h) (fun h => h) (fun _ _ _ h => h)
                have HB9 : Hid (Below base w w9 ∧ base ≤ w9.heap.size) := by unfold Hid; rw [← hW9]; exact ⟨below_drewN HBy.out.1 _, HBy.out.2⟩
                clear hW9 c1 q0 q1 hd
                go_wp2
                go_roundg g2
                case measure => omega
                case rel => exact ⟨1, by omega, by go_num, fun _ => HE2.out, fun h => by omega, HP9.out, HR9.out, HB9.out⟩
              · have hd : (ta != x1) = true := by rw [bne_iff_ne]; exact hne
                have HM : Hid (¬ (Bp.at_ T a = x1 ∧ Bp.at_ T b = x2)) := fun h => by rw [HT.out.2.2.1, HT.out.2.2.2] at h; exact hne h.1
                clear hne
                go_wp2
                go_quiet (fail)
                generalize hW9 : wr.drewN _ = w9
                have HP9 : Hid (w9.heap[pb]? = some (.cells (boxP x1 x2 a b x5 x6) 117 (0, 0))) := by unfold Hid; rw [← hW9]; exact HPy.out
                have HR9 : Hid (RowT w9 rb mb qb base F J T A N S m) := by unfold Hid; rw [← hW9]; exact HRy.out.turned_ (G := fun _ => False) ⟨rfl, rfl, rfl, Nat.le_refl _, fun _ _ _ => rfl⟩ (fun h => h) (fun h => h) (fun _ _ _ h => h)
                have HB9 : Hid (Below base w w9 ∧ base ≤ w9.heap.size) := by unfold Hid; rw [← hW9]; exact ⟨below_drewN HBy.out.1 _, HBy.out.2⟩
                clear hW9 c1 q0 q1 hd
                obtain ⟨w5, hw5⟩ : ∃ w5, w9.alloc (.cells (boxP x1 x2 a b x5 x6) 117) = w5 := ⟨_, rfl⟩
                have HR5 : Hid (RowT w5 rb mb qb base F J T A N S m) := by unfold Hid; rw [← hw5]; exact HR9.out.to_ ((Below.refl _ _).alloc (Nat.le_refl _) _)
                have HP5 : Hid (w5.heap[w9.heap.size]? = some (.cells (boxP x1 x2 a b x5 x6) 117 (0, 0))) := by unfold Hid; rw [← hw5]; exact heap_alloc_new w9 _
                have HB5 : Hid (Below base w w5 ∧ base ≤ w5.heap.size) := by unfold Hid; rw [← hw5]; exact ⟨HB9.out.1.alloc HB9.out.2 _, by have := HB9.out.2; simp; omega⟩
                have HN5 : Hid (¬ F w9.heap.size ∧ w9.heap.size ≠ rb ∧ w9.heap.size ≠ mb ∧ base ≤ w9.heap.size ∧ w5.heap.size = w9.heap.size + 1) := ⟨fun h => by have := HR9.out.flt_ _ h; omega, by have := HR9.out.row_.lt_; omega, by have := HR9.out.mlt_; omega, by have := HB9.out.2; omega, by rw [← hw5]; simp⟩
                have hq5 := HR5.out.row_.queue_
                have HP6 := Lib.hid (ppop_row HR5.out (by omega))
                have k0 : w9.cell? ⟨pb, 0, none⟩ = some (.int .i64 x1) := by rw [cell_of_row _ pb 0 _ _ _ HP9.out]; rfl
                have k1 : w9.cell? ⟨pb, 1, none⟩ = some (.int .i64 x2) := by rw [cell_of_row _ pb 1 _ _ _ HP9.out]; rfl
                have k2 : w9.cell? ⟨pb, 2, none⟩ = some (.int .i64 (a : Nat)) := by rw [cell_of_row _ pb 2 _ _ _ HP9.out]; rfl
                have k3 : w9.cell? ⟨pb, 3, none⟩ = some (.int .i64 (b : Nat)) := by rw [cell_of_row _ pb 3 _ _ _ HP9.out]; rfl
                have k4 : w9.cell? ⟨pb, 4, none⟩ = some (.int .i64 x5) := by rw [cell_of_row _ pb 4 _ _ _ HP9.out]; rfl
                have k5 : w9.cell? ⟨pb, 5, none⟩ = some (.int .u32 (x6 : Nat)) := by rw [cell_of_row _ pb 5 _ _ _ HP9.out]; rfl
                unfold boxP at hw5
                go_wp2_with (fail)
                refine HP6.out.mono ?_
                rintro e w6 ⟨rfl, F6, hr6, ht6, hf6⟩
                have HT6 := Lib.hid ht6
                have HR6 := Lib.hid hr6
                have HF6 := Lib.hid hf6
                have HP6' : Hid (w6.heap[w9.heap.size]? = some (.cells (boxP x1 x2 a b x5 x6) 117 (0, 0))) := (ht6.block _ (by have := HN5.out.2.2.2.2; omega) HN5.out.1).trans HP5.out
                have HB6 : Hid (Below base w w6 ∧ base ≤ w6.heap.size) := by
                  obtain ⟨k, -, -, -, -, -, -, -, h8⟩ := HR5.out
                  exact ⟨HB5.out.1.trans (ht6.below HB5.out.2 h8), by have := ht6.size; have := HB5.out.2; omega⟩
                obtain ⟨⟨y1, y2, y3, y4, y5, y6⟩, hy⟩ : ∃ y, S.headD (⟨0, 0, 0, 0, 0, 0⟩ : Pr) = y := ⟨_, rfl⟩
                rw [hy]
                have HY := Lib.hid hy
                unfold prV
                clear hr6 ht6 hf6 HP6 hw5 k0 k1 k2 k3 k4 k5 hy hq5
                go_wp2_with (refine wpList_store_row rfl _ _ _ rfl w9.heap.size #[.int .i64 y1, .int .i64 y2, .int .i64 y3, .int .i64 y4, .int .i64 y5, .int .u32 (y6 : Nat)] rfl rfl 117 _ HP6'.out (by kernel_rfl) rfl (boxP_one _ _ _ _ _ _) ?_)
                go_roundg g
                case measure => omega
                case rel =>
                  have hN := HN5.out
                  have hr7 := HR6.out.turned_ (G := fun k => k = w9.heap.size) (w' := w6.setRow w9.heap.size (boxP y1 y2 y3 y4 y5 y6)) ((Turned.refl (fun k => k = w9.heap.size) w6).setRow (fun _ => rfl) _) (fun e => hN.2.1 e.symm) (fun e => hN.2.2.1 e.symm) (fun j _ hj e => by
                    rcases HF6.out j hj with h | h
                    · exact hN.1 (e ▸ h)
                    · omega)
                  refine ⟨S, F6, w9.heap.size, y1, y2, y3, y4, y5, y6, hSl, rfl, rfl, HY.out, setRow_heap w6 _ _ _ _ _ HP6'.out, ⟨hN.2.1, hN.2.2.1, fun hj => ?_, hN.2.2.2.1⟩, hr7, HS.out.miss HJ.out.2 rfl rfl HM.out, ?_, ?_, ?_⟩
                  · rcases HF6.out _ hj with h | h
                    · exact hN.1 h
                    · omega
                  · exact (List.pairwise_cons.1 HO.out).2
                  · exact HB6.out.1.trans (((Turned.refl (fun k => k = w9.heap.size) w6).setRow (fun _ => rfl) _).below HB6.out.2 (fun k e => by rw [e]; exact hN.2.2.2.1))
                  · have := HB6.out.2
                    simpa using this
            · have c1 := HRy.out.row_.tok_ HT.out.2.1
              by_cases hne : tb = x2
              · have hd : (tb != x2) = false := by rw [bne_eq_false_iff_eq]; exact hne
                have HE2 := Lib.hid hne
                clear hne
                go_wp2
                go_quiet (fail)
                generalize hW9 : wr.drewN _ = w9
                have HP9 : Hid (w9.heap[pb]? = some (.cells (boxP x1 x2 a b x5 x6) 117 (0, 0))) := by unfold Hid; rw [← hW9]; exact HPy.out
                have HR9 : Hid (RowT w9 rb mb qb base F J T A N S m) := by unfold Hid; rw [← hW9]; exact HRy.out.turned_ (G := fun _ => False) ⟨rfl, rfl, rfl, Nat.le_refl _, fun _ _ _ => rfl⟩ (fun h => h) (fun h => h) (fun _ _ _ h => h)
                have HB9 : Hid (Below base w w9 ∧ base ≤ w9.heap.size) := by unfold Hid; rw [← hW9]; exact ⟨below_drewN HBy.out.1 _, HBy.out.2⟩
                clear hW9 c1 q0 q1 hd
                go_wp2
                go_roundg g2
                case measure => omega
                case rel => exact ⟨2, by omega, by go_num, fun _ => H1.out (Nat.le_refl _), fun _ => HE2.out, HP9.out, HR9.out, HB9.out⟩
              · have hd : (tb != x2) = true := by rw [bne_iff_ne]; exact hne
                have HM : Hid (¬ (Bp.at_ T a = x1 ∧ Bp.at_ T b = x2)) := fun h => by rw [HT.out.2.2.1, HT.out.2.2.2] at h; exact hne h.2
                clear hne
                go_wp2
                go_quiet (fail)
                generalize hW9 : wr.drewN _ = w9
                have HP9 : Hid (w9.heap[pb]? = some (.cells (boxP x1 x2 a b x5 x6) 117 (0, 0))) := by unfold Hid; rw [← hW9]; exact HPy.out
                have HR9 : Hid (RowT w9 rb mb qb base F J T A N S m) := by unfold Hid; rw [← hW9]; exact HRy.out.turned_ (G := fun _ => False) ⟨rfl, rfl, rfl, Nat.le_refl _, fun _ _ _ => rfl⟩ (fun h => h) (fun h => h) (fun _ _ _ h => h)
                have HB9 : Hid (Below base w w9 ∧ base ≤ w9.heap.size) := by unfold Hid; rw [← hW9]; exact ⟨below_drewN HBy.out.1 _, HBy.out.2⟩
                clear hW9 c1 q0 q1 hd
                obtain ⟨w5, hw5⟩ : ∃ w5, w9.alloc (.cells (boxP x1 x2 a b x5 x6) 117) = w5 := ⟨_, rfl⟩
                have HR5 : Hid (RowT w5 rb mb qb base F J T A N S m) := by unfold Hid; rw [← hw5]; exact HR9.out.to_ ((Below.refl _ _).alloc (Nat.le_refl _) _)
                have HP5 : Hid (w5.heap[w9.heap.size]? = some (.cells (boxP x1 x2 a b x5 x6) 117 (0, 0))) := by unfold Hid; rw [← hw5]; exact heap_alloc_new w9 _
                have HB5 : Hid (Below base w w5 ∧ base ≤ w5.heap.size) := by unfold Hid; rw [← hw5]; exact ⟨HB9.out.1.alloc HB9.out.2 _, by have := HB9.out.2; simp; omega⟩
                have HN5 : Hid (¬ F w9.heap.size ∧ w9.heap.size ≠ rb ∧ w9.heap.size ≠ mb ∧ base ≤ w9.heap.size ∧ w5.heap.size = w9.heap.size + 1) := ⟨fun h => by have := HR9.out.flt_ _ h; omega, by have := HR9.out.row_.lt_; omega, by have := HR9.out.mlt_; omega, by have := HB9.out.2; omega, by rw [← hw5]; simp⟩
                have hq5 := HR5.out.row_.queue_
                have HP6 := Lib.hid (ppop_row HR5.out (by omega))
                have k0 : w9.cell? ⟨pb, 0, none⟩ = some (.int .i64 x1) := by rw [cell_of_row _ pb 0 _ _ _ HP9.out]; rfl
                have k1 : w9.cell? ⟨pb, 1, none⟩ = some (.int .i64 x2) := by rw [cell_of_row _ pb 1 _ _ _ HP9.out]; rfl
                have k2 : w9.cell? ⟨pb, 2, none⟩ = some (.int .i64 (a : Nat)) := by rw [cell_of_row _ pb 2 _ _ _ HP9.out]; rfl
                have k3 : w9.cell? ⟨pb, 3, none⟩ = some (.int .i64 (b : Nat)) := by rw [cell_of_row _ pb 3 _ _ _ HP9.out]; rfl
                have k4 : w9.cell? ⟨pb, 4, none⟩ = some (.int .i64 x5) := by rw [cell_of_row _ pb 4 _ _ _ HP9.out]; rfl
                have k5 : w9.cell? ⟨pb, 5, none⟩ = some (.int .u32 (x6 : Nat)) := by rw [cell_of_row _ pb 5 _ _ _ HP9.out]; rfl
                unfold boxP at hw5
                go_wp2_with (fail)
                refine HP6.out.mono ?_
                rintro e w6 ⟨rfl, F6, hr6, ht6, hf6⟩
                have HT6 := Lib.hid ht6
                have HR6 := Lib.hid hr6
                have HF6 := Lib.hid hf6
                have HP6' : Hid (w6.heap[w9.heap.size]? = some (.cells (boxP x1 x2 a b x5 x6) 117 (0, 0))) := (ht6.block _ (by have := HN5.out.2.2.2.2; omega) HN5.out.1).trans HP5.out
                have HB6 : Hid (Below base w w6 ∧ base ≤ w6.heap.size) := by
                  obtain ⟨k, -, -, -, -, -, -, -, h8⟩ := HR5.out
                  exact ⟨HB5.out.1.trans (ht6.below HB5.out.2 h8), by have := ht6.size; have := HB5.out.2; omega⟩
                obtain ⟨⟨y1, y2, y3, y4, y5, y6⟩, hy⟩ : ∃ y, S.headD (⟨0, 0, 0, 0, 0, 0⟩ : Pr) = y := ⟨_, rfl⟩
                rw [hy]
                have HY := Lib.hid hy
                unfold prV
                clear hr6 ht6 hf6 HP6 hw5 k0 k1 k2 k3 k4 k5 hy hq5
                go_wp2_with (refine wpList_store_row rfl _ _ _ rfl w9.heap.size #[.int .i64 y1, .int .i64 y2, .int .i64 y3, .int .i64 y4, .int .i64 y5, .int .u32 (y6 : Nat)] rfl rfl 117 _ HP6'.out (by kernel_rfl) rfl (boxP_one _ _ _ _ _ _) ?_)
                go_roundg g
                case measure => omega
                case rel =>
                  have hN := HN5.out
                  have hr7 := HR6.out.turned_ (G := fun k => k = w9.heap.size) (w' := w6.setRow w9.heap.size (boxP y1 y2 y3 y4 y5 y6)) ((Turned.refl (fun k => k = w9.heap.size) w6).setRow (fun _ => rfl) _) (fun e => hN.2.1 e.symm) (fun e => hN.2.2.1 e.symm) (fun j _ hj e => by
                    rcases HF6.out j hj with h | h
                    · exact hN.1 (e ▸ h)
                    · omega)
                  refine ⟨S, F6, w9.heap.size, y1, y2, y3, y4, y5, y6, hSl, rfl, rfl, HY.out, setRow_heap w6 _ _ _ _ _ HP6'.out, ⟨hN.2.1, hN.2.2.1, fun hj => ?_, hN.2.2.2.1⟩, hr7, HS.out.miss HJ.out.2 rfl rfl HM.out, ?_, ?_, ?_⟩
                  · rcases HF6.out _ hj with h | h
                    · exact hN.1 h
                    · omega
                  · exact (List.pairwise_cons.1 HO.out).2
                  · exact HB6.out.1.trans (((Turned.refl (fun k => k = w9.heap.size) w6).setRow (fun _ => rfl) _).below HB6.out.2 (fun k e => by rw [e]; exact hN.2.2.2.1))
                  · have := HB6.out.2
                    simpa using this
end Go.Proofs.Ytkialijipcbgkaa
