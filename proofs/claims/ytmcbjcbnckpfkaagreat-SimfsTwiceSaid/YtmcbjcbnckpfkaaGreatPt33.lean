/-
  RSfCb: stookref14: Copy.
  RSfD: stookref14.name: is a text one?
  RSfT: stookref14.taker: numbers that are taken one by one.
-/
import Derived.Test.YtmcbjcbnckpfkaaGreatPt32
import Derived.StillTailTactics
import Derived.Deep.RegionHeld3
import Derived.Test.YtmcbjcbnckpfkaaGreatPt11
import Derived.BigRegion
import Derived.JoinedCond
import Derived.Test.YtmcbjcbnckpfkaaGreatPt27
import Derived.Test.YtmcbjcbnckpfkaaGreatPt12
import Derived.Test.YtmcbjcbnckpfkaaGreatPt05
import Derived.Test.YtmcbjcbnckpfkaaGreatPt03
import Derived.Deep.QuietTactic
import Derived.BigQuiet
namespace Go.Proofs.YtmcbjcbnckpfkaaGreat
open Go.RowKit
set_option linter.unusedVariables false
section
variable {w : World} {f : Fp} {t : Sf.St} {b : Nat}
set_option maxHeartbeats 4000000 in
set_option maxRecDepth 100000 in
theorem rcopy_disk (h : RDiskM w f t b) : Calls Tryz.prog 18 #[.pointer (some ⟨b, 0, none⟩)] w (IsDisk1 RDiskM f t w) := by
  obtain ⟨vf, vs, vr, vu, rf, rr, h⟩ := h
  have HH := Lib.hid h
  have hb : b < w.heap.size := h.lt b (.inl h.mine)
  have hnf := h.body.nfiles
  have hfl : rf.length ≤ 1099511627840 := by have := h.good.files; have := h.good.acts; omega
  have hrl : rr.length ≤ 1099511627776 := by have := h.body.nrow; have := h.good.rows; have := h.good.acts; omega
  have HD := Lib.hid h.head
  have HVF := Lib.hid h.body.files.form_
  have HVR := Lib.hid h.body.row.form_
  obtain ⟨Af, cf, ef, _⟩ := h.body.files.form_
  obtain ⟨Ar, cr, er, _⟩ := h.body.row.form_
  obtain ⟨As, cs, es, _⟩ := h.body.sure.lv
  obtain ⟨Au, cu, eu, _⟩ := h.body.seen.lv
  subst ef er es eu
  obtain ⟨ns, hns⟩ : ∃ n, t.sure.length = n := ⟨_, rfl⟩
  obtain ⟨nu, hnu⟩ : ∃ n, t.seen.length = n := ⟨_, rfl⟩
  rw [hns, hnu] at HH HD
  have HNF := Lib.hid hnf
  have HC : Hid (∀ w', Below w.heap.size w w' → w'.heap[b]? = some (.cells (headC t (.slice Af rf.length cf) (.slice As ns cs) (.slice Ar rr.length cr) (.slice Au nu cu)) 53 (0, 0))) := fun w' hb' => (hb'.block b hb).trans HD.out
  have c0 : w.drew.cell? ⟨b, 0, none⟩ = some (.int .i64 (t.room : Nat)) := head_cell (HC.out _ (Below.refl _ _).drew) rfl
  have c2 : w.drew.cell? ⟨b, 2, none⟩ = some (.slice As ns cs) := head_cell (HC.out _ (Below.refl _ _).drew) rfl
  have c4 : w.drew.cell? ⟨b, 4, none⟩ = some (.slice Au nu cu) := head_cell (HC.out _ (Below.refl _ _).drew) rfl
  have c5 : w.drew.cell? ⟨b, 5, none⟩ = some (.int .i64 (t.acts : Nat)) := head_cell (HC.out _ (Below.refl _ _).drew) rfl
  have c6 : w.drew.cell? ⟨b, 6, none⟩ = some (.int .i64 (t.fuse : Nat)) := head_cell (HC.out _ (Below.refl _ _).drew) rfl
  have c7 : w.drew.cell? ⟨b, 7, none⟩ = some (.bool t.dead) := head_cell (HC.out _ (Below.refl _ _).drew) rfl
  clear h hnf hns hnu hb
  go_enter Tryz.func18, Tryz.ntmps18
  go_wp2
  refine wp_region_m (fun w' => w'.cell? ⟨b, 0, none⟩ = some (.int .i64 (t.room : Nat)) ∧ w'.cell? ⟨b, 2, none⟩ = some (.slice As ns cs) ∧ w'.cell? ⟨b, 4, none⟩ = some (.slice Au nu cu) ∧ w'.cell? ⟨b, 5, none⟩ = some (.int .i64 (t.acts : Nat)) ∧ w'.cell? ⟨b, 6, none⟩ = some (.int .i64 (t.fuse : Nat)) ∧ w'.cell? ⟨b, 7, none⟩ = some (.bool t.dead)) 25 (by kernel_rfl) ?_
  have s0 : w.drew.cell? ⟨b, 0, none⟩ = some (.int .i64 (t.room : Nat)) ∧ w.drew.cell? ⟨b, 2, none⟩ = some (.slice As ns cs) ∧ w.drew.cell? ⟨b, 4, none⟩ = some (.slice Au nu cu) ∧ w.drew.cell? ⟨b, 5, none⟩ = some (.int .i64 (t.acts : Nat)) ∧ w.drew.cell? ⟨b, 6, none⟩ = some (.int .i64 (t.fuse : Nat)) ∧ w.drew.cell? ⟨b, 7, none⟩ = some (.bool t.dead) := ⟨c0, c2, c4, c5, c6, c7⟩
  refine wpAnyM_take (i := 0) (v := ?_) rfl (by kernel_rfl) (by kernel_rfl) (by kernel_rfl) (by kernel_rfl) (fun _ _ _ h => h) s0 (Or.inl ⟨by rfl, (by intro w' hSw; obtain ⟨q0, q2, q4, q5, q6, q7⟩ := hSw; go_simp; first | done | with_reducible rfl)⟩) ?_
  try simp only [Act.put, List.getElem_toArray, List.getElem_cons_zero, List.setIfInBounds_toArray, List.set_cons_zero, List.set_cons_succ]
  refine wpAnyM_take (i := 1) (v := ?_) rfl (by kernel_rfl) (by kernel_rfl) (by kernel_rfl) (by kernel_rfl) (fun _ _ _ h => h) s0 (Or.inl ⟨by rfl, (by intro w' hSw; obtain ⟨q0, q2, q4, q5, q6, q7⟩ := hSw; go_simp; first | done | with_reducible rfl)⟩) ?_
  try simp only [Act.put, List.getElem_toArray, List.getElem_cons_succ, List.getElem_cons_zero, List.setIfInBounds_toArray, List.set_cons_zero, List.set_cons_succ]
  refine wpAnyM_take (i := 2) (v := ?_) rfl (by kernel_rfl) (by kernel_rfl) (by kernel_rfl) (by kernel_rfl) (fun _ _ _ h => h) s0 (Or.inl ⟨by rfl, (by intro w' hSw; obtain ⟨q0, q2, q4, q5, q6, q7⟩ := hSw; go_simp; first | done | with_reducible rfl)⟩) ?_
  try simp only [Act.put, List.getElem_toArray, List.getElem_cons_succ, List.getElem_cons_zero, List.setIfInBounds_toArray, List.set_cons_zero, List.set_cons_succ]
  refine wpAnyM_take (i := 3) (v := ?_) rfl (by kernel_rfl) (by kernel_rfl) (by kernel_rfl) (by kernel_rfl) (fun _ _ _ h => h) s0 (Or.inl ⟨by rfl, (by intro w' hSw; obtain ⟨q0, q2, q4, q5, q6, q7⟩ := hSw; go_simp; first | done | with_reducible rfl)⟩) ?_
  try simp only [Act.put, List.getElem_toArray, List.getElem_cons_succ, List.getElem_cons_zero, List.setIfInBounds_toArray, List.set_cons_zero, List.set_cons_succ]
  refine wpAnyM_take (i := 4) (v := ?_) rfl (by kernel_rfl) (by kernel_rfl) (by kernel_rfl) (by kernel_rfl) (fun _ _ _ h => h) s0 (Or.inl ⟨by rfl, (by intro w' hSw; obtain ⟨q0, q2, q4, q5, q6, q7⟩ := hSw; go_simp; first | done | with_reducible rfl)⟩) ?_
  try simp only [Act.put, List.getElem_toArray, List.getElem_cons_succ, List.getElem_cons_zero, List.setIfInBounds_toArray, List.set_cons_zero, List.set_cons_succ]
  refine wpAnyM_take (i := 5) (v := ?_) rfl (by kernel_rfl) (by kernel_rfl) (by kernel_rfl) (by kernel_rfl) (fun _ _ _ h => h) s0 (Or.inl ⟨by rfl, (by intro w' hSw; obtain ⟨q0, q2, q4, q5, q6, q7⟩ := hSw; go_simp; first | done | with_reducible rfl)⟩) ?_
  try simp only [Act.put, List.getElem_toArray, List.getElem_cons_succ, List.getElem_cons_zero, List.setIfInBounds_toArray, List.set_cons_zero, List.set_cons_succ]
  refine wpAnyM_take (i := 6) (v := ?_) rfl (by kernel_rfl) (by kernel_rfl) (by kernel_rfl) (by kernel_rfl) (fun _ _ _ h => h) s0 (Or.inl ⟨by rfl, (by intro w' hSw; obtain ⟨q0, q2, q4, q5, q6, q7⟩ := hSw; go_simp; first | done | with_reducible rfl)⟩) ?_
  try simp only [Act.put, List.getElem_toArray, List.getElem_cons_succ, List.getElem_cons_zero, List.setIfInBounds_toArray, List.set_cons_zero, List.set_cons_succ]
  refine wpAnyM_take (i := 7) (v := ?_) rfl (by kernel_rfl) (by kernel_rfl) (by kernel_rfl) (by kernel_rfl) (fun _ _ _ h => h) s0 (Or.inl ⟨by rfl, (by intro w' hSw; obtain ⟨q0, q2, q4, q5, q6, q7⟩ := hSw; go_simp; first | done | with_reducible rfl)⟩) ?_
  try simp only [Act.put, List.getElem_toArray, List.getElem_cons_succ, List.getElem_cons_zero, List.setIfInBounds_toArray, List.set_cons_zero, List.set_cons_succ]
  refine wpAnyM_take (i := 8) (v := ?_) rfl (by kernel_rfl) (by kernel_rfl) (by kernel_rfl) (by kernel_rfl) (fun _ _ _ h => h) s0 (Or.inl ⟨by rfl, (by intro w' hSw; obtain ⟨q0, q2, q4, q5, q6, q7⟩ := hSw; go_simp; first | done | with_reducible rfl)⟩) ?_
  try simp only [Act.put, List.getElem_toArray, List.getElem_cons_succ, List.getElem_cons_zero, List.setIfInBounds_toArray, List.set_cons_zero, List.set_cons_succ]
  refine wpAnyM_take (i := 9) (v := ?_) rfl (by kernel_rfl) (by kernel_rfl) (by kernel_rfl) (by kernel_rfl) (fun _ _ _ h => h) s0 (Or.inl ⟨by rfl, (by intro w' hSw; obtain ⟨q0, q2, q4, q5, q6, q7⟩ := hSw; go_simp; first | done | with_reducible rfl)⟩) ?_
  try simp only [Act.put, List.getElem_toArray, List.getElem_cons_succ, List.getElem_cons_zero, List.setIfInBounds_toArray, List.set_cons_zero, List.set_cons_succ]
  refine wpAnyM_take (i := 10) (v := ?_) rfl (by kernel_rfl) (by kernel_rfl) (by kernel_rfl) (by kernel_rfl) (fun _ _ _ h => h) s0 (Or.inl ⟨by rfl, (by intro w' hSw; obtain ⟨q0, q2, q4, q5, q6, q7⟩ := hSw; go_simp; first | done | with_reducible rfl)⟩) ?_
  try simp only [Act.put, List.getElem_toArray, List.getElem_cons_succ, List.getElem_cons_zero, List.setIfInBounds_toArray, List.set_cons_zero, List.set_cons_succ]
  refine wpAnyM_take (i := 11) (v := ?_) rfl (by kernel_rfl) (by kernel_rfl) (by kernel_rfl) (by kernel_rfl) (fun _ _ _ h => h) s0 (Or.inl ⟨by rfl, (by intro w' hSw; obtain ⟨q0, q2, q4, q5, q6, q7⟩ := hSw; go_simp; first | done | with_reducible rfl)⟩) ?_
  try simp only [Act.put, List.getElem_toArray, List.getElem_cons_succ, List.getElem_cons_zero, List.setIfInBounds_toArray, List.set_cons_zero, List.set_cons_succ]
  refine wpAnyM_take (i := 12) (v := ?_) rfl (by kernel_rfl) (by kernel_rfl) (by kernel_rfl) (by kernel_rfl) (fun _ _ _ h => h) s0 (Or.inl ⟨by rfl, (by intro w' hSw; obtain ⟨q0, q2, q4, q5, q6, q7⟩ := hSw; go_simp; first | done | with_reducible rfl)⟩) ?_
  try simp only [Act.put, List.getElem_toArray, List.getElem_cons_succ, List.getElem_cons_zero, List.setIfInBounds_toArray, List.set_cons_zero, List.set_cons_succ]
  refine wpAnyM_take (i := 13) (v := ?_) rfl (by kernel_rfl) (by kernel_rfl) (by kernel_rfl) (by kernel_rfl) (fun _ _ _ h => h) s0 (Or.inl ⟨by rfl, (by intro w' hSw; obtain ⟨q0, q2, q4, q5, q6, q7⟩ := hSw; go_simp; first | done | with_reducible rfl)⟩) ?_
  try simp only [Act.put, List.getElem_toArray, List.getElem_cons_succ, List.getElem_cons_zero, List.setIfInBounds_toArray, List.set_cons_zero, List.set_cons_succ]
  refine wpAnyM_take (i := 14) (v := ?_) rfl (by kernel_rfl) (by kernel_rfl) (by kernel_rfl) (by kernel_rfl) (fun _ _ _ h => h) s0 (Or.inl ⟨by rfl, (by intro w' hSw; obtain ⟨q0, q2, q4, q5, q6, q7⟩ := hSw; go_simp; first | done | with_reducible rfl)⟩) ?_
  try simp only [Act.put, List.getElem_toArray, List.getElem_cons_succ, List.getElem_cons_zero, List.setIfInBounds_toArray, List.set_cons_zero, List.set_cons_succ]
  refine wpAnyM_take (i := 15) (v := ?_) rfl (by kernel_rfl) (by kernel_rfl) (by kernel_rfl) (by kernel_rfl) (fun _ _ _ h => h) s0 (Or.inl ⟨by rfl, (by intro w' hSw; obtain ⟨q0, q2, q4, q5, q6, q7⟩ := hSw; go_simp; first | done | with_reducible rfl)⟩) ?_
  try simp only [Act.put, List.getElem_toArray, List.getElem_cons_succ, List.getElem_cons_zero, List.setIfInBounds_toArray, List.set_cons_zero, List.set_cons_succ]
  refine wpAnyM_take (i := 16) (v := ?_) rfl (by kernel_rfl) (by kernel_rfl) (by kernel_rfl) (by kernel_rfl) (fun _ _ _ h => h) s0 (Or.inl ⟨by rfl, (by intro w' hSw; obtain ⟨q0, q2, q4, q5, q6, q7⟩ := hSw; go_simp; first | done | with_reducible rfl)⟩) ?_
  try simp only [Act.put, List.getElem_toArray, List.getElem_cons_succ, List.getElem_cons_zero, List.setIfInBounds_toArray, List.set_cons_zero, List.set_cons_succ]
  refine wpAnyM_take (i := 17) (v := ?_) rfl (by kernel_rfl) (by kernel_rfl) (by kernel_rfl) (by kernel_rfl) (fun _ _ _ h => h) s0 (Or.inl ⟨by rfl, (by intro w' hSw; obtain ⟨q0, q2, q4, q5, q6, q7⟩ := hSw; go_simp; first | done | with_reducible rfl)⟩) ?_
  try simp only [Act.put, List.getElem_toArray, List.getElem_cons_succ, List.getElem_cons_zero, List.setIfInBounds_toArray, List.set_cons_zero, List.set_cons_succ]
  refine wpAnyM_take (i := 18) (v := ?_) rfl (by kernel_rfl) (by kernel_rfl) (by kernel_rfl) (by kernel_rfl) (fun _ _ _ h => h) s0 (Or.inl ⟨by rfl, (by intro w' hSw; obtain ⟨q0, q2, q4, q5, q6, q7⟩ := hSw; go_simp; first | done | with_reducible rfl)⟩) ?_
  try simp only [Act.put, List.getElem_toArray, List.getElem_cons_succ, List.getElem_cons_zero, List.setIfInBounds_toArray, List.set_cons_zero, List.set_cons_succ]
  refine wpAnyM_take (i := 19) (v := ?_) rfl (by kernel_rfl) (by kernel_rfl) (by kernel_rfl) (by kernel_rfl) (fun _ _ _ h => h) s0 (Or.inl ⟨by rfl, (by intro w' hSw; obtain ⟨q0, q2, q4, q5, q6, q7⟩ := hSw; go_simp; first | done | with_reducible rfl)⟩) ?_
  try simp only [Act.put, List.getElem_toArray, List.getElem_cons_succ, List.getElem_cons_zero, List.setIfInBounds_toArray, List.set_cons_zero, List.set_cons_succ]
  refine wpAnyM_take (i := 20) (v := ?_) rfl (by kernel_rfl) (by kernel_rfl) (by kernel_rfl) (by kernel_rfl) (fun _ _ _ h => h) s0 (Or.inl ⟨by rfl, (by intro w' hSw; obtain ⟨q0, q2, q4, q5, q6, q7⟩ := hSw; go_simp; first | done | with_reducible rfl)⟩) ?_
  try simp only [Act.put, List.getElem_toArray, List.getElem_cons_succ, List.getElem_cons_zero, List.setIfInBounds_toArray, List.set_cons_zero, List.set_cons_succ]
  refine wpAnyM_take (i := 21) (v := ?_) rfl (by kernel_rfl) (by kernel_rfl) (by kernel_rfl) (by kernel_rfl) (fun _ _ _ h => h) s0 (Or.inl ⟨by rfl, (by intro w' hSw; obtain ⟨q0, q2, q4, q5, q6, q7⟩ := hSw; go_simp; first | done | with_reducible rfl)⟩) ?_
  try simp only [Act.put, List.getElem_toArray, List.getElem_cons_succ, List.getElem_cons_zero, List.setIfInBounds_toArray, List.set_cons_zero, List.set_cons_succ]
  refine wpAnyM_take (i := 22) (v := ?_) rfl (by kernel_rfl) (by kernel_rfl) (by kernel_rfl) (by kernel_rfl) (fun _ _ _ h => h) s0 (Or.inl ⟨by rfl, (by intro w' hSw; obtain ⟨q0, q2, q4, q5, q6, q7⟩ := hSw; go_simp; first | done | with_reducible rfl)⟩) ?_
  try simp only [Act.put, List.getElem_toArray, List.getElem_cons_succ, List.getElem_cons_zero, List.setIfInBounds_toArray, List.set_cons_zero, List.set_cons_succ]
  refine wpAnyM_take (i := 23) (v := ?_) rfl (by kernel_rfl) (by kernel_rfl) (by kernel_rfl) (by kernel_rfl) (fun _ _ _ h => h) s0 (Or.inl ⟨by rfl, (by intro w' hSw; obtain ⟨q0, q2, q4, q5, q6, q7⟩ := hSw; go_simp; first | done | with_reducible rfl)⟩) ?_
  try simp only [Act.put, List.getElem_toArray, List.getElem_cons_succ, List.getElem_cons_zero, List.setIfInBounds_toArray, List.set_cons_zero, List.set_cons_succ]
  refine wpAnyM_take (i := 24) (v := ?_) rfl (by kernel_rfl) (by kernel_rfl) (by kernel_rfl) (by kernel_rfl) (fun _ _ _ h => h) s0 (Or.inl ⟨by rfl, (by intro w' hSw; obtain ⟨q0, q2, q4, q5, q6, q7⟩ := hSw; go_simp; first | done | with_reducible rfl)⟩) ?_
  try simp only [Act.put, List.getElem_toArray, List.getElem_cons_succ, List.getElem_cons_zero, List.setIfInBounds_toArray, List.set_cons_zero, List.set_cons_succ]
  obtain ⟨W, hW⟩ : ∃ W, (w.alloc (.cells (headC t (.slice none 0 0) (.slice As ns cs) (.slice none 0 0) (.slice Au nu cu)) 53)).drew = W := ⟨_, rfl⟩
  have HBW : Hid (Below w.heap.size w W) := by unfold Hid; rw [← hW]; exact ((Below.refl _ _).alloc (Nat.le_refl _) _).drew
  have HHW : Hid (W.heap[w.heap.size]? = some (.cells (headC t (.slice none 0 0) (.slice As ns cs) (.slice none 0 0) (.slice Au nu cu)) 53 (0, 0))) := by unfold Hid; rw [← hW]; exact heap_alloc_new w _
  refine wpAnyM_next (i := 25) (by kernel_rfl) rfl (fun K hK => ?_)
  go_simp
  change K _ ((w.alloc (.cells (headC t (.slice none 0 0) (.slice As ns cs) (.slice none 0 0) (.slice Au nu cu)) 53)).drew)
  rw [hW]
  refine hK.out _ _ (.inl (Nat.le_refl _)) ?_
  clear hK K
  try simp only [Act.put, List.getElem_toArray, List.getElem_cons_succ, List.getElem_cons_zero, List.setIfInBounds_toArray, List.set_cons_zero, List.set_cons_succ]
  refine wpAnyM_next (i := 26) (by kernel_rfl) rfl (fun K hK => ?_)
  go_simp
  refine hK.out _ _ (.inl (by omega)) ?_
  clear hK K
  try simp only [Act.put, List.getElem_toArray, List.getElem_cons_succ, List.getElem_cons_zero, List.setIfInBounds_toArray, List.set_cons_zero, List.set_cons_succ]
  refine wpAnyM_done (by kernel_rfl) ?_ _
  obtain ⟨ob, hob⟩ : ∃ ob, w.heap.size = ob := ⟨_, rfl⟩
  have HOB : Hid (w.heap.size ≤ ob) := by unfold Hid; omega
  have HHW2 : Hid (W.heap[ob]? = some (.cells (headC t (.slice none 0 0) (.slice As ns cs) (.slice none 0 0) (.slice Au nu cu)) 53 (0, 0))) := hob ▸ HHW.out
  rw [hob]
  have HOE : Hid (w.heap.size = ob) := hob
  clear s0 c0 c2 c4 c5 c6 c7 hW HHW hob
  have r0 : W.drew.cell? ⟨ob, 3, none⟩ = some (.slice none 0 0) ∧ W.drew.cell? ⟨b, 3, none⟩ = some (.slice Ar rr.length cr) := ⟨head_cell (w := W.drew) HHW2.out rfl, head_cell (HC.out _ HBW.out.drew) rfl⟩
  go_wp2
  refine wp_region_m (fun w' => w'.cell? ⟨ob, 3, none⟩ = some (.slice none 0 0) ∧ w'.cell? ⟨b, 3, none⟩ = some (.slice Ar rr.length cr)) 12 (by kernel_rfl) ?_
  refine wpAnyM_take (i := 0) (v := ?_) rfl (by kernel_rfl) (by kernel_rfl) (by kernel_rfl) (by kernel_rfl) (fun _ _ _ h => h) r0 (Or.inl ⟨by rfl, (by intro w' hSw; obtain ⟨q0, q2⟩ := hSw; go_simp; first | done | with_reducible rfl)⟩) ?_
  try simp only [Act.put, List.getElem_toArray, List.getElem_cons_zero, List.setIfInBounds_toArray, List.set_cons_zero, List.set_cons_succ]
  refine wpAnyM_take (i := 1) (v := ?_) rfl (by kernel_rfl) (by kernel_rfl) (by kernel_rfl) (by kernel_rfl) (fun _ _ _ h => h) r0 (Or.inl ⟨by rfl, (by intro w' hSw; obtain ⟨q0, q2⟩ := hSw; go_simp; first | done | with_reducible rfl)⟩) ?_
  try simp only [Act.put, List.getElem_toArray, List.getElem_cons_succ, List.getElem_cons_zero, List.setIfInBounds_toArray, List.set_cons_zero, List.set_cons_succ]
  refine wpAnyM_take (i := 2) (v := ?_) rfl (by kernel_rfl) (by kernel_rfl) (by kernel_rfl) (by kernel_rfl) (fun _ _ _ h => h) r0 (Or.inl ⟨by rfl, (by intro w' hSw; obtain ⟨q0, q2⟩ := hSw; go_simp; first | done | with_reducible rfl)⟩) ?_
  try simp only [Act.put, List.getElem_toArray, List.getElem_cons_succ, List.getElem_cons_zero, List.setIfInBounds_toArray, List.set_cons_zero, List.set_cons_succ]
  refine wpAnyM_take (i := 3) (v := ?_) rfl (by kernel_rfl) (by kernel_rfl) (by kernel_rfl) (by kernel_rfl) (fun _ _ _ h => h) r0 (Or.inl ⟨by rfl, (by intro w' hSw; obtain ⟨q0, q2⟩ := hSw; go_simp; first | done | with_reducible rfl)⟩) ?_
  try simp only [Act.put, List.getElem_toArray, List.getElem_cons_succ, List.getElem_cons_zero, List.setIfInBounds_toArray, List.set_cons_zero, List.set_cons_succ]
  refine wpAnyM_take (i := 4) (v := ?_) rfl (by kernel_rfl) (by kernel_rfl) (by kernel_rfl) (by kernel_rfl) (fun _ _ _ h => h) r0 (Or.inl ⟨by rfl, (by intro w' hSw; obtain ⟨q0, q2⟩ := hSw; go_simp; first | done | with_reducible rfl)⟩) ?_
  try simp only [Act.put, List.getElem_toArray, List.getElem_cons_succ, List.getElem_cons_zero, List.setIfInBounds_toArray, List.set_cons_zero, List.set_cons_succ]
  refine wpAnyM_take (i := 5) (v := ?_) rfl (by kernel_rfl) (by kernel_rfl) (by kernel_rfl) (by kernel_rfl) (fun _ _ _ h => h) r0 (Or.inl ⟨by rfl, (by intro w' hSw; obtain ⟨q0, q2⟩ := hSw; go_simp; first | done | with_reducible rfl)⟩) ?_
  try simp only [Act.put, List.getElem_toArray, List.getElem_cons_succ, List.getElem_cons_zero, List.setIfInBounds_toArray, List.set_cons_zero, List.set_cons_succ]
  refine wpAnyM_take (i := 6) (v := ?_) rfl (by kernel_rfl) (by kernel_rfl) (by kernel_rfl) (by kernel_rfl) (fun _ _ _ h => h) r0 (Or.inl ⟨by rfl, (by intro w' hSw; obtain ⟨q0, q2⟩ := hSw; go_simp; first | done | with_reducible rfl)⟩) ?_
  try simp only [Act.put, List.getElem_toArray, List.getElem_cons_succ, List.getElem_cons_zero, List.setIfInBounds_toArray, List.set_cons_zero, List.set_cons_succ]
  refine wpAnyM_take (i := 7) (v := ?_) rfl (by kernel_rfl) (by kernel_rfl) (by kernel_rfl) (by kernel_rfl) (fun _ _ _ h => h) r0 (Or.inl ⟨by rfl, (by intro w' hSw; obtain ⟨q0, q2⟩ := hSw; go_simp; first | done | with_reducible rfl)⟩) ?_
  try simp only [Act.put, List.getElem_toArray, List.getElem_cons_succ, List.getElem_cons_zero, List.setIfInBounds_toArray, List.set_cons_zero, List.set_cons_succ]
  refine wpAnyM_take (i := 8) (v := ?_) rfl (by kernel_rfl) (by kernel_rfl) (by kernel_rfl) (by kernel_rfl) (fun _ _ _ h => h) r0 (Or.inl ⟨by rfl, (by intro w' hSw; obtain ⟨q0, q2⟩ := hSw; go_simp; first | done | with_reducible rfl)⟩) ?_
  try simp only [Act.put, List.getElem_toArray, List.getElem_cons_succ, List.getElem_cons_zero, List.setIfInBounds_toArray, List.set_cons_zero, List.set_cons_succ]
  refine wpAnyM_next (i := 9) (by kernel_rfl) rfl (fun K hK => ?_)
  refine step_append_m W.drew rK rfl _ _ rfl w.heap.size (.slice none 0 0) rfl [] (OwnL.nil_ _ _ _) _ rfl w.heap.size rr (HVR.out.below_ HBW.out.drew (Nat.le_refl _)) (by show (0 + _) * 24 ≤ _; omega) (by simp only [maxLen, List.length_nil]; omega) HBW.out.drew.size ?_
  intro A3 c3 w5 hA hG hM
  rw [List.nil_append] at hA hM ⊢
  have T5 : Below W.heap.size W w5 := (Below.refl W.heap.size W).drew.grown hG (Nat.le_refl _) (fun j hj => by cases hj)
  have hob5 : ob < W.heap.size := (Array.getElem?_eq_some_iff.1 HHW2.out).1
  have h5 := (T5.block ob hob5).trans HHW2.out
  have HB5 := Lib.hid (HBW.out.trans (T5.mono HBW.out.size))
  have r1 : w5.cell? ⟨ob, 3, none⟩ = some (.slice none 0 0) ∧ w5.cell? ⟨b, 3, none⟩ = some (.slice Ar rr.length cr) := ⟨head_cell h5 rfl, head_cell (HC.out _ HB5.out) rfl⟩
  refine hK.out _ _ (.inr r1) ?_
  clear hK K
  try simp only [Act.put, List.getElem_toArray, List.getElem_cons_succ, List.getElem_cons_zero, List.setIfInBounds_toArray, List.set_cons_zero, List.set_cons_succ]
  refine wpAnyM_next (i := 10) (by kernel_rfl) rfl (fun K hK => ?_)
  go_simp
  refine hK.out _ _ (.inr r1) ?_
  clear hK K
  try simp only [Act.put, List.getElem_toArray, List.getElem_cons_succ, List.getElem_cons_zero, List.setIfInBounds_toArray, List.set_cons_zero, List.set_cons_succ]
  refine wpAnyM_next (i := 11) (by kernel_rfl) rfl (fun K hK => ?_)
  go_simp
  refine hK.out _ _ (.inr r1) ?_
  clear hK K
  try simp only [Act.put, List.getElem_toArray, List.getElem_cons_succ, List.getElem_cons_zero, List.setIfInBounds_toArray, List.set_cons_zero, List.set_cons_succ]
  have z3 : w5.frozen? ⟨ob, 3, none⟩ = false := frozen_of_row w5 ob 3 _ _ h5
  have y3 := r1.1
  have h6 := head_set h5 3 (.slice A3 rr.length c3) (C' := headC t (.slice none 0 0) (.slice As ns cs) (.slice A3 rr.length c3) (.slice Au nu cu)) rfl
  have T6 := Turned.setCell (F := fun k => k = ob) (Turned.refl (fun k => k = ob) w5) (p := ⟨ob, 3, none⟩) (fun _ => rfl) (.slice A3 rr.length c3)
  have hAo : (Value.slice A3 rr.length c3).ownBlock ≠ some ob := own_kind hA h5 (by decide)
  obtain ⟨w6, hw6⟩ : ∃ w6, w5.setCell ⟨ob, 3, none⟩ (.slice A3 rr.length c3) = w6 := ⟨_, rfl⟩
  rw [hw6] at h6 T6
  refine wpAnyM_next (i := 12) (by kernel_rfl) rfl (fun K hK => ?_)
  go_simp
  refine hK.out _ _ (.inl (Nat.le_refl _)) ?_
  clear hK K
  try simp only [Act.put, List.getElem_toArray, List.getElem_cons_succ, List.getElem_cons_zero, List.setIfInBounds_toArray, List.set_cons_zero, List.set_cons_succ]
  refine wpAnyM_done (by kernel_rfl) ?_ _
  have HI : Hid (CopyIn w w6 f t ob (.slice none 0 0) (.slice As ns cs) (.slice A3 rr.length c3) (.slice Au nu cu) rf [] rr 0) :=
    { head := h6, ob := HOB.out, files := OwnL.nil_ _ _ _, len := rfl, each := fun j x y g _ hy => (by simp at hy), apart := fun j k x y _ hy => (by simp at hy), row := hA.turned_ T6 (fun k hk e => hAo (e ▸ hk)), below := HB5.out.trans (T6.below HB5.out.size (fun k hk => hk ▸ HOB.out)) }
  clear r0 r1 z3 y3 hw6 h5 h6 T5 T6 hA hG hM hAo hob5 HB5
  go_wp2
  go_loopw [4, 5] (fun i u wr => ∃ (k : Nat) (vq : Value) (rq : List RawF), k ≤ rf.length ∧ i = .int .i64 (k : Nat) ∧ Hid (CopyIn w wr f t ob vq (.slice As ns cs) (.slice A3 rr.length c3) (.slice Au nu cu) rf rq rr k)) (fun i _ _ => rf.length - (intOf i).toNat)
  case atStart => exact ⟨0, .slice none 0 0, [], by omega, rfl, HI.out⟩
  case round =>
    obtain ⟨k, vq, rq, hk, rfl, HQ⟩ := hrel
    clear HI
    have d1 : wr.cell? ⟨b, 1, none⟩ = some (.slice Af rf.length cf) := head_cell (HC.out _ HQ.out.below) rfl
    by_cases hlt : k < rf.length
    · have hki : (k : Int) < (rf.length : Int) := by omega
      have hk0 : (0 : Int) ≤ (k : Int) := by omega
      have wk : IntKind.i64.wrap ((k : Int) + 1) = (k : Int) + 1 := by rw [IntKind.wrap_i64]; omega
      have hkt : k < t.files.length := by have := HNF.out; omega
      obtain ⟨g, off, cf2, x, ef2, hsl, hgl, hx, e0, e1, hF⟩ := HH.out.file_at hkt
      simp only [Value.slice.injEq] at ef2
      obtain ⟨rfl, _, rfl⟩ := ef2
      obtain ⟨ra, hra, hOr, hrel⟩ := hF.acts
      have hgood := HH.out.good.frow _ (List.mem_of_getElem? (Sf.fileAt_some hkt))
      have hact := HH.out.good.acts
      have hral : ra.length ≤ 1099511627776 := by omega
      obtain ⟨⟨sA, sn, sc⟩, ⟨rA, rn, rc⟩⟩ := x
      change w.cell? ⟨g, off + k * 2, none⟩ = some (.slice sA sn sc) at e0
      change w.cell? ⟨g, off + k * 2 + 1, none⟩ = some (.slice rA rn rc) at e1
      have HX := Lib.hid hx
      have HRA := Lib.hid hra
      have HREL := Lib.hid hrel
      have HLR : Hid (∀ w', Below w.heap.size w w' → Lv aK w' w.heap.size (.slice rA rn rc) ra) := fun w' hb' => hOr.form_.below_ hb' (Nat.le_refl _)
      have HCX : Hid (∀ w', Below w.heap.size w w' → w'.cell? ⟨g, off + k * 2, none⟩ = some (.slice sA sn sc) ∧ w'.cell? ⟨g, off + k * 2 + 1, none⟩ = some (.slice rA rn rc)) := fun w' hb' => ⟨(hb'.cell (p := ⟨g, off + k * 2, none⟩) hgl).trans e0, (hb'.cell (p := ⟨g, off + k * 2 + 1, none⟩) hgl).trans e1⟩
      have f1 := (HCX.out wr HQ.out.below).2
      have HKT := Lib.hid hkt
      clear hkt hx hra hOr hrel hF e0 e1 hgl hgood hact
      go_wp2_with (at_builtin; go_must (refine wpList_append_m _ aK rfl _ _ rfl wr.heap.size (.slice none 0 0) rfl [] (OwnL.nil_ _ _ _) _ rfl w.heap.size ra (HLR.out wr HQ.out.below) (by show (0 + _) * 40 ≤ _; omega) (by simp only [maxLen, List.length_nil]; omega) (Nat.le_refl _) ?_; intro A4 c4 w2 hA2 hG2 hM2))
      rw [List.nil_append] at hA2
      have hb2 : Below wr.heap.size wr w2 := (Below.refl _ _).grown hG2 (Nat.le_refl _) (fun j hj => by cases hj)
      have HQ2 := Lib.hid (HQ.out.fresh hb2)
      have HA2 : Hid (OwnL aK w2 wr.heap.size (.slice A4 ra.length c4) ra) := hA2
      obtain ⟨Aq, cq, eq_, _⟩ := HQ2.out.files.form_
      have hql : rq.length ≤ 1099511627840 := by have := HQ2.out.len; omega
      subst eq_
      have HNW : Hid (CopyRow w w2 f ⟨⟨sA, sn, sc⟩, ⟨rA, rn, rc⟩⟩ ⟨⟨sA, sn, sc⟩, ⟨A4, ra.length, c4⟩⟩ (Sf.fileAt t k)) := ⟨rfl, ra, HRA.out, HA2.out.mono_ HQ.out.below.size, HREL.out⟩
      have HFAR : Hid (∀ k, (Value.slice A4 ra.length c4).ownBlock = some k → wr.heap.size ≤ k) := fun k hk => (HA2.out.lt_ k hk).1
      have HOLD : Hid (∀ (j : Nat) (y : RawF), rq[j]? = some y → ∀ q, (slV y.row).ownBlock = some q → q < wr.heap.size) := fun j y hy q hq => by
        have hj : j < rf.length := by have := (List.getElem?_eq_some_iff.1 hy).1; have := HQ.out.len; omega
        have hjt : j < t.files.length := by have := HNF.out; omega
        exact ((HQ.out.each j _ y _ (List.getElem?_eq_getElem hj) hy (Sf.fileAt_some hjt)).lt hq).2
      have hB2 := HQ2.out.below
      have s0 : w2.drew.cell? ⟨ob, 1, none⟩ = some (.slice Aq rq.length cq) ∧ w2.drew.cell? ⟨b, 1, none⟩ = some (.slice (some ⟨g, off, none⟩) rf.length cf) ∧ w2.drew.cell? ⟨g, off + k * 2, none⟩ = some (.slice sA sn sc) := ⟨head_cell (w := w2.drew) HQ2.out.head rfl, head_cell (HC.out _ hB2.drew) rfl, (HCX.out _ hB2.drew).1⟩
      have HB2 := Lib.hid hB2
      clear hA2 hG2 hM2 hb2 hB2 d1 f1
      go_wp2
      refine wp_region_m (fun w' => w'.cell? ⟨ob, 1, none⟩ = some (.slice Aq rq.length cq) ∧ w'.cell? ⟨b, 1, none⟩ = some (.slice (some ⟨g, off, none⟩) rf.length cf) ∧ w'.cell? ⟨g, off + k * 2, none⟩ = some (.slice sA sn sc)) 19 (by kernel_rfl) ?_
      refine wpAnyM_take (i := 0) (v := ?_) rfl (by kernel_rfl) (by kernel_rfl) (by kernel_rfl) (by kernel_rfl) (fun _ _ _ h => h) s0 (Or.inl ⟨by rfl, (by intro w' hSw; obtain ⟨q0, q2, q3⟩ := hSw; go_simp; first | done | with_reducible rfl)⟩) ?_
      try simp only [Act.put, List.getElem_toArray, List.getElem_cons_zero, List.setIfInBounds_toArray, List.set_cons_zero, List.set_cons_succ]
      refine wpAnyM_take (i := 1) (v := ?_) rfl (by kernel_rfl) (by kernel_rfl) (by kernel_rfl) (by kernel_rfl) (fun _ _ _ h => h) s0 (Or.inl ⟨by rfl, (by intro w' hSw; obtain ⟨q0, q2, q3⟩ := hSw; go_simp; first | done | with_reducible rfl)⟩) ?_
      try simp only [Act.put, List.getElem_toArray, List.getElem_cons_succ, List.getElem_cons_zero, List.setIfInBounds_toArray, List.set_cons_zero, List.set_cons_succ]
      refine wpAnyM_take (i := 2) (v := ?_) rfl (by kernel_rfl) (by kernel_rfl) (by kernel_rfl) (by kernel_rfl) (fun _ _ _ h => h) s0 (Or.inl ⟨by rfl, (by intro w' hSw; obtain ⟨q0, q2, q3⟩ := hSw; go_simp; first | done | with_reducible rfl)⟩) ?_
      try simp only [Act.put, List.getElem_toArray, List.getElem_cons_succ, List.getElem_cons_zero, List.setIfInBounds_toArray, List.set_cons_zero, List.set_cons_succ]
      refine wpAnyM_take (i := 3) (v := ?_) rfl (by kernel_rfl) (by kernel_rfl) (by kernel_rfl) (by kernel_rfl) (fun _ _ _ h => h) s0 (Or.inl ⟨by rfl, (by intro w' hSw; obtain ⟨q0, q2, q3⟩ := hSw; go_simp; first | done | with_reducible rfl)⟩) ?_
      try simp only [Act.put, List.getElem_toArray, List.getElem_cons_succ, List.getElem_cons_zero, List.setIfInBounds_toArray, List.set_cons_zero, List.set_cons_succ]
      refine wpAnyM_take (i := 4) (v := ?_) rfl (by kernel_rfl) (by kernel_rfl) (by kernel_rfl) (by kernel_rfl) (fun _ _ _ h => h) s0 (Or.inl ⟨by rfl, (by intro w' hSw; obtain ⟨q0, q2, q3⟩ := hSw; go_simp; first | done | with_reducible rfl)⟩) ?_
      try simp only [Act.put, List.getElem_toArray, List.getElem_cons_succ, List.getElem_cons_zero, List.setIfInBounds_toArray, List.set_cons_zero, List.set_cons_succ]
      refine wpAnyM_take (i := 5) (v := ?_) rfl (by kernel_rfl) (by kernel_rfl) (by kernel_rfl) (by kernel_rfl) (fun _ _ _ h => h) s0 (Or.inl ⟨by rfl, (by intro w' hSw; obtain ⟨q0, q2, q3⟩ := hSw; go_simp; first | done | with_reducible rfl)⟩) ?_
      try simp only [Act.put, List.getElem_toArray, List.getElem_cons_succ, List.getElem_cons_zero, List.setIfInBounds_toArray, List.set_cons_zero, List.set_cons_succ]
      refine wpAnyM_take (i := 6) (v := ?_) rfl (by kernel_rfl) (by kernel_rfl) (by kernel_rfl) (by kernel_rfl) (fun _ _ _ h => h) s0 (Or.inl ⟨by rfl, (by intro w' hSw; obtain ⟨q0, q2, q3⟩ := hSw; go_simp; first | done | with_reducible rfl)⟩) ?_
      try simp only [Act.put, List.getElem_toArray, List.getElem_cons_succ, List.getElem_cons_zero, List.setIfInBounds_toArray, List.set_cons_zero, List.set_cons_succ]
      refine wpAnyM_take (i := 7) (v := ?_) rfl (by kernel_rfl) (by kernel_rfl) (by kernel_rfl) (by kernel_rfl) (fun _ _ _ h => h) s0 (Or.inl ⟨by rfl, (by intro w' hSw; obtain ⟨q0, q2, q3⟩ := hSw; go_simp; first | done | with_reducible rfl)⟩) ?_
      try simp only [Act.put, List.getElem_toArray, List.getElem_cons_succ, List.getElem_cons_zero, List.setIfInBounds_toArray, List.set_cons_zero, List.set_cons_succ]
      refine wpAnyM_take (i := 8) (v := ?_) rfl (by kernel_rfl) (by kernel_rfl) (by kernel_rfl) (by kernel_rfl) (fun _ _ _ h => h) s0 (Or.inl ⟨by rfl, (by intro w' hSw; obtain ⟨q0, q2, q3⟩ := hSw; go_simp; first | done | with_reducible rfl)⟩) ?_
      try simp only [Act.put, List.getElem_toArray, List.getElem_cons_succ, List.getElem_cons_zero, List.setIfInBounds_toArray, List.set_cons_zero, List.set_cons_succ]
      refine wpAnyM_take (i := 9) (v := ?_) rfl (by kernel_rfl) (by kernel_rfl) (by kernel_rfl) (by kernel_rfl) (fun _ _ _ h => h) s0 (Or.inl ⟨by rfl, (by intro w' hSw; obtain ⟨q0, q2, q3⟩ := hSw; go_simp; first | done | with_reducible rfl)⟩) ?_
      try simp only [Act.put, List.getElem_toArray, List.getElem_cons_succ, List.getElem_cons_zero, List.setIfInBounds_toArray, List.set_cons_zero, List.set_cons_succ]
      refine wpAnyM_take (i := 10) (v := ?_) rfl (by kernel_rfl) (by kernel_rfl) (by kernel_rfl) (by kernel_rfl) (fun _ _ _ h => h) s0 (Or.inl ⟨by rfl, (by intro w' hSw; obtain ⟨q0, q2, q3⟩ := hSw; go_simp; first | done | with_reducible rfl)⟩) ?_
      try simp only [Act.put, List.getElem_toArray, List.getElem_cons_succ, List.getElem_cons_zero, List.setIfInBounds_toArray, List.set_cons_zero, List.set_cons_succ]
      refine wpAnyM_take (i := 11) (v := ?_) rfl (by kernel_rfl) (by kernel_rfl) (by kernel_rfl) (by kernel_rfl) (fun _ _ _ h => h) s0 (Or.inl ⟨by rfl, (by intro w' hSw; obtain ⟨q0, q2, q3⟩ := hSw; go_simp; first | done | with_reducible rfl)⟩) ?_
      try simp only [Act.put, List.getElem_toArray, List.getElem_cons_succ, List.getElem_cons_zero, List.setIfInBounds_toArray, List.set_cons_zero, List.set_cons_succ]
      refine wpAnyM_take (i := 12) (v := ?_) rfl (by kernel_rfl) (by kernel_rfl) (by kernel_rfl) (by kernel_rfl) (fun _ _ _ h => h) s0 (Or.inl ⟨by rfl, (by intro w' hSw; obtain ⟨q0, q2, q3⟩ := hSw; go_simp; first | done | with_reducible rfl)⟩) ?_
      try simp only [Act.put, List.getElem_toArray, List.getElem_cons_succ, List.getElem_cons_zero, List.setIfInBounds_toArray, List.set_cons_zero, List.set_cons_succ]
      refine wpAnyM_take (i := 13) (v := ?_) rfl (by kernel_rfl) (by kernel_rfl) (by kernel_rfl) (by kernel_rfl) (fun _ _ _ h => h) s0 (Or.inl ⟨by rfl, (by intro w' hSw; obtain ⟨q0, q2, q3⟩ := hSw; go_simp; first | done | with_reducible rfl)⟩) ?_
      try simp only [Act.put, List.getElem_toArray, List.getElem_cons_succ, List.getElem_cons_zero, List.setIfInBounds_toArray, List.set_cons_zero, List.set_cons_succ]
      refine wpAnyM_take (i := 14) (v := ?_) rfl (by kernel_rfl) (by kernel_rfl) (by kernel_rfl) (by kernel_rfl) (fun _ _ _ h => h) s0 (Or.inl ⟨by rfl, (by intro w' hSw; obtain ⟨q0, q2, q3⟩ := hSw; go_simp; first | done | with_reducible rfl)⟩) ?_
      try simp only [Act.put, List.getElem_toArray, List.getElem_cons_succ, List.getElem_cons_zero, List.setIfInBounds_toArray, List.set_cons_zero, List.set_cons_succ]
      refine wpAnyM_next (i := 15) (by kernel_rfl) rfl (fun K hK => ?_)
      go_simp
      have hob2 : ob < w2.heap.size := (Array.getElem?_eq_some_iff.1 HQ2.out.head).1
      have s1 : (w2.drew.alloc (.cells #[.slice sA sn sc, .slice A4 ra.length c4] 96)).cell? ⟨ob, 1, none⟩ = some (.slice Aq rq.length cq) ∧ (w2.drew.alloc (.cells #[.slice sA sn sc, .slice A4 ra.length c4] 96)).cell? ⟨b, 1, none⟩ = some (.slice (some ⟨g, off, none⟩) rf.length cf) ∧ (w2.drew.alloc (.cells #[.slice sA sn sc, .slice A4 ra.length c4] 96)).cell? ⟨g, off + k * 2, none⟩ = some (.slice sA sn sc) :=
        ⟨(((Below.refl w2.heap.size w2).drew.alloc (Nat.le_refl _) _).cell (p := ⟨ob, 1, none⟩) hob2).trans (head_cell HQ2.out.head rfl), head_cell (HC.out _ (HB2.out.drew.alloc HB2.out.size _)) rfl, (HCX.out _ (HB2.out.drew.alloc HB2.out.size _)).1⟩
      refine hK.out _ _ (.inr s1) ?_
      clear hK K
      try simp only [Act.put, List.getElem_toArray, List.getElem_cons_succ, List.getElem_cons_zero, List.setIfInBounds_toArray, List.set_cons_zero, List.set_cons_succ]
      refine wpAnyM_next (i := 16) (by kernel_rfl) rfl (fun K hK => ?_)
      refine step_push_m w2.drew fK rfl _ _ rfl w.heap.size (.slice Aq rq.length cq) rfl rq HQ2.out.files.drew_ rfl (⟨⟨sA, sn, sc⟩, ⟨A4, ra.length, c4⟩⟩ : RawF) trivial _ rfl _ rfl (by show (_ + 1) * 48 ≤ _; omega) (by simp only [maxLen]; omega) HB2.out.drew.size ?_
      intro A5 c5 w5 hA hG hM
      have hqo : (Value.slice Aq rq.length cq).ownBlock ≠ some ob := own_kind HQ2.out.files HQ2.out.head (by decide)
      have h5 : w5.heap[ob]? = some (.cells (headC t (.slice Aq rq.length cq) (.slice As ns cs) (.slice A3 rr.length c3) (.slice Au nu cu)) 53 (0, 0)) := (hG.block ob hob2 (fun e => hqo e.symm)).trans HQ2.out.head
      have hG' : w2.grownBy w5 (Value.slice Aq rq.length cq).ownBlock := ⟨hG.os, hG.tape, hG.output, hG.size, hG.block⟩
      have HB5 : Hid (Below w.heap.size w w5) := HB2.out.trans ((Turned.of_grown hG').below HB2.out.size (fun q hq => (HQ2.out.files.lt_ q hq).1))
      have s2 : w5.cell? ⟨ob, 1, none⟩ = some (.slice Aq rq.length cq) ∧ w5.cell? ⟨b, 1, none⟩ = some (.slice (some ⟨g, off, none⟩) rf.length cf) ∧ w5.cell? ⟨g, off + k * 2, none⟩ = some (.slice sA sn sc) := ⟨head_cell h5 rfl, head_cell (HC.out _ HB5.out) rfl, (HCX.out _ HB5.out).1⟩
      refine hK.out _ _ (.inr s2) ?_
      clear hK K s1 s0
      try simp only [Act.put, List.getElem_toArray, List.getElem_cons_succ, List.getElem_cons_zero, List.setIfInBounds_toArray, List.set_cons_zero, List.set_cons_succ]
      refine wpAnyM_next (i := 17) (by kernel_rfl) rfl (fun K hK => ?_)
      go_simp
      refine hK.out _ _ (.inr s2) ?_
      clear hK K
      try simp only [Act.put, List.getElem_toArray, List.getElem_cons_succ, List.getElem_cons_zero, List.setIfInBounds_toArray, List.set_cons_zero, List.set_cons_succ]
      refine wpAnyM_next (i := 18) (by kernel_rfl) rfl (fun K hK => ?_)
      go_simp
      refine hK.out _ _ (.inr s2) ?_
      clear hK K
      try simp only [Act.put, List.getElem_toArray, List.getElem_cons_succ, List.getElem_cons_zero, List.setIfInBounds_toArray, List.set_cons_zero, List.set_cons_succ]
      have z1 : w5.frozen? ⟨ob, 1, none⟩ = false := frozen_of_row w5 ob 1 _ _ h5
      have y1 := s2.1
      have h6 := head_set h5 1 (.slice A5 (rq.length + 1) c5) (C' := headC t (.slice A5 (rq.length + 1) c5) (.slice As ns cs) (.slice A3 rr.length c3) (.slice Au nu cu)) rfl
      have T6 := Turned.setCell (F := fun k => k = ob) (Turned.refl (fun k => k = ob) w5) (p := ⟨ob, 1, none⟩) (fun _ => rfl) (.slice A5 (rq.length + 1) c5)
      have hAo : (Value.slice A5 (rq.length + 1) c5).ownBlock ≠ some ob := own_kind hA h5 (by decide)
      obtain ⟨w6, hw6⟩ : ∃ w6, w5.setCell ⟨ob, 1, none⟩ (.slice A5 (rq.length + 1) c5) = w6 := ⟨_, rfl⟩
      rw [hw6] at h6 T6
      refine wpAnyM_next (i := 19) (by kernel_rfl) rfl (fun K hK => ?_)
      go_simp
      refine hK.out _ _ (.inl (Nat.le_refl _)) ?_
      clear hK K
      try simp only [Act.put, List.getElem_toArray, List.getElem_cons_succ, List.getElem_cons_zero, List.setIfInBounds_toArray, List.set_cons_zero, List.set_cons_succ]
      refine wpAnyM_done (by kernel_rfl) ?_ _
      have HS := Lib.hid (HQ2.out.step HX.out (Sf.fileAt_some HKT.out) (s2 := ⟨A4, ra.length, c4⟩) (n0 := wr.heap.size) HNW.out HFAR.out HOLD.out hA hG' T6 h6 hAo HKT.out HNF.out)
      clear s2 z1 y1 h5 h6 T6 hA hG hG' hM hAo hqo hw6 hob2
      go_wp2
      go_roundw
      case rel => exact ⟨k + 1, _, _, by omega, by go_num, HS.out⟩
      case measure => simp [intOf]; omega
    · have hki : ¬ (k : Int) < (rf.length : Int) := by omega
      have HE := Lib.hid (HQ.out.end_ (by omega) HH.out)
      have HBQ := Lib.hid HQ.out.below
      clear HQ
      go_wp2
      go_ret
      exact ⟨ob, _, rfl, ⟨_, _, _, _, _, _, HE.out⟩, fun k hk => hk.1, fun k hk => .inl hk, HBQ.out⟩
end
end Go.Proofs.YtmcbjcbnckpfkaaGreat
namespace Go.Proofs.YtmcbjcbnckpfkaaGreat
open Go.RowKit
set_option linter.unusedVariables false
theorem isName_bad {s : ByteArray} {k : Nat} {c : UInt8} (h : s.toList[k]? = some c) (hc : Sf.okChar c = false) : Sf.isName s = false := by
  unfold Sf.isName
  have : s.toList.all Sf.okChar = false := by
    rw [List.all_eq_false]
    exact ⟨c, List.mem_of_getElem? h, by simp [hc]⟩
  rw [this]; rfl
theorem toList_size (s : ByteArray) : s.toList.length = s.size := by rw [ByteArray.toList_eq]; rfl
theorem okChar_iff (c : UInt8) : Sf.okChar c = true ↔ (97 ≤ c.toNat ∧ c.toNat ≤ 122) ∨ (48 ≤ c.toNat ∧ c.toNat ≤ 57) ∨ c.toNat = 46 ∨ c.toNat = 45 := by
  unfold Sf.okChar
  simp only [Bool.or_eq_true, Bool.and_eq_true, decide_eq_true_eq]
  omega
set_option maxHeartbeats 2000000 in
set_option maxRecDepth 100000 in
theorem rname_any (s : ByteArray) (hs : s.size ≤ maxLen) (w : World) : Calls Tryz.prog 77 #[.string s] w (fun e w' => e = .returned (.bool (Sf.isName s)) ∧ w = w') := by
  have hl : s.size ≤ 9223372036854775807 := by simp only [maxLen] at hs; omega
  go_enter Tryz.func77, Tryz.ntmps77
  go_wp2
  go_loop [3, 4] (fun i _ => ∃ k : Nat, k ≤ s.size ∧ i = .int .i64 (k : Nat) ∧ Hid ((s.toList.take k).all Sf.okChar = true)) (fun i _ => s.size - (intOf i).toNat)
  case atStart => exact ⟨0, by omega, rfl, by simp [Hid]⟩
  case round =>
    obtain ⟨k, hk, rfl, HA⟩ := hrel
    by_cases hlt : k < s.size
    · have hki : (k : Int) < (s.size : Int) := by omega
      have hk0 : (0 : Int) ≤ (k : Int) := by omega
      have wk : IntKind.i64.wrap ((k : Int) + 1) = (k : Int) + 1 := by rw [IntKind.wrap_i64]; omega
      have hkl : k < s.toList.length := by rw [toList_size]; exact hlt
      obtain ⟨c, hc⟩ : ∃ c, s.toList[k]? = some c := ⟨_, List.getElem?_eq_getElem hkl⟩
      have hix : (Instr.index 9 (.string s) (.int .i64 (k : Nat))).run Tryz.prog w = .ok (.int .u8 (c.toNat : Nat)) w := by
        rw [run_index_string (P := Tryz.prog) w 9 s .i64 (k : Nat) Tryz.underlying9]
        rw [ByteArray.toList_eq] at hc
        have hd : s.data[k]? = some c := by simpa using hc
        rw [dif_pos ⟨by omega, by omega⟩]
        have hk2 : k < s.data.size := hlt
        rw [Array.getElem?_eq_getElem hk2] at hd
        have he := Option.some.inj hd
        have h2 : (s[((k : Nat) : Int).toNat]'(by rw [Int.toNat_natCast]; exact hlt)) = c := he
        rw [h2]
      obtain ⟨x, hx⟩ : ∃ x : Nat, c.toNat = x := ⟨_, rfl⟩
      have HC := Lib.hid hc
      have HOK := Lib.hid (okChar_iff c)
      rw [hx] at hix HOK
      have HA2 : Hid (Sf.okChar c = true → (s.toList.take (k + 1)).all Sf.okChar = true) := fun h => by
        rw [List.take_add_one, HC.out, List.all_append, HA.out]; simp [h]
      have HBAD : Hid (Sf.okChar c = false → Sf.isName s = false) := fun h => isName_bad HC.out h
      clear hc hkl hx HA HC
      by_cases c1 : x < 97
      · skip
        by_cases c2 : x < 48
        · skip
          by_cases c3 : x = 46
          · skip
            have q0 : (x : Int) < 97 := by omega
            have q1 : (x : Int) < 48 := by omega
            have e46 : ((x : Int) != 46) = false := by rw [bne_eq_false_iff_eq]; omega
            have HG := Lib.hid (HA2.out (HOK.out.2 (by omega)))
            clear HA2 HBAD HOK
            go_wp2
            go_round
            case rel => exact ⟨k + 1, by omega, by go_num, HG.out⟩
            case measure => simp [intOf]; omega
          · skip
            by_cases c4 : x = 45
            · skip
              have q0 : (x : Int) < 97 := by omega
              have q1 : (x : Int) < 48 := by omega
              have e46 : ((x : Int) != 46) = true := by rw [bne_iff_ne]; omega
              have e45 : ((x : Int) != 45) = false := by rw [bne_eq_false_iff_eq]; omega
              have HG := Lib.hid (HA2.out (HOK.out.2 (by omega)))
              clear HA2 HBAD HOK
              go_wp2
              go_round
              case rel => exact ⟨k + 1, by omega, by go_num, HG.out⟩
              case measure => simp [intOf]; omega
            · skip
              have q0 : (x : Int) < 97 := by omega
              have q1 : (x : Int) < 48 := by omega
              have e46 : ((x : Int) != 46) = true := by rw [bne_iff_ne]; omega
              have e45 : ((x : Int) != 45) = true := by rw [bne_iff_ne]; omega
              have HG := Lib.hid (HBAD.out (by cases h : Sf.okChar c with | false => rfl | true => exact absurd (HOK.out.1 h) (by omega)))
              clear HA2 HBAD HOK
              go_wp2
              go_ret
              exact ⟨congrArg (fun b => Ending.returned (Value.bool b)) HG.out.symm, rfl⟩
        · skip
          by_cases c5 : 57 < x
          · skip
            have q0 : (x : Int) < 97 := by omega
            have q1 : ¬ (x : Int) < 48 := by omega
            have q2 : (57 : Int) < (x : Int) := by omega
            have e46 : ((x : Int) != 46) = true := by rw [bne_iff_ne]; omega
            have e45 : ((x : Int) != 45) = true := by rw [bne_iff_ne]; omega
            have HG := Lib.hid (HBAD.out (by cases h : Sf.okChar c with | false => rfl | true => exact absurd (HOK.out.1 h) (by omega)))
            clear HA2 HBAD HOK
            go_wp2
            go_ret
            exact ⟨congrArg (fun b => Ending.returned (Value.bool b)) HG.out.symm, rfl⟩
          · skip
            have q0 : (x : Int) < 97 := by omega
            have q1 : ¬ (x : Int) < 48 := by omega
            have q2 : ¬ (57 : Int) < (x : Int) := by omega
            have HG := Lib.hid (HA2.out (HOK.out.2 (by omega)))
            clear HA2 HBAD HOK
            go_wp2
            go_round
            case rel => exact ⟨k + 1, by omega, by go_num, HG.out⟩
            case measure => simp [intOf]; omega
      · skip
        by_cases c6 : 122 < x
        · skip
          have q0 : ¬ (x : Int) < 97 := by omega
          have q1 : (122 : Int) < (x : Int) := by omega
          have q2 : ¬ (x : Int) < 48 := by omega
          have q3 : (57 : Int) < (x : Int) := by omega
          have e46 : ((x : Int) != 46) = true := by rw [bne_iff_ne]; omega
          have e45 : ((x : Int) != 45) = true := by rw [bne_iff_ne]; omega
          have HG := Lib.hid (HBAD.out (by cases h : Sf.okChar c with | false => rfl | true => exact absurd (HOK.out.1 h) (by omega)))
          clear HA2 HBAD HOK
          go_wp2
          go_ret
          exact ⟨congrArg (fun b => Ending.returned (Value.bool b)) HG.out.symm, rfl⟩
        · skip
          have q0 : ¬ (x : Int) < 97 := by omega
          have q1 : ¬ (122 : Int) < (x : Int) := by omega
          have HG := Lib.hid (HA2.out (HOK.out.2 (by omega)))
          clear HA2 HBAD HOK
          go_wp2
          go_round
          case rel => exact ⟨k + 1, by omega, by go_num, HG.out⟩
          case measure => simp [intOf]; omega
    · have hki : ¬ (k : Int) < (s.size : Int) := by omega
      have hall : s.toList.all Sf.okChar = true := by
        have h := HA.out
        rw [List.take_of_length_le (by rw [toList_size]; omega)] at h
        exact h
      have HE : Hid (Sf.isName s = (decide (1 ≤ s.size) && decide (s.size ≤ 32))) := by unfold Hid Sf.isName; rw [hall]; rfl
      clear hall HA
      by_cases h1 : (1 : Int) ≤ (s.size : Int)
      · by_cases h2 : (s.size : Int) ≤ 32
        · have HT : Hid ((decide (1 ≤ s.size) && decide (s.size ≤ 32)) = true) := by unfold Hid; rw [Bool.and_eq_true, decide_eq_true_eq, decide_eq_true_eq]; omega
          go_wp2
          go_ret
          exact ⟨congrArg (fun b => Ending.returned (Value.bool b)) (HE.out.trans HT.out).symm, rfl⟩
        · have HT : Hid ((decide (1 ≤ s.size) && decide (s.size ≤ 32)) = false) := by unfold Hid; rw [Bool.and_eq_false_iff]; right; rw [decide_eq_false_iff_not]; omega
          go_wp2
          go_ret
          exact ⟨congrArg (fun b => Ending.returned (Value.bool b)) (HE.out.trans HT.out).symm, rfl⟩
      · have HT : Hid ((decide (1 ≤ s.size) && decide (s.size ≤ 32)) = false) := by unfold Hid; rw [Bool.and_eq_false_iff]; left; rw [decide_eq_false_iff_not]; omega
        go_wp2
        go_ret
        exact ⟨congrArg (fun b => Ending.returned (Value.bool b)) (HE.out.trans HT.out).symm, rfl⟩
end Go.Proofs.YtmcbjcbnckpfkaaGreat
namespace Go.Proofs.YtmcbjcbnckpfkaaGreat
open Go.RowKit
set_option linter.unusedVariables false
/-- A taker: its list and its place. -/
def Taker (w : World) (tb : Nat) (v : Value) (at_ : Nat) : Prop := w.heap[tb]? = some (.cells #[v, .int .i64 (at_ : Nat)] 92 (0, 0))
theorem Taker.lt {w : World} {tb : Nat} {v : Value} {a : Nat} (h : Taker w tb v a) : tb < w.heap.size := (Array.getElem?_eq_some_iff.1 h).1
theorem took_end {l : List Int} {a : Nat} (h : l.length ≤ a) (m : Nat) : Sf.took (l.drop a) m = 0 := by rw [List.drop_of_length_le h]; rfl
theorem took_at {l : List Int} {a : Nat} {x : Int} (h : l[a]? = some x) (m : Nat) : Sf.took (l.drop a) m = Sf.left x m := by
  have ha := (List.getElem?_eq_some_iff.1 h).1
  rw [List.drop_eq_getElem_cons ha]
  rw [List.getElem?_eq_getElem ha] at h
  show Sf.left l[a] m = _
  rw [Option.some.inj h]
set_option maxHeartbeats 4000000 in
set_option maxRecDepth 100000 in
theorem rtake_any (w : World) (tb : Nat) (v : Value) (l : List Int) (a : Nat) (B : Nat) (hv : Lv iK w B v l) (hB : B ≤ tb) (ht : Taker w tb v a) (ha : a ≤ l.length) (m : Nat) (hm0 : 0 < m) (hm : m < 9223372036854775808) :
    Calls Tryz.prog 62 #[.pointer (some ⟨tb, 0, none⟩), .int .i64 (m : Nat)] w (fun e w' => e = .returned (.int .i64 (Sf.took (l.drop a) m : Nat)) ∧ Taker w' tb v (min (a + 1) l.length) ∧ Turned (fun k => k = tb) w w') := by
  have H0 := Lib.hid hv
  obtain ⟨A, c, rfl, hc1, hc2, _, _⟩ := hv
  have hl : l.length ≤ 9223372036854775807 := by simp only [maxLen] at hc2; omega
  have HT := Lib.hid ht
  have d0 : w.cell? ⟨tb, 0, none⟩ = some (.slice A l.length c) := by rw [cell_of_row _ tb 0 _ _ _ ht]; rfl
  have d1 : w.cell? ⟨tb, 1, none⟩ = some (.int .i64 (a : Nat)) := by rw [cell_of_row _ tb 1 _ _ _ ht]; rfl
  have f1 : w.frozen? ⟨tb, 1, none⟩ = false := frozen_of_row w tb 1 _ _ ht
  clear ht hc1 hc2
  by_cases he : a = l.length
  · have HE := Lib.hid (took_end (l := l) (a := a) (by omega) m)
    have HM : Hid (min (a + 1) l.length = a) := by unfold Hid; omega
    have q : (((a : Nat) : Int) == ((l.length : Nat) : Int)) = true := by rw [beq_iff_eq]; omega
    clear he
    go_enter Tryz.func62, Tryz.ntmps62
    go_wp2
    go_quiet (fail)
    go_wp2
    go_ret
    rw [HE.out, HM.out]
    exact ⟨rfl, HT.out, (Turned.refl _ _).drewN _⟩
  · have hlt : a < l.length := by omega
    obtain ⟨b, off, x, rfl, hb, hx, hq, hcell⟩ := H0.out.int_ hlt
    have HE := Lib.hid (took_at hq m)
    have HM : Hid (min (a + 1) l.length = a + 1) := by unfold Hid; omega
    have q : (((a : Nat) : Int) == ((l.length : Nat) : Int)) = false := by rw [beq_eq_false_iff_ne]; omega
    have wa : IntKind.i64.wrap ((a : Int) + 1) = (a : Int) + 1 := by rw [IntKind.wrap_i64]; omega
    have wb : IntKind.i64.wrap ((a : Int) + 1 - 1) = (a : Int) := by rw [IntKind.wrap_i64]; omega
    have hne : b ≠ tb := by omega
    have HL : Hid (∀ n, Taker ((w.drewN n).setCell ⟨tb, 1, none⟩ (.int .i64 ((a : Int) + 1))) tb (.slice (some ⟨b, off, none⟩) l.length c) (a + 1)) := fun n => by
      have h := heap_setCell_same (w.drewN n) tb 1 _ _ (.int .i64 ((a : Int) + 1)) HT.out
      exact h
    have HTu : Hid (∀ n, Turned (fun k => k = tb) w ((w.drewN n).setCell ⟨tb, 1, none⟩ (.int .i64 ((a : Int) + 1)))) := fun n => Turned.setCell (F := fun k => k = tb) ((Turned.refl (fun k => k = tb) w).drewN n) (p := ⟨tb, 1, none⟩) (fun _ => rfl) _
    have e0 : ∀ n, ((w.drewN n).setCell ⟨tb, 1, none⟩ (.int .i64 ((a : Int) + 1))).cell? ⟨tb, 0, none⟩ = some (.slice (some ⟨b, off, none⟩) l.length c) := fun n => by rw [cell_of_row _ tb 0 _ _ _ (HL.out n)]; rfl
    have e1 : ∀ n, ((w.drewN n).setCell ⟨tb, 1, none⟩ (.int .i64 ((a : Int) + 1))).cell? ⟨tb, 1, none⟩ = some (.int .i64 ((a : Int) + 1)) := fun n => by rw [cell_of_row _ tb 1 _ _ _ (HL.out n)]; rfl
    have ec : ∀ n, ((w.drewN n).setCell ⟨tb, 1, none⟩ (.int .i64 ((a : Int) + 1))).cell? ⟨b, off + a, none⟩ = some (.int .i64 x) := fun n => ((Turned.cell (HTu.out n) hcell) hne)
    have hlen : (a : Int) < (l.length : Int) := by omega
    have ha0 : (0 : Int) ≤ (a : Int) := by omega
    clear he hq hcell hx ha
    go_enter Tryz.func62, Tryz.ntmps62
    obtain ⟨X, hX⟩ : ∃ X, (x % 18446744073709551616).toNat = X := ⟨_, rfl⟩
    have wu : IntKind.u64.wrap x = (X : Int) := by rw [IntKind.wrap_u64]; omega
    have wm : IntKind.u64.wrap (m : Int) = (m : Int) := by rw [IntKind.wrap_u64]; omega
    have HLF : Hid (Sf.left x m = X % m) := by unfold Hid Sf.left; rw [hX]
    obtain ⟨R, hR⟩ : ∃ R, X % m = R := ⟨_, rfl⟩
    have hRm : R < m := by rw [← hR]; exact Nat.mod_lt _ hm0
    have wr1 : (X : Int) % (m : Int) = (R : Int) := by rw [← hR]; omega
    have wr2 : IntKind.i64.wrap (R : Int) = (R : Int) := by rw [IntKind.wrap_i64]; omega
    have wr3 : wrap64 (R : Int) = (R : Int) := by unfold wrap64; omega
    have hm1 : ¬ (m : Int) = 0 := by omega
    rw [hR] at HLF
    go_wp2
    go_quiet (fail)
    rename_i nq
    obtain ⟨W9, hW9⟩ : ∃ W, (w.drewN nq).setCell ⟨tb, 1, none⟩ (.int .i64 ((a : Int) + 1)) = W := ⟨_, rfl⟩
    have g0 := e0 nq
    have g1 := e1 nq
    have g2 := ec nq
    have HL9 := Lib.hid (HL.out nq)
    have HT9 := Lib.hid (HTu.out nq)
    have d1' : (w.drewN nq).cell? ⟨tb, 1, none⟩ = some (.int .i64 (a : Nat)) := d1
    have f1' : (w.drewN nq).frozen? ⟨tb, 1, none⟩ = false := f1
    rw [hW9] at g0 g1 g2 HL9 HT9
    clear e0 e1 ec d0 d1 f1 hR hX HL HTu HT
    go_wp2
    go_quiet (fail)
    go_wp2
    go_ret
    rw [HE.out, HLF.out, HM.out]
    exact ⟨rfl, HL9.out, HT9.out.drewN _⟩
end Go.Proofs.YtmcbjcbnckpfkaaGreat
