/-
  RSfWa: stookref14: add.
  RSfX: stookref14: a disk of which one file is made sure; one with one more file; a new one.
  RSfY: stookref14: how many files a disk has had, where one more may be made.
-/
import Derived.Test.YtmcbjcbnckpfkaaGreatPt29
import Derived.Test.YtmcbjcbnckpfkaaGreatPt30
import Derived.Test.YtmcbjcbnckpfkaaGreatPt15
import Derived.Test.YtmcbjcbnckpfkaaGreatPt02
import Derived.Test.YtmcbjcbnckpfkaaGreatPt08
import Derived.Deep.RegionHeld3
namespace Go.Proofs.YtmcbjcbnckpfkaaGreat
open Go.RowKit
set_option linter.unusedVariables false
theorem act_size : (Tryz.prog.info? 101).map (·.size) = some 3 := by kernel_rfl
theorem exec_rowW {P : Program} {a : Act} {o : Oper} (ty : TypeId) (x : Operand) (ho : o.op = .load ty x) (g : Nat) (hx : a.eval x = .pointer (some ⟨g, 0, none⟩)) (t : TypeId) (cs : Array Value) (fr : Nat × Nat) (d : TypeDesc) (w : World)
    (hg : w.heap[g]? = some (.cells cs t fr)) (hu : P.underlying ty = some d) (hd : (match d with | .struct _ | .array _ _ => true | _ => false) = true) (hi : (P.info? ty).map (·.size) = some cs.size) :
    (execOp a.eval o).run P w = .ok (.value (.agg cs)) w := by
  unfold execOp
  simp only [ho, hx, Instr.loadAt, Instr.sureAddr, Sem.run_bind, Sem.run_pure, Result.andThen_ok, run_loadVar_row w g t ty cs fr d hg hu hd hi]
section
variable {w : World} {f : Fp} {t : Sf.St} {b : Nat}
set_option maxHeartbeats 4000000 in
set_option maxRecDepth 100000 in
theorem radd_disk (h : RDiskM w f t b) (hf : Sf.Few t) (n0 : Nat) (hn0 : n0 ≤ w.heap.size) (n : Nat) (hn : n < t.files.length) (cut : Bool) (a : Nat) (u : Value) (l : List Nat) (hu : Lv yK w w.heap.size u l)
    (hblk : 0 < l.length → ∀ k, u.ownBlock = some k → ¬ f.M k ∧ k < w.heap.size ∧ (f.R k ∨ n0 ≤ k)) (ha : a ≤ (Sf.now (Sf.fileAt t n)).length) (hl : l.length ≤ 1048576) (hcut : cut = true → l = []) (hd : (Sf.done (Sf.now (Sf.fileAt t n)) ⟨cut, a, l⟩).length ≤ 1048576) :
    Calls Tryz.prog 82 #[.pointer (some ⟨b, 0, none⟩), .int .i64 (n : Nat), .agg #[.bool cut, .int .i64 (a : Nat), u]] w (fun e w' => e = .returned (.int .i64 ((Sf.add t n ⟨cut, a, l⟩).1 : Nat)) ∧ ∃ f', RDiskM w' f' (Sf.add t n ⟨cut, a, l⟩).2 b ∧ f.Next f' n0 ∧ Turned f.M w w') := by
  obtain ⟨vf, vs, vr, vu, rf, rr, h0⟩ := h
  -- behind the box of the act
  obtain ⟨W, hW⟩ : ∃ W, w.alloc (.cells #[.bool cut, .int .i64 (a : Nat), u] 101) = W := ⟨_, rfl⟩
  obtain ⟨z, hz⟩ : ∃ z, w.heap.size = z := ⟨_, rfl⟩
  have hbx : Rw W z 101 #[.bool cut, .int .i64 (a : Nat), u] := by rw [← hW, ← hz]; exact Rw.new w _ _
  have hbW : Below z w W := by rw [← hW, ← hz]; exact (Below.refl _ _).alloc (Nat.le_refl _) _
  have h : RHas W f t b vf vs vr vu rf rr := h0.below (by rw [hz]; exact hbW)
  have hWs : W.heap.size = z + 1 := by rw [← hW, ← hz]; simp
  have hu' : Lv yK W W.heap.size u l := (hu.below_ (by rw [hz]; exact hbW) (Nat.le_refl _)).mono_ (by omega)
  obtain ⟨Au, cu, eu, _⟩ := hu
  obtain ⟨nu, hnu⟩ : ∃ n, l.length = n := ⟨_, rfl⟩
  rw [hnu] at eu
  subst eu
  obtain ⟨g, off, cf, x, evf, hsl, hgl, hx, c0, c1, hF⟩ := h.file_at hn
  have hown := h.body.files
  rw [evf] at hown
  have hoff : off = 0 := by
    rcases hown.2 with ⟨e, _⟩ | ⟨g', s, e, _⟩
    · cases e
    · injection e with e1 e2 e3
      injection e1 with e1
      injection e1 with e1 e2
  subst hoff
  obtain ⟨ra, hra, hOr, hrel⟩ := hF.acts
  have hok := hF.ok.push (a := ⟨cut, a, l⟩) ha hl hcut hd (by have := h.good.frow _ (List.mem_of_getElem? (Sf.fileAt_some hn)); have := h.good.acts; omega)
  have hnf := h.body.nfiles
  have hgk : vf.ownBlock = some g := by rw [evf]; rfl
  have hrn : ra.length ≤ 1099511627776 := by rw [hra]; have := h.good.frow _ (List.mem_of_getElem? (Sf.fileAt_some hn)); have := h.good.acts; omega
  obtain ⟨⟨sA, sn, sc⟩, ⟨rA, rn, rc⟩⟩ := x
  have ern : rn = ra.length := by
    rcases hOr.2 with ⟨e, e2⟩ | ⟨g', s, e, _⟩
    · simp only [slV, Value.slice.injEq] at e; rw [e2]; exact e.2.1
    · simp only [slV, Value.slice.injEq] at e; exact e.2.1
  subst ern
  have HC1 : Hid (W.cell? ⟨b, 1, none⟩ = some (.slice (some ⟨g, 0, none⟩) t.files.length cf)) := by have := h.cell (j := 1) rfl; rw [evf] at this; exact this
  have HCR : Hid (W.cell? ⟨g, n * 2 + 1, none⟩ = some (.slice rA ra.length rc)) := by have := c1; rw [Nat.zero_add] at this; exact this
  have hb : b < W.heap.size := h.lt b (.inl h.mine)
  -- what the append leaves
  have hgb : g ≠ b := fun e => h.files_ne (e ▸ hgk)
  have hzb : z ≠ b := by have := h0.lt b (.inl h0.mine); omega
  have hzg : z ≠ g := by have := h0.lt g (.inl (h0.body.filesM g hgk)); omega
  have hrz : (Value.slice rA ra.length rc).ownBlock ≠ some z := fun e => by have := h0.lt z (.inl (h0.body.rowMs n _ hx z e)); omega
  have hrg : (Value.slice rA ra.length rc).ownBlock ≠ some g := h.file_two hx hgk
  have hrb : (Value.slice rA ra.length rc).ownBlock ≠ some b := h.acts_ne n _ hx
  have HH := Lib.hid h
  have HX := Lib.hid hx
  have HU := Lib.hid hu'
  have HRA := Lib.hid hra
  have HOR := Lib.hid hOr
  have HREL := Lib.hid hrel
  have HOK := Lib.hid hok
  have HBX := Lib.hid hbx
  have HHD := Lib.hid h.head
  have HNE : Hid (g ≠ b ∧ z ≠ b ∧ z ≠ g ∧ (Value.slice rA ra.length rc).ownBlock ≠ some z ∧ (Value.slice rA ra.length rc).ownBlock ≠ some g ∧ (Value.slice rA ra.length rc).ownBlock ≠ some b) := ⟨hgb, hzb, hzg, hrz, hrg, hrb⟩
  have HLT : Hid (g < W.heap.size ∧ b < W.heap.size ∧ z < W.heap.size ∧ W.heap.size = z + 1) := ⟨hgl, hb, by omega, hWs⟩
  have HGA : Hid (t.acts ≤ 1099511627776 ∧ t.fuse < 9223372036854775808) := ⟨h.good.acts, h.good.fuse⟩
  have HF := Lib.hid hf
  have HP := Lib.hid hblk
  have HEV := Lib.hid evf
  have HNF := Lib.hid hnf
  have HNN := Lib.hid hn
  have HBW : Hid (Below z w W) := hbW
  have HZ : Hid (w.heap.size = z) := hz
  have HN0 := Lib.hid hn0
  have HA : Hid (a ≤ 1048576) := by have := hF.ok.len _ (Nat.le_refl _); rw [Sf.bytes_all] at this; unfold Hid; omega
  have HFZ : Hid (∀ w5, Turned (fun k => (Value.slice rA ra.length rc).ownBlock = some k) W w5 → w5.frozen? ⟨g, n * 2 + 1, none⟩ = false) := fun w5 T5 => by
    have hf5 : OwnL fK w5 0 vf rf := h.body.files.turned_ T5 (fun k hk e => h.file_two hx hk e)
    rw [evf] at hf5
    rcases hf5.2 with ⟨e, _⟩ | ⟨g', s, e, _, _, _, hh⟩
    · cases e
    · injection e with e1 e2 e3
      injection e1 with e1
      injection e1 with e1
      subst e1
      exact frozen_of_row w5 g _ _ _ hh
  have HM0 : Hid (f.Lt z) := hz ▸ h0.lt
  have hni : (n : Int) < (t.files.length : Int) := by omega
  have hni0 : (0 : Int) ≤ (n : Int) := by omega
  have hS0 : W.drew.cell? ⟨b, 1, none⟩ = some (.slice (some ⟨g, 0, none⟩) t.files.length cf) ∧ W.drew.cell? ⟨g, n * 2 + 1, none⟩ = some (.slice rA ra.length rc) ∧ Rw W.drew z 101 #[.bool cut, .int .i64 (a : Nat), .slice Au nu cu] := ⟨HC1.out, HCR.out, HBX.out.drew⟩
  clear h h0 hbx hbW hu' hown hF hx c0 c1 hra hOr hrel hok hf hblk hz hn0 hWs hgl hb hgb hzb hzg hrz hrg hrb hgk hnf evf ha hl hcut hd hnu
  go_enter Tryz.func82, Tryz.ntmps82
  go_wp2_with fail
  rw [HZ.out]
  refine wp_region_m (fun w' => w'.cell? ⟨b, 1, none⟩ = some (.slice (some ⟨g, 0, none⟩) t.files.length cf) ∧ w'.cell? ⟨g, n * 2 + 1, none⟩ = some (.slice rA ra.length rc) ∧ Rw w' z 101 #[.bool cut, .int .i64 (a : Nat), .slice Au nu cu]) 18 (by kernel_rfl) ?_
  refine wpAnyM_take (i := 0) (v := ?_) rfl (by kernel_rfl) (by kernel_rfl) (by kernel_rfl) (by kernel_rfl) (fun _ _ _ h => h) hS0 (Or.inl ⟨by rfl, (by intro w' hSw; obtain ⟨s1, s2, s3⟩ := hSw; go_simp; first | done | with_reducible rfl)⟩) ?_
  try simp only [Act.put, List.getElem_toArray, List.getElem_cons_zero, List.setIfInBounds_toArray, List.set_cons_zero, List.set_cons_succ]
  refine wpAnyM_take (i := 1) (v := ?_) rfl (by kernel_rfl) (by kernel_rfl) (by kernel_rfl) (by kernel_rfl) (fun _ _ _ h => h) hS0 (Or.inl ⟨by rfl, (by intro w' hSw; obtain ⟨s1, s2, s3⟩ := hSw; go_simp; first | done | with_reducible rfl)⟩) ?_
  try simp only [Act.put, List.getElem_toArray, List.getElem_cons_succ, List.getElem_cons_zero, List.setIfInBounds_toArray, List.set_cons_zero, List.set_cons_succ]
  refine wpAnyM_take (i := 2) (v := ?_) rfl (by kernel_rfl) (by kernel_rfl) (by kernel_rfl) (by kernel_rfl) (fun _ _ _ h => h) hS0 (Or.inl ⟨by rfl, (by intro w' hSw; obtain ⟨s1, s2, s3⟩ := hSw; go_simp; first | done | with_reducible rfl)⟩) ?_
  try simp only [Act.put, List.getElem_toArray, List.getElem_cons_succ, List.getElem_cons_zero, List.setIfInBounds_toArray, List.set_cons_zero, List.set_cons_succ]
  refine wpAnyM_take (i := 3) (v := ?_) rfl (by kernel_rfl) (by kernel_rfl) (by kernel_rfl) (by kernel_rfl) (fun _ _ _ h => h) hS0 (Or.inl ⟨by rfl, (by intro w' hSw; obtain ⟨s1, s2, s3⟩ := hSw; go_simp; first | done | with_reducible rfl)⟩) ?_
  try simp only [Act.put, List.getElem_toArray, List.getElem_cons_succ, List.getElem_cons_zero, List.setIfInBounds_toArray, List.set_cons_zero, List.set_cons_succ]
  refine wpAnyM_take (i := 4) (v := ?_) rfl (by kernel_rfl) (by kernel_rfl) (by kernel_rfl) (by kernel_rfl) (fun _ _ _ h => h) hS0 (Or.inl ⟨by rfl, (by intro w' hSw; obtain ⟨s1, s2, s3⟩ := hSw; go_simp; first | done | with_reducible rfl)⟩) ?_
  try simp only [Act.put, List.getElem_toArray, List.getElem_cons_succ, List.getElem_cons_zero, List.setIfInBounds_toArray, List.set_cons_zero, List.set_cons_succ]
  refine wpAnyM_take (i := 5) (v := ?_) rfl (by kernel_rfl) (by kernel_rfl) (by kernel_rfl) (by kernel_rfl) (fun _ _ _ h => h) hS0 (Or.inl ⟨by rfl, (by intro w' hSw; obtain ⟨s1, s2, s3⟩ := hSw; go_simp; first | done | with_reducible rfl)⟩) ?_
  try simp only [Act.put, List.getElem_toArray, List.getElem_cons_succ, List.getElem_cons_zero, List.setIfInBounds_toArray, List.set_cons_zero, List.set_cons_succ]
  refine wpAnyM_take (i := 6) (v := ?_) rfl (by kernel_rfl) (by kernel_rfl) (by kernel_rfl) (by kernel_rfl) (fun _ _ _ h => h) hS0 (Or.inl ⟨by rfl, (by intro w' hSw; obtain ⟨s1, s2, s3⟩ := hSw; go_simp; first | done | with_reducible rfl)⟩) ?_
  try simp only [Act.put, List.getElem_toArray, List.getElem_cons_succ, List.getElem_cons_zero, List.setIfInBounds_toArray, List.set_cons_zero, List.set_cons_succ]
  refine wpAnyM_take (i := 7) (v := ?_) rfl (by kernel_rfl) (by kernel_rfl) (by kernel_rfl) (by kernel_rfl) (fun _ _ _ h => h) hS0 (Or.inl ⟨by rfl, (by intro w' hSw; obtain ⟨s1, s2, s3⟩ := hSw; go_simp; first | done | with_reducible rfl)⟩) ?_
  try simp only [Act.put, List.getElem_toArray, List.getElem_cons_succ, List.getElem_cons_zero, List.setIfInBounds_toArray, List.set_cons_zero, List.set_cons_succ]
  refine wpAnyM_take (i := 8) (v := ?_) rfl (by kernel_rfl) (by kernel_rfl) (by kernel_rfl) (by kernel_rfl) (fun _ _ _ h => h) hS0 (Or.inl ⟨by rfl, (by intro w' hSw; obtain ⟨s1, s2, s3⟩ := hSw; go_simp; first | done | with_reducible rfl)⟩) ?_
  try simp only [Act.put, List.getElem_toArray, List.getElem_cons_succ, List.getElem_cons_zero, List.setIfInBounds_toArray, List.set_cons_zero, List.set_cons_succ]
  refine wpAnyM_take (i := 9) (v := ?_) rfl (by kernel_rfl) (by kernel_rfl) (by kernel_rfl) (by kernel_rfl) (fun _ _ _ h => h) hS0 (Or.inl ⟨by rfl, (by intro w' hSw; obtain ⟨s1, s2, s3⟩ := hSw; go_simp; first | done | with_reducible rfl)⟩) ?_
  try simp only [Act.put, List.getElem_toArray, List.getElem_cons_succ, List.getElem_cons_zero, List.setIfInBounds_toArray, List.set_cons_zero, List.set_cons_succ]
  refine wpAnyM_take (i := 10) (v := ?_) rfl (by kernel_rfl) (by kernel_rfl) (by kernel_rfl) (by kernel_rfl) (fun _ _ _ h => h) hS0 (Or.inl ⟨by rfl, (by intro w' hSw; obtain ⟨s1, s2, s3⟩ := hSw; go_simp; first | done | with_reducible rfl)⟩) ?_
  try simp only [Act.put, List.getElem_toArray, List.getElem_cons_succ, List.getElem_cons_zero, List.setIfInBounds_toArray, List.set_cons_zero, List.set_cons_succ]
  refine wpAnyM_take (i := 11) (v := ?_) rfl (by kernel_rfl) (by kernel_rfl) (by kernel_rfl) (by kernel_rfl) (fun _ _ _ h => h) hS0 (Or.inl ⟨by rfl, (by intro w' hSw; obtain ⟨s1, s2, s3⟩ := hSw; go_simp; first | done | with_reducible rfl)⟩) ?_
  try simp only [Act.put, List.getElem_toArray, List.getElem_cons_succ, List.getElem_cons_zero, List.setIfInBounds_toArray, List.set_cons_zero, List.set_cons_succ]
  refine wpAnyM_take (i := 12) (v := ?_) rfl (by kernel_rfl) (by kernel_rfl) (by kernel_rfl) (by kernel_rfl) (fun _ _ _ h => h) hS0 (Or.inl ⟨by rfl, (by intro w' hSw; obtain ⟨s1, s2, s3⟩ := hSw; go_simp; first | done | with_reducible rfl)⟩) ?_
  try simp only [Act.put, List.getElem_toArray, List.getElem_cons_succ, List.getElem_cons_zero, List.setIfInBounds_toArray, List.set_cons_zero, List.set_cons_succ]
  refine wpAnyM_take (i := 13) (v := .agg #[.bool cut, .int .i64 (a : Nat), .slice Au nu cu]) rfl (by kernel_rfl) (by kernel_rfl) (by kernel_rfl) (by kernel_rfl) (fun _ _ _ h => h) hS0 (Or.inl ⟨by rfl, fun w' hSw => exec_rowW _ _ rfl z rfl 101 _ (0, 0) _ w' hSw.2.2 Tryz.underlying101 rfl act_size⟩) ?_
  try simp only [Act.put, List.getElem_toArray, List.getElem_cons_succ, List.getElem_cons_zero, List.setIfInBounds_toArray, List.set_cons_zero, List.set_cons_succ]
  refine wpAnyM_next (i := 14) (by kernel_rfl) rfl (fun K hK => ?_)
  go_simp
  refine hK.out _ _ (.inr ⟨?_, ?_, ?_⟩) ?_
  · exact (Below.refl W.heap.size W).drew.alloc (Nat.le_refl _) _ |>.cell (p := ⟨b, 1, none⟩) HLT.out.2.1 |>.trans HC1.out
  · exact (Below.refl W.heap.size W).drew.alloc (Nat.le_refl _) _ |>.cell (p := ⟨g, n * 2 + 1, none⟩) HLT.out.1 |>.trans HCR.out
  · exact HBX.out.drew.old _
  clear hK K
  try simp only [Act.put, List.getElem_toArray, List.getElem_cons_succ, List.getElem_cons_zero, List.setIfInBounds_toArray, List.set_cons_zero, List.set_cons_succ]
  refine wpAnyM_next (i := 15) (by kernel_rfl) rfl (fun K hK => ?_)
  refine step_push_m W.drew aK rfl _ _ rfl 0 (.slice rA ra.length rc) rfl ra HOR.out.drew_ rfl (⟨cut, a, ⟨Au, nu, cu⟩⟩ : RawA) (by show a ≤ 1048576; exact HA.out) _ rfl _ rfl (by show (_ + 1) * 40 ≤ _; omega) (by simp only [maxLen]; omega) (Nat.zero_le _) ?_
  intro A3 c3 w5 hA hG hM
  have T5 : Turned (fun k => (Value.slice rA ra.length rc).ownBlock = some k) W w5 := (Turned.refl _ W).drew.trans (Turned.of_grown hG) (fun _ _ h => h)
  have hS5 : w5.cell? ⟨b, 1, none⟩ = some (.slice (some ⟨g, 0, none⟩) t.files.length cf) ∧ w5.cell? ⟨g, n * 2 + 1, none⟩ = some (.slice rA ra.length rc) ∧ Rw w5 z 101 #[.bool cut, .int .i64 (a : Nat), .slice Au nu cu] :=
    ⟨T5.cell HC1.out HNE.out.2.2.2.2.2, T5.cell HCR.out HNE.out.2.2.2.2.1, (T5.block z HLT.out.2.2.1 HNE.out.2.2.2.1).trans HBX.out⟩
  refine hK.out _ _ (.inr hS5) ?_
  clear hK K
  try simp only [Act.put, List.getElem_toArray, List.getElem_cons_succ, List.getElem_cons_zero, List.setIfInBounds_toArray, List.set_cons_zero, List.set_cons_succ]
  refine wpAnyM_next (i := 16) (by kernel_rfl) rfl (fun K hK => ?_)
  go_simp
  refine hK.out _ _ (.inr hS5) ?_
  clear hK K
  try simp only [Act.put, List.getElem_toArray, List.getElem_cons_succ, List.getElem_cons_zero, List.setIfInBounds_toArray, List.set_cons_zero, List.set_cons_succ]
  refine wpAnyM_next (i := 17) (by kernel_rfl) rfl (fun K hK => ?_)
  go_simp
  refine hK.out _ _ (.inr hS5) ?_
  clear hK K
  try simp only [Act.put, List.getElem_toArray, List.getElem_cons_succ, List.getElem_cons_zero, List.setIfInBounds_toArray, List.set_cons_zero, List.set_cons_succ]
  have hfz : w5.frozen? ⟨g, n * 2 + 1, none⟩ = false := HFZ.out w5 T5
  have hcl := hS5.2.1
  obtain ⟨w6, hw6⟩ : ∃ w6, w5.setCell ⟨g, n * 2 + 1, none⟩ (.slice A3 (ra.length + 1) c3) = w6 := ⟨_, rfl⟩
  refine wpAnyM_next (i := 18) (by kernel_rfl) rfl (fun K hK => ?_)
  go_simp
  refine hK.out _ _ (.inl (Nat.le_refl _)) ?_
  clear hK K
  try simp only [Act.put, List.getElem_toArray, List.getElem_cons_succ, List.getElem_cons_zero, List.setIfInBounds_toArray, List.set_cons_zero, List.set_cons_succ]
  refine wpAnyM_done (by kernel_rfl) ?_ _
  clear hfz hcl hS5 hS0
  have T6 := Turned.setCell (F := fun k => k = g) (Turned.refl (fun k => k = g) w5) (p := ⟨g, n * 2 + 1, none⟩) (fun _ => rfl) (.slice A3 (ra.length + 1) c3)
  have hhd6 : w6.heap[b]? = some (.cells (headC (Sf.added t n ⟨cut, a, l⟩) vf vs vr vu) 53 (0, 0)) := by
    rw [← hw6]
    exact (T6.block b (Nat.lt_of_lt_of_le HLT.out.2.1 T5.size) (fun e => HNE.out.1 e.symm)).trans ((T5.block b HLT.out.2.1 HNE.out.2.2.2.2.2).trans HHD.out)
  have CB := Lib.hid (rblown_head w6 (Sf.added t n ⟨cut, a, l⟩) b vf vs vr vu hhd6 (by show t.acts ≤ _; have := HGA.out.1; omega) HGA.out.2)
  have HT5 := Lib.hid T5
  have HA5 := Lib.hid hA
  have HM5 := Lib.hid hM
  have HW6 := Lib.hid hw6
  clear hhd6 T6 T5 hA hG hM hw6
  go_wp2_with fail
  refine CB.out.mono ?_
  rintro e7 w7 ⟨rfl, hw7, T7⟩
  have hadd : Sf.add t n ⟨cut, a, l⟩ = Sf.blown (Sf.added t n ⟨cut, a, l⟩) := rfl
  rw [← HW6.out] at T7
  obtain ⟨hR, hT⟩ := HH.out.turn_file HF.out (a := ⟨cut, a, l⟩) (r := ⟨cut, a, ⟨Au, nu, cu⟩⟩) (ra := ra) HX.out HNN.out HRA.out HOR.out HREL.out ⟨rfl, rfl⟩ HU.out (fun hp k hk => ⟨(HP.out hp k hk).1, by have := (HP.out hp k hk).2.1; have := HZ.out; have := HLT.out.2.2.2; omega⟩) HOK.out (g := g) (cf := cf) (by rw [HEV.out, HNF.out]) HA5.out (fun k hk => (HM5.out k hk).imp id (fun h => h)) HT5.out T7 (by rw [hadd]; exact hw7)
  have HRR := Lib.hid hR
  have HTT := Lib.hid hT
  clear CB hw7 T7 hR hT
  go_wp2
  go_ret
  refine ⟨by rw [hadd]; rfl, _, ⟨_, _, _, _, _, _, HRR.out⟩, ⟨?_, ?_⟩, ?_⟩
  · rintro k (hk | hk)
    · exact .inl hk
    · exact (HM5.out k hk).elim (fun e => .inl (HH.out.body.rowMs n _ HX.out k e)) (fun e => .inr (by have := HN0.out; have := HZ.out; have := HLT.out.2.2.2; have e' : W.drew.heap.size ≤ k := e; have e2 : W.heap.size ≤ k := e'; omega))
  · rintro k (hk | hk)
    · exact .inl hk
    · exact (HP.out hk.1 k hk.2).2.2
  · exact ((Turned.of_below HBW.out).mono (G := f.M) (fun k hk hs => absurd hs (by have := HZ.out; omega))).trans HTT.out (fun k _ hk => hk)
end
end Go.Proofs.YtmcbjcbnckpfkaaGreat
namespace Go.Proofs.YtmcbjcbnckpfkaaGreat
open Go.RowKit
set_option linter.unusedVariables false
theorem FileOk.sure_ {f : Sf.File} (h : FileOk f) : FileOk ⟨Sf.now f, []⟩ where
  len := fun k hk => by
    have e : k = 0 := by simpa using hk
    subst e
    have := h.len f.row.length (Nat.le_refl _)
    rw [Sf.bytes_all] at this
    exact this
  at_ := fun k c hk => by simp at hk
  row := by simp
theorem FileOk.none_ : FileOk Sf.noFile where
  len := fun k hk => by
    have e : k = 0 := by simpa [Sf.noFile] using hk
    subst e
    simp [Sf.bytes, Sf.noFile]
  at_ := fun k c hk => by simp [Sf.noFile] at hk
  row := by simp [Sf.noFile]
def noRaw : RawF := ⟨⟨none, 0, 0⟩, ⟨none, 0, 0⟩⟩
section
variable {w : World} {f : Fp} {t : Sf.St} {b : Nat} {vf vs vr vu : Value} {rf : List RawF} {rr : List Sl}
/-- A file's acts are made sure. -/
theorem RHas.sync_file (h : RHas w f t b vf vs vr vu rf rr) {n : Nat} {x : RawF} (hx : rf[n]? = some x) (hn : n < t.files.length) {sl : Sl} {g : Nat} (hgk : vf.ownBlock = some g) {w7 : World}
    (hv : Lv yK w7 w7.heap.size (slV sl) (Sf.now (Sf.fileAt t n))) (hblk : ∀ k, (slV sl).ownBlock = some k → w.heap.size ≤ k) (hblk2 : 0 < (Sf.now (Sf.fileAt t n)).length → ∀ k, (slV sl).ownBlock = some k → k < w7.heap.size)
    (hf7 : OwnL fK w7 0 vf (rf.set n ⟨sl, ⟨none, 0, 0⟩⟩)) (T : Turned (fun k => k = g) w w7) :
    RHas w7 ⟨f.M, fun k => f.R k ∨ (0 < (Sf.now (Sf.fileAt t n)).length ∧ (slV sl).ownBlock = some k)⟩ { t with files := t.files.set n ⟨Sf.now (Sf.fileAt t n), []⟩ } b vf vs vr vu (rf.set n ⟨sl, ⟨none, 0, 0⟩⟩) rr ∧ Turned f.M w w7 := by
  have hb : b < w.heap.size := h.lt b (.inl h.mine)
  have hxn : n < rf.length := (List.getElem?_eq_some_iff.1 hx).1
  have hgM : f.M g := h.body.filesM g hgk
  have hgb : g ≠ b := fun e => h.files_ne (e ▸ hgk)
  have FM : ∀ k, k = g → f.M k := fun k e => e ▸ hgM
  have FR : ∀ k, k = g → ¬ f.R k := fun k hk => h.sep k (FM k hk)
  have hlen : (t.files.set n ⟨Sf.now (Sf.fileAt t n), []⟩).length = t.files.length := List.length_set ..
  refine ⟨⟨(T.block b hb (fun e => hgb e.symm)).trans h.head, ?_, ?_, h.mine, ?_, ?_⟩, T.mono (fun k _ hk => FM k hk)⟩
  · exact {
      nfiles := by rw [List.length_set, hlen]; exact h.body.nfiles
      files := hf7
      file := fun i y q hy hq => by
        have hq : (t.files.set n ⟨Sf.now (Sf.fileAt t n), []⟩)[i]? = some q := hq
        by_cases hi : i = n
        · subst hi
          rw [List.getElem?_set_self hxn] at hy
          rw [List.getElem?_set_self hn] at hq
          injection hy with hy
          injection hq with hq
          subst hy hq
          have hF := h.body.file i x _ hx (Sf.fileAt_some hn)
          exact ⟨⟨hv, fun hp k hk => .inr ⟨hp, hk⟩⟩, ⟨[], rfl, OwnL.nil_ _ _ _, fun j u c hu => by simp at hu⟩, fun k hk => (by cases hk), hF.ok.sure_⟩
        · rw [List.getElem?_set_ne (Ne.symm hi)] at hy hq
          exact ((h.body.file i y q hy hq).turned T FR (fun k hk e => h.file_two hy hgk (e ▸ hk))).mono (fun k hk => hk) (fun k hk => .inl hk)
      filesM := h.body.filesM
      apart := fun i j y z hij hy hz => by
        by_cases hi : i = n
        · subst hi
          rw [List.getElem?_set_self hxn] at hy
          injection hy with hy
          subst hy
          exact fun k hk => by cases hk
        · rw [List.getElem?_set_ne (Ne.symm hi)] at hy
          by_cases hj : j = n
          · subst hj
            rw [List.getElem?_set_self hxn] at hz
            injection hz with hz
            subst hz
            exact fun k _ hk => by cases hk
          · rw [List.getElem?_set_ne (Ne.symm hj)] at hz
            exact h.body.apart i j y z hij hy hz
      nrow := h.body.nrow
      row := h.body.row.turned_ T (fun k hk e => h.row_two hk (e ▸ hgk))
      rows := fun i u d hu hd => ((h.body.rows i u d hu hd).turned T FR).mono (fun k hk => .inl hk)
      rowM := h.body.rowM
      seen := (h.body.seen.turned T FR).mono (fun k hk => .inl hk)
      sure := (h.body.sure.turned T FR).mono (fun k hk => .inl hk) }
  · have g := h.good
    exact {
      room := g.room
      files := by show (t.files.set n _).length ≤ _; rw [hlen]; exact g.files
      rows := g.rows
      acts := g.acts
      fuse := g.fuse
      sure := by show _ ∧ ∀ e ∈ t.sure, e.2 < (t.files.set n _).length; rw [hlen]; exact g.sure
      seen := by show _ ∧ ∀ e ∈ t.seen, e.2 < (t.files.set n _).length; rw [hlen]; exact g.seen
      row := by show ∀ d ∈ t.row, _ ∧ ∀ e ∈ d, e.2 < (t.files.set n _).length; rw [hlen]; exact g.row
      frow := by
        intro q hq
        rcases List.mem_or_eq_of_mem_set hq with hq | rfl
        · exact g.frow q hq
        · exact Nat.zero_le _
      inv := ⟨g.inv.nums, by show ∀ e ∈ t.seen, e.2 < (t.files.set n _).length; rw [hlen]; exact g.inv.lt⟩ }
  · intro k hk
    rcases hk with hk | hk | hk
    · exact Nat.lt_of_lt_of_le (h.lt k (.inl hk)) T.size
    · exact Nat.lt_of_lt_of_le (h.lt k (.inr hk)) T.size
    · exact hblk2 hk.1 k hk.2
  · intro k hk hr
    rcases hr with hr | hr
    · exact h.sep k hk hr
    · have := hblk k hr.2; have := h.lt k (.inl hk); omega
/-- A disk with one more file. -/
theorem RHas.more_file (h : RHas w f t b vf vs vr vu rf rr) (hg64 : t.files.length + 1 ≤ 64 + t.acts) {w7 : World} {A : Option Addr} {c : Nat}
    (hf7 : OwnL fK w7 0 (.slice A (rf.length + 1) c) (rf ++ [noRaw])) (hM : ∀ k, (Value.slice A (rf.length + 1) c).ownBlock = some k → vf.ownBlock = some k ∨ w.heap.size ≤ k)
    (T : Turned (fun k => vf.ownBlock = some k ∨ k = b) w w7) (hw : w7.heap[b]? = some (.cells (headC { t with files := t.files ++ [Sf.noFile] } (.slice A (rf.length + 1) c) vs vr vu) 53 (0, 0))) :
    RHas w7 ⟨fun k => f.M k ∨ (Value.slice A (rf.length + 1) c).ownBlock = some k, f.R⟩ { t with files := t.files ++ [Sf.noFile] } b (.slice A (rf.length + 1) c) vs vr vu (rf ++ [noRaw]) rr ∧ Turned f.M w w7 := by
  have hb : b < w.heap.size := h.lt b (.inl h.mine)
  have FM : ∀ k, (vf.ownBlock = some k ∨ k = b) → f.M k := fun k hk => hk.elim (h.body.filesM k) (fun e => e ▸ h.mine)
  have FR : ∀ k, (vf.ownBlock = some k ∨ k = b) → ¬ f.R k := fun k hk => h.sep k (FM k hk)
  have hlen : (t.files ++ [Sf.noFile]).length = t.files.length + 1 := by simp
  have hup : ∀ {e : Nat}, e < t.files.length → e < (t.files ++ [Sf.noFile]).length := fun he => by rw [hlen]; omega
  refine ⟨⟨hw, ?_, ?_, .inl h.mine, ?_, ?_⟩, T.mono (fun k _ hk => FM k hk)⟩
  · exact {
      nfiles := by rw [hlen, List.length_append, h.body.nfiles]; rfl
      files := hf7
      file := fun i y q hy hq => by
        have hq : (t.files ++ [Sf.noFile])[i]? = some q := hq
        by_cases hi : i < rf.length
        · rw [List.getElem?_append_left hi] at hy
          rw [List.getElem?_append_left (by rw [← h.body.nfiles]; exact hi)] at hq
          exact ((h.body.file i y q hy hq).turned T FR (fun k hk e => e.elim (fun e => h.file_two hy e hk) (fun e => h.acts_ne i y hy (e ▸ hk)))).mono (fun k hk => .inl hk) (fun k hk => hk)
        · have hl : i < (rf ++ [noRaw]).length := (List.getElem?_eq_some_iff.1 hy).1
          have ei : i = rf.length := by simp at hl; omega
          subst ei
          have ey : noRaw = y := by simpa using hy
          have eq : Sf.noFile = q := by rw [h.body.nfiles] at hq; simpa using hq
          subst ey eq
          exact ⟨Rd.nil_ _ _, ⟨[], rfl, OwnL.nil_ _ _ _, fun j u c hu => by simp at hu⟩, fun k hk => (by cases hk), FileOk.none_⟩
      filesM := fun k hk => .inr hk
      apart := fun i j y z hij hy hz => by
        by_cases hi : i < rf.length
        · rw [List.getElem?_append_left hi] at hy
          by_cases hj : j < rf.length
          · rw [List.getElem?_append_left hj] at hz
            exact h.body.apart i j y z hij hy hz
          · have hl : j < (rf ++ [noRaw]).length := (List.getElem?_eq_some_iff.1 hz).1
            have ej : j = rf.length := by simp at hl; omega
            subst ej
            have ez : noRaw = z := by simpa using hz
            subst ez
            exact fun k _ hk => by cases hk
        · have hl : i < (rf ++ [noRaw]).length := (List.getElem?_eq_some_iff.1 hy).1
          have ei : i = rf.length := by simp at hl; omega
          subst ei
          have ey : noRaw = y := by simpa using hy
          subst ey
          exact fun k hk => by cases hk
      nrow := h.body.nrow
      row := h.body.row.turned_ T (fun k hk e => e.elim (fun e => h.row_two hk e) (fun e => h.row_ne (e ▸ hk)))
      rows := fun i u d hu hd => (h.body.rows i u d hu hd).turned T FR
      rowM := fun k hk => .inl (h.body.rowM k hk)
      seen := h.body.seen.turned T FR
      sure := h.body.sure.turned T FR }
  · have g := h.good
    exact {
      room := g.room
      files := by show (t.files ++ [Sf.noFile]).length ≤ _; rw [hlen]; exact hg64
      rows := g.rows
      acts := g.acts
      fuse := g.fuse
      sure := ⟨g.sure.1, fun e he => hup (g.sure.2 e he)⟩
      seen := ⟨g.seen.1, fun e he => hup (g.seen.2 e he)⟩
      row := fun d hd => ⟨(g.row d hd).1, fun e he => hup ((g.row d hd).2 e he)⟩
      frow := by
        intro q hq
        rcases List.mem_append.1 hq with hq | hq
        · exact g.frow q hq
        · simp at hq; subst hq; exact Nat.zero_le _
      inv := ⟨g.inv.nums, fun e he => hup (g.inv.lt e he)⟩ }
  · intro k hk
    rcases hk with (hk | hk) | hk
    · exact Nat.lt_of_lt_of_le (h.lt k (.inl hk)) T.size
    · exact (hf7.lt_ k hk).2
    · exact Nat.lt_of_lt_of_le (h.lt k (.inr hk)) T.size
  · intro k hk hr
    rcases hk with hk | hk
    · exact h.sep k hk hr
    · rcases hM k hk with e | e
      · exact h.sep k (h.body.filesM k e) hr
      · have := h.lt k (.inr hr); omega
end
/-- A new disk. -/
theorem rhas_new {w : World} {b n : Nat} (hn : n ≤ 1048576) (hb : b < w.heap.size) (hw : w.heap[b]? = some (.cells (headC (Sf.new n) (.slice none 0 0) (.slice none 0 0) (.slice none 0 0) (.slice none 0 0)) 53 (0, 0))) :
    RHas w ⟨fun k => k = b, fun _ => False⟩ (Sf.new n) b (.slice none 0 0) (.slice none 0 0) (.slice none 0 0) (.slice none 0 0) [] [] where
  head := hw
  body := { nfiles := rfl, files := OwnL.nil_ _ _ _, file := fun i x f hx => (by simp at hx), filesM := fun k hk => (by cases hk), apart := fun i j x y _ hx => (by simp at hx), nrow := rfl, row := OwnL.nil_ _ _ _, rows := fun i u d hu => (by simp at hu), rowM := fun k hk => (by cases hk), seen := Rd.nil_ _ _, sure := Rd.nil_ _ _ }
  good := { room := hn, files := Nat.zero_le _, rows := Nat.zero_le _, acts := Nat.zero_le _, fuse := by show 0 < _; omega, sure := ⟨Nat.zero_le _, fun e he => (by cases he)⟩, seen := ⟨Nat.zero_le _, fun e he => (by cases he)⟩, row := fun d hd => (by cases hd), frow := fun q hq => (by cases hq), inv := Sf.inv_new n }
  mine := rfl
  lt := fun k hk => hk.elim (fun e => e ▸ hb) (fun e => e.elim)
  sep := fun _ _ h => h
end Go.Proofs.YtmcbjcbnckpfkaaGreat
namespace Go.Proofs.YtmcbjcbnckpfkaaGreat
open Go.RowKit
set_option linter.unusedVariables false
/-- Where a name more may be, a file more may be, too. -/
def Sf.Num (t : Sf.St) : Prop := t.seen.length < 64 → t.files.length + 1 ≤ 64 + t.acts
theorem num_blown {u : Sf.St} (h : u.files.length ≤ 64 + u.acts) : Sf.Num (Sf.blown u).2 := by
  obtain ⟨_, h1, _, _, _, h5, _⟩ := blown_same u
  unfold Sf.Num
  rw [h1, h5]
  omega
theorem num_turn {t : Sf.St} (h : t.files.length ≤ 64 + t.acts) (d : Sf.Dir) : Sf.Num (Sf.turn t d).2 := num_blown (u := { t with seen := d, row := t.row ++ [d] }) h
theorem num_add {t : Sf.St} (h : t.files.length ≤ 64 + t.acts) (n : Nat) (a : Sf.Act) : Sf.Num (Sf.add t n a).2 := num_blown (u := { t with files := t.files.set n ⟨(Sf.fileAt t n).sure, (Sf.fileAt t n).row ++ [a]⟩ }) (by show (t.files.set n _).length ≤ _; rw [List.length_set]; exact h)
section
variable {t : Sf.St}
theorem num_create (h : Sf.Num t) (hg : Good t) (s : ByteArray) : Sf.Num (Sf.create t s).2 := by
  unfold Sf.create
  split
  · exact h
  split
  · exact h
  split
  · exact h
  split
  · exact h
  · rename_i h4
    exact num_turn (t := { t with files := t.files ++ [Sf.noFile] }) (by have := h (by omega); simpa using this) _
theorem num_append (h : Sf.Num t) (hg : Good t) (s : ByteArray) (b : List Nat) : Sf.Num (Sf.append t s b).2 := by
  unfold Sf.append
  split
  · exact h
  split
  · exact h
  · exact num_add hg.files _ _
theorem num_write (h : Sf.Num t) (hg : Good t) (s : ByteArray) (a : Int) (b : List Nat) : Sf.Num (Sf.write t s a b).2 := by
  unfold Sf.write
  split
  · exact h
  split
  · exact h
  split
  · exact h
  · exact num_add hg.files _ _
theorem num_cut (h : Sf.Num t) (hg : Good t) (s : ByteArray) (a : Int) : Sf.Num (Sf.cut t s a).2 := by
  unfold Sf.cut
  split
  · exact h
  split
  · exact h
  · exact num_add hg.files _ _
theorem num_rename (h : Sf.Num t) (hg : Good t) (s u : ByteArray) : Sf.Num (Sf.rename t s u).2 := by
  unfold Sf.rename
  split
  · exact h
  split
  · exact h
  · exact num_turn hg.files _
theorem num_remove (h : Sf.Num t) (hg : Good t) (s : ByteArray) : Sf.Num (Sf.remove t s).2 := by
  unfold Sf.remove
  split
  · exact h
  · exact num_turn hg.files _
theorem num_sync (h : Sf.Num t) (hg : Good t) (s : ByteArray) : Sf.Num (Sf.sync t s).2 := by
  unfold Sf.sync
  split
  · exact h
  split
  · exact num_blown hg.files
  · have h2 := num_blown hg.files
    obtain ⟨_, h1, _, h3, _, h5, _⟩ := blown_same t
    intro h6
    have h7 := h2 h6
    rw [h1] at h7
    show (t.files.set _ _).length + 1 ≤ 64 + (Sf.blown t).2.acts
    rw [List.length_set]
    exact h7
theorem num_syncDir (h : Sf.Num t) (hg : Good t) : Sf.Num (Sf.syncDir t).2 := by
  unfold Sf.syncDir
  split
  · exact h
  split
  · exact num_blown hg.files
  · exact num_blown hg.files
theorem num_arm (h : Sf.Num t) (hg : Good t) (n : Int) : Sf.Num (Sf.arm t n).2 := by
  unfold Sf.arm
  split
  · exact h
  split
  · exact h
  · exact h
end
theorem num_new (n : Nat) : Sf.Num (Sf.new n) := fun _ => by show 0 + 1 ≤ 64 + 0; omega
theorem kept_len (t : Sf.St) : ∀ (d : Sf.Dir) (l : List Int), (Sf.kept t d l).length = d.length := by
  intro d
  induction d with
  | nil => intro l; rfl
  | cons e d ih => intro l; rw [Sf.kept, List.length_cons, List.length_cons, ih]
theorem num_fail (t : Sf.St) (l : List Int) : Sf.Num (Sf.fail t l) := fun h => by
  have e1 : (Sf.fail t l).seen.length = (Sf.dirOf t l).length := by show (Sf.numbered _).length = _; simp [Sf.numbered]
  have e2 : (Sf.fail t l).files.length = (Sf.dirOf t l).length := by show ((Sf.kept t _ _).map _).length = _; rw [List.length_map, kept_len]
  rw [e1] at h
  rw [e2]
  show _ ≤ 64 + 0
  omega
end Go.Proofs.YtmcbjcbnckpfkaaGreat
