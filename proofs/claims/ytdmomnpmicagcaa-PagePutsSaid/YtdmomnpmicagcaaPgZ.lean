/-
  A page of noughts, as an array's zero value.
-/
import Derived.Test.YtdmomnpmicagcaaPgB
namespace Go.Proofs.Ytdmomnpmicagcaa
open Go.RowKit
set_option linter.unusedVariables false
/-- The cells of a page of noughts. -/
def none512 : Array Value := bvs (List.replicate 512 0)
set_option maxRecDepth 100000 in
theorem zero512 : (Try.prog.info? 38).map (fun i => (i.zero, i.size)) = some (some (.agg none512), 512) := by kernel_rfl
theorem zero512V : ∀ w, (zeroValue 38).run Try.prog w = .ok (.agg none512) w := (zero_of_info (n := 512) zero512).1
theorem none512_size : none512.size = 512 := by rw [none512, bvs_size]; exact List.length_replicate
set_option maxHeartbeats 1000000 in
set_option maxRecDepth 100000 in
/-- A page with these four bytes in its sum's place. -/
theorem psummed_any (p s : List Nat) (hl : p.length = 512) (hs : s.length = 4) (h8 : ∀ x ∈ s, x < 256) (w : World) :
    Calls Try.prog 17 #[.agg (bvs p), .agg (bvs s)] w (fun e w' => e = .returned (.agg (bvs (pu p 0 s))) ∧ Below w.heap.size w w') := by
  have hz := zero512V
  obtain ⟨D, hD⟩ : ∃ D, bvs p = D := ⟨_, rfl⟩
  obtain ⟨E, hE⟩ : ∃ D, bvs s = D := ⟨_, rfl⟩
  have HNS := Lib.hid none512_size
  obtain ⟨Z, hZ⟩ : ∃ Z, none512 = Z := ⟨_, rfl⟩
  rw [hZ] at hz HNS
  obtain ⟨W, hW⟩ : ∃ W, ((w.alloc (.cells D 38)).alloc (.cells E 34)).alloc (.cells Z 38) = W := ⟨_, rfl⟩
  have hD0 : Rw W w.heap.size 38 (bvs p) := by rw [← hW, hD]; exact ((Rw.new w _ _).old _).old _
  have hE1 : Rw W (w.heap.size + 1) 34 (bvs s) := by rw [← hW, hE]; exact (Rw.at_ (by simp) _ _).old _
  have HZ2 : Hid (Rw W (w.heap.size + 2) 38 Z) := by unfold Hid; rw [← hW]; exact Rw.at_ (by simp) _ _
  have HBW : Hid (Below w.heap.size w W) := by unfold Hid; rw [← hW]; exact (((Below.refl _ _).alloc (Nat.le_refl _) _).alloc (by simp) _).alloc (by simp; omega) _
  have hbv := hE1.bv_ h8 (k := 0) (m := 4) (c := 4) (B := W.heap.size) (by omega) (Nat.le_refl _) (by simp [maxLen]) hE1.lt
  rw [List.drop_zero, List.take_of_length_le (by omega)] at hbv
  have hpl := pu_len (z := p) (m := s) (k := 0) (by omega)
  obtain ⟨w2, hc, hr2, hg2⟩ := copy_arr (w := W.drew) (k := 0) (dl := 512) (dc := 512) hD0.drew (m := s) (B := W.heap.size) (x := .slice (some ⟨w.heap.size + 1, 0, none⟩) 4 4) hbv (by omega) (by omega)
  rw [hs] at hc
  have HZ3 : Hid (Rw w2 (w.heap.size + 2) 38 Z) := (hg2.block _ (by have := HZ2.out.lt; simpa using this) (by intro e; injection e with e; omega)).trans HZ2.out
  have HBX : Hid (Below w.heap.size w w2) := HBW.out.drew.grown hg2 (by have := HBW.out.size; simpa using this) (fun k hk => by injection hk with hk; omega)
  have HS := Lib.hid (size512l (hpl.trans hl))
  have HO := Lib.hid (bvs_one (pu p 0 s))
  have HLS : Hid (Z.size = (bvs (pu p 0 s)).size) := by unfold Hid; rw [HNS.out, bvs_size, hpl, hl]
  obtain ⟨C, hC⟩ : ∃ C, bvs (pu p 0 s) = C := ⟨_, rfl⟩
  rw [hC] at HS HO HLS hr2 ⊢
  have HR2 := Lib.hid hr2
  have HC := Lib.hid hc
  rw [hD, hE]
  clear hD0 hE1 hbv hD hE hs h8 hl hC hZ hr2 hg2 hpl HZ2 HBW HNS
  go_enter Try.func17, Try.ntmps17
  go_wp2
  have hc := HC.out
  go_region
  clear hc HC hW hz
  go_wp2_with (first
    | (refine wpList_load_row rfl _ _ rfl w.heap.size rfl 38 C (0, 0) _ HR2.out Try.underlying38 rfl HS.out ?_)
    | (refine wpList_store_row rfl _ _ _ rfl (w.heap.size + 2) C rfl rfl 38 _ HZ3.out HS.out HLS.out HO.out ?_))
  refine bodyPost_ret (v := .agg C) (results_cell_row rfl _ _ (w.heap.size + 2) 38 C (0, 0) _ rfl (Rw.row HZ3.out C) Try.underlying38 rfl HS.out) rfl ⟨rfl, below_setRow HBX.out (by omega) _⟩
end Go.Proofs.Ytdmomnpmicagcaa
