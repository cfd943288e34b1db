/-
  page.whole's sum.
-/
import Derived.Test.YtdmomnpmicagcaaPgA
import Derived.Test.YtdmomnpmicagcaaCMore
import Derived.Test.YtdmomnpmicagcaaFour
import Derived.Deep.RegionHeld3
import Derived.Deep.WholeRow
namespace Go.Proofs.Ytdmomnpmicagcaa
open Go.RowKit
set_option linter.unusedVariables false
theorem bts_four (n : Nat) : bts n 4 = four n := rfl
set_option maxRecDepth 100000 in
theorem size512 : (Try.prog.info? 38).map (·.size) = some 512 := by kernel_rfl
theorem size512l {l : List Nat} (h : l.length = 512) : (Try.prog.info? 38).map (·.size) = some (bvs l).size := by rw [bvs_size, h]; exact size512
theorem size4a : (Try.prog.info? 34).map (·.size) = some 4 := by kernel_rfl
theorem size4l {l : List Nat} (h : l.length = 4) : (Try.prog.info? 34).map (·.size) = some (bvs l).size := by rw [bvs_size, h]; exact size4a
set_option maxHeartbeats 1000000 in
set_option maxRecDepth 100000 in
theorem pgsum_any (p : List Nat) (hl : p.length = 512) (h8 : ∀ x ∈ p, x < 256) (w : World) :
    Calls Try.prog 18 #[.agg (bvs p)] w (fun e w' => e = .returned (.agg (bvs (four (Cr.of (p.drop 4))))) ∧ Below w.heap.size w w') := by
  obtain ⟨n, hn⟩ : ∃ n, Cr.of (p.drop 4) = n := ⟨_, rfl⟩
  have hn32 : n < 4294967296 := by rw [← hn]; exact Cr.of_b32 (fun x hx => h8 x (List.mem_of_mem_drop hx))
  obtain ⟨D, hD⟩ : ∃ D, bvs p = D := ⟨_, rfl⟩
  obtain ⟨W, hW⟩ : ∃ W, ((w.alloc (.cells D 38)).alloc (.cells #[.int .u8 0, .int .u8 0, .int .u8 0, .int .u8 0] 34)).alloc (.cells #[.int .u8 0, .int .u8 0, .int .u8 0, .int .u8 0] 34) = W := ⟨_, rfl⟩
  have hD0 : Rw W w.heap.size 38 (bvs p) := by rw [← hW, hD]; exact ((Rw.new w _ _).old _).old _
  have HB1 : Hid (Rw W (w.heap.size + 1) 34 (bvs [0, 0, 0, 0])) := by unfold Hid; rw [← hW]; exact (Rw.at_ (by simp) _ _).old _
  have hB2 : Rw W (w.heap.size + 2) 34 (bvs [0, 0, 0, 0]) := by rw [← hW]; exact Rw.at_ (by simp) _ _
  have HBW : Hid (Below w.heap.size w W) := by unfold Hid; rw [← hW]; exact (((Below.refl _ _).alloc (Nat.le_refl _) _).alloc (by simp) _).alloc (by simp; omega) _
  have hbv := hD0.bv_ h8 (k := 4) (m := 508) (c := 508) (B := W.heap.size) (by omega) (Nat.le_refl _) (by simp [maxLen]) hD0.lt
  rw [List.take_of_length_le (by rw [List.length_drop]; omega)] at hbv
  have HC := Lib.hid (of_any _ _ W.heap.size W.drew hbv)
  rw [hn] at HC ⊢
  have HL := Lib.hid (play_any (w.heap.size + 2) 0 4 4 n _ [0, 0, 0, 0] W.drew hn32 hB2.drew (by decide) (by simp) (by omega))
  rw [bts_four] at HL
  rw [hD]
  have HS4 := Lib.hid (size4l (four_len n))
  have HO4 := Lib.hid (bvs_one (four n))
  have HP4 : Hid (pu [0, 0, 0, 0] 0 (four n) = four n) := pu_front (b := [0, 0, 0, 0]) (c := []) (by rfl)
  obtain ⟨C, hC⟩ : ∃ C, bvs (four n) = C := ⟨_, rfl⟩
  have HCS : Hid ((bvs [0, 0, 0, 0]).size = C.size) := by unfold Hid; rw [← hC, bvs_size, bvs_size]; rfl
  rw [hC] at HS4 HO4 ⊢
  have HC4 : Hid (bvs (pu [0, 0, 0, 0] 0 (four n)) = C) := by unfold Hid; rw [HP4.out]; exact hC
  clear hD0 hB2 hbv hD hn hn32 h8 hl hC HP4
  go_enter Try.func18, Try.ntmps18
  go_wp2
  go_region_held3 (fun _ => True) (trivial) (first
    | (go_at_call 25; (with_reducible refine HC.out.mono ?_); rintro e x1 ⟨rfl, rfl⟩)
    | (go_at_call 24; (with_reducible refine HL.out.mono ?_); rintro e x2 ⟨⟨y, rfl⟩, hr2, hg2⟩; have HR2 := Lib.hid hr2; have HG2 := Lib.hid hg2; clear hr2 hg2))
  have hr := HR2.out
  rw [HC4.out] at hr
  have hb1 : Rw x2 (w.heap.size + 1) 34 (bvs [0, 0, 0, 0]) := (HG2.out.block _ (by have := HB1.out.lt; simpa using this) (by intro e; injection e with e; omega)).trans HB1.out
  have HBX : Hid (Below w.heap.size w x2) := HBW.out.drew.grown HG2.out (by have := HBW.out.size; simpa using this) (fun k hk => by injection hk with hk; omega)
  have HR := Lib.hid hr
  have HB := Lib.hid hb1
  clear HR2 HG2 HL HC hW HB1 HBW hr hb1 HC4
  go_wp2_with (first
    | (refine wpList_load_row rfl _ _ rfl (w.heap.size + 2) rfl 34 C (0, 0) _ HR.out Try.underlying34 rfl HS4.out ?_)
    | (refine wpList_store_row rfl _ _ _ rfl (w.heap.size + 1) C rfl rfl 34 _ HB.out HS4.out HCS.out HO4.out ?_))
  refine bodyPost_ret (v := .agg C) (results_cell_row rfl _ _ (w.heap.size + 1) 34 C (0, 0) _ rfl (Rw.row HB.out C) Try.underlying34 rfl HS4.out) rfl ⟨rfl, below_setRow HBX.out (by omega) _⟩
end Go.Proofs.Ytdmomnpmicagcaa
