/-
  sha.round: one round.
-/
import Derived.Test.YtejipcnihgpdhaaSpWords
import Derived.BigQuiet
namespace Go.Proofs.Ytejipcnihgpdhaa
open Go.RowKit
set_option linter.unusedVariables false

theorem z8_eq : (Array.replicate 8 (Value.int .u32 0)) = #[.int .u32 0, .int .u32 0, .int .u32 0, .int .u32 0, .int .u32 0, .int .u32 0, .int .u32 0, .int .u32 0] := rfl

set_option maxHeartbeats 2000000 in
set_option maxRecDepth 100000 in
theorem round_any (s : Sh.St) (k x : Sh.W32) (w : World) : Calls Try.prog 31 #[.agg (stv s), .int .u32 (nt k : Nat), .int .u32 (nt x : Nat)] w (IsSt (Sh.round s k x) w) := by
  obtain ⟨a, b, c, d, e, f, g, h⟩ := s
  obtain ⟨sc, hsc⟩ : ∃ c', stv ⟨a, b, c, d, e, f, g, h⟩ = c' := ⟨_, rfl⟩
  rw [hsc]
  go_enter Try.func31, Try.ntmps31
  go_wp2
  generalize hW0 : (w.alloc _).alloc _ = w0
  have HS0 : Hid (Rw w0 w.heap.size 23 sc) := by unfold Hid; rw [← hW0]; exact (Rw.new w _ _).old _
  have HZ0 : Hid (Rw w0 (w.heap.size + 1) 23 #[.int .u32 0, .int .u32 0, .int .u32 0, .int .u32 0, .int .u32 0, .int .u32 0, .int .u32 0, .int .u32 0]) := by
    unfold Hid; rw [← hW0]; exact Rw.at_ (by simp) _ _
  have HB0 : Hid (Below w.heap.size w w0) := by unfold Hid; rw [← hW0]; exact (((Below.refl w.heap.size w).alloc (Nat.le_refl _) _).alloc (by simp) _)
  clear hW0
  rw [← hsc] at HS0
  clear hsc
  have v0 : ∀ m, (w0.drewN m).cell? ⟨w.heap.size, 0, none⟩ = some (.int .u32 (nt a : Nat)) := fun m => HS0.out.cell 0
  have v1 : ∀ m, (w0.drewN m).cell? ⟨w.heap.size, 1, none⟩ = some (.int .u32 (nt b : Nat)) := fun m => HS0.out.cell 1
  have v2 : ∀ m, (w0.drewN m).cell? ⟨w.heap.size, 2, none⟩ = some (.int .u32 (nt c : Nat)) := fun m => HS0.out.cell 2
  have v3 : ∀ m, (w0.drewN m).cell? ⟨w.heap.size, 3, none⟩ = some (.int .u32 (nt d : Nat)) := fun m => HS0.out.cell 3
  have v4 : ∀ m, (w0.drewN m).cell? ⟨w.heap.size, 4, none⟩ = some (.int .u32 (nt e : Nat)) := fun m => HS0.out.cell 4
  have v5 : ∀ m, (w0.drewN m).cell? ⟨w.heap.size, 5, none⟩ = some (.int .u32 (nt f : Nat)) := fun m => HS0.out.cell 5
  have v6 : ∀ m, (w0.drewN m).cell? ⟨w.heap.size, 6, none⟩ = some (.int .u32 (nt g : Nat)) := fun m => HS0.out.cell 6
  have v7 : ∀ m, (w0.drewN m).cell? ⟨w.heap.size, 7, none⟩ = some (.int .u32 (nt h : Nat)) := fun m => HS0.out.cell 7
  have u0 := v0 0
  have u1 := v1 0
  have u2 := v2 0
  have u3 := v3 0
  go_quiet (fail)
  go_wp2
  generalize hW1 : w0.drewN _ = w1
  have t4 : w1.cell? ⟨w.heap.size, 4, none⟩ = some (.int .u32 (nt e : Nat)) := by rw [← hW1]; exact v4 _
  have t5 : w1.cell? ⟨w.heap.size, 5, none⟩ = some (.int .u32 (nt f : Nat)) := by rw [← hW1]; exact v5 _
  have t6 : w1.cell? ⟨w.heap.size, 6, none⟩ = some (.int .u32 (nt g : Nat)) := by rw [← hW1]; exact v6 _
  have t7 : w1.cell? ⟨w.heap.size, 7, none⟩ = some (.int .u32 (nt h : Nat)) := by rw [← hW1]; exact v7 _
  have HZ1 := Lib.hid (HZ0.out.via hW1)
  have HB1 : Hid (Below w.heap.size w w1) := by unfold Hid; rw [← hW1]; exact below_drewN HB0.out _
  clear hW1 v0 v1 v2 v3 v4 v5 v6 v7 u0 u1 u2 u3 HS0 HZ0 HB0
  go_quiet (fail)
  generalize hW2 : w1.drewN _ = w2
  have HZ2 := Lib.hid (HZ1.out.via hW2)
  have HB2 : Hid (Below w.heap.size w w2) := by unfold Hid; rw [← hW2]; exact below_drewN HB1.out _
  clear hW2 t4 t5 t6 t7 HZ1 HB1
  have hax := addw
  have hax3 := add_bv
  have hxo := xor_bv
  go_wp2_with (fail)
  refine (turning_any a w2).mono ?_
  rintro e' w3 ⟨rfl, hw3⟩
  obtain ⟨ga, hga⟩ : ∃ ga, w2.heap.size = ga := ⟨_, rfl⟩
  have hg2 := HB2.out.size
  have HA3 : Hid (Rw w3 ga 22 #[.int .u32 (nt a : Nat)]) := by unfold Hid; rw [hw3]; exact Rw.at_ hga.symm _ _
  have HZ3 : Hid (Rw w3 (w.heap.size + 1) 23 #[.int .u32 0, .int .u32 0, .int .u32 0, .int .u32 0, .int .u32 0, .int .u32 0, .int .u32 0, .int .u32 0]) := by unfold Hid; rw [hw3]; exact HZ2.out.old _
  have HB3 : Hid (Below w.heap.size w w3) := by unfold Hid; rw [hw3]; exact HB2.out.alloc hg2 _
  rw [hga]
  clear hw3 hga hg2 HZ2 HB2
  go_wp2_with (fail)
  refine (turning_any e w3).mono ?_
  rintro e' w4 ⟨rfl, hw4⟩
  obtain ⟨ge, hge⟩ : ∃ ge, w3.heap.size = ge := ⟨_, rfl⟩
  have hg3 := HB3.out.size
  have HE4 : Hid (Rw w4 ge 22 #[.int .u32 (nt e : Nat)]) := by unfold Hid; rw [hw4]; exact Rw.at_ hge.symm _ _
  have HA4 : Hid (Rw w4 ga 22 #[.int .u32 (nt a : Nat)]) := by unfold Hid; rw [hw4]; exact HA3.out.old _
  have HZ4 : Hid (Rw w4 (w.heap.size + 1) 23 #[.int .u32 0, .int .u32 0, .int .u32 0, .int .u32 0, .int .u32 0, .int .u32 0, .int .u32 0, .int .u32 0]) := by unfold Hid; rw [hw4]; exact HZ3.out.old _
  have HB4 : Hid (Below w.heap.size w w4) := by unfold Hid; rw [hw4]; exact HB3.out.alloc hg3 _
  rw [hge]
  clear hw4 hge hg3 HZ3 HB3 HA3
  have T6 : Hid (Calls Try.prog 45 #[.int .u64 6, .pointer (some ⟨ge, 0, none⟩)] w4 (IsW (Sh.rot e 6) w4)) := turn1_any e 6 ge (by omega) w4 (HE4.out.cell 0)
  have T11 : Hid (Calls Try.prog 45 #[.int .u64 11, .pointer (some ⟨ge, 0, none⟩)] w4 (IsW (Sh.rot e 11) w4)) := turn1_any e 11 ge (by omega) w4 (HE4.out.cell 0)
  have T25 : Hid (Calls Try.prog 45 #[.int .u64 25, .pointer (some ⟨ge, 0, none⟩)] w4 (IsW (Sh.rot e 25) w4)) := turn1_any e 25 ge (by omega) w4 (HE4.out.cell 0)
  have T2 : Hid (Calls Try.prog 45 #[.int .u64 2, .pointer (some ⟨ga, 0, none⟩)] w4 (IsW (Sh.rot a 2) w4)) := turn1_any a 2 ga (by omega) w4 (HA4.out.cell 0)
  have T13 : Hid (Calls Try.prog 45 #[.int .u64 13, .pointer (some ⟨ga, 0, none⟩)] w4 (IsW (Sh.rot a 13) w4)) := turn1_any a 13 ga (by omega) w4 (HA4.out.cell 0)
  have T22 : Hid (Calls Try.prog 45 #[.int .u64 22, .pointer (some ⟨ga, 0, none⟩)] w4 (IsW (Sh.rot a 22) w4)) := turn1_any a 22 ga (by omega) w4 (HA4.out.cell 0)
  have HC := Lib.hid (choice_any e f g w4)
  have HM := Lib.hid (majority_any a b c w4)
  go_wp2_with (first
    | (go_at_call 45; (first
        | (with_reducible refine (T6.out).mono ?_) | (with_reducible refine (T11.out).mono ?_) | (with_reducible refine (T25.out).mono ?_)
        | (with_reducible refine (T2.out).mono ?_) | (with_reducible refine (T13.out).mono ?_) | (with_reducible refine (T22.out).mono ?_)); rintro e' w' ⟨rfl, rfl⟩)
    | (go_at_call 42; (with_reducible refine (HC.out).mono ?_); rintro e' w' ⟨rfl, rfl⟩)
    | (go_at_call 43; (with_reducible refine (HM.out).mono ?_); rintro e' w' ⟨rfl, rfl⟩)
    | (refine wpList_build_at rfl _ _ rfl _ (by rfl) ?_)
    | (refine wpList_store_row rfl _ _ _ rfl (w.heap.size + 1) (stv (Sh.round ⟨a, b, c, d, e, f, g, h⟩ k x)) rfl rfl 23 _ HZ4.out (by rw [stv_size]; exact size23) (by rw [stv_size]; rfl) (stv_one _) ?_))
  refine bodyPost_ret (v := .agg (stv (Sh.round ⟨a, b, c, d, e, f, g, h⟩ k x))) (results_cell_row rfl _ _ (w.heap.size + 1) 23 _ (0, 0) _ rfl (Rw.row HZ4.out _) Try.underlying23 rfl (by rw [stv_size]; exact size23)) rfl ⟨rfl, HB4.out.trans (below_setRow (Below.refl _ _) (by omega) _)⟩
end Go.Proofs.Ytejipcnihgpdhaa
