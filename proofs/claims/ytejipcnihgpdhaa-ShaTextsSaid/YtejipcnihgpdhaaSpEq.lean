/-
  An array of numbers is the same as itself, as Go tells it. Hashes that are not there.
-/
import Derived.Test.YtejipcnihgpdhaaSpWorks
import Derived.Stop.BytesEq
namespace Go.Proofs.Ytejipcnihgpdhaa
open Go.RowKit
set_option linter.unusedVariables false

theorem equal_same {P : Program} (w : World) (d : Nat) (t e : TypeId) (n : Nat) (kd : IntKind) (ht : P.underlying t = some (.array n e)) (he : P.underlying e = some (.int kd)) (hsz : ∀ w, (sizeOf e).run P w = .ok 1 w)
    (c : Array Value) (hc : c.size = n) (hk : ∀ i, i < n → ∃ a, c[i]? = some (.int kd a)) :
    (Op.equalIn (d + 2) t (.agg c) (.agg c)).run P w = .ok true w := by
  rw [Op.equalIn]
  simp only [Sem.run_bind, run_underlying ht, Result.andThen_ok, hsz, Std.Legacy.Range.forIn_eq_forIn_range', Std.Legacy.Range.size, Nat.sub_zero, Nat.add_sub_cancel, Nat.div_one]
  have hl : ∀ i ∈ List.range' 0 n 1, i < n := fun i hi => by simpa using (List.mem_range'_1.1 hi).2
  generalize List.range' 0 n 1 = l at hl ⊢
  induction l with
  | nil => simp
  | cons i l ih =>
    obtain ⟨a, ha⟩ := hk i (hl i (by simp))
    have px : (part e c (i * 1)).run P w = .ok (.int kd a) w := by
      simp [part, isAgg, run_underlying he, ha]
    have pe : (Op.equalIn (d + 1) e (.int kd a) (.int kd a)).run P w = .ok true w := by
      rw [run_equalIn_int w d e kd kd _ _ he]
      simp
    simp only [List.forIn_cons, Sem.run_bind, px, pe, Result.andThen_ok]
    simp only [Bool.not_true, Bool.false_eq_true, if_false, Sem.run_pure, Result.andThen_ok]
    exact ih fun j hj => hl j (by simp [hj])
theorem size_of5 (w : World) : (sizeOf 5).run Try.prog w = .ok 1 w := by
  obtain ⟨i, hi, _, hs, _⟩ := info_parts info5
  simp [sizeOf, typeInfo, hi, hs]
theorem infoU32 : (Try.prog.info? 22).map (fun i => (i.zero, i.size, i.bytes)) = some (some (.int .u32 0), 1, 4) := by kernel_rfl
theorem size_of22 (w : World) : (sizeOf 22).run Try.prog w = .ok 1 w := by
  obtain ⟨i, hi, _, hs, _⟩ := info_parts infoU32
  simp [sizeOf, typeInfo, hi, hs]
theorem same32 (l : List Nat) (h : l.length = 32) (w : World) : (Op.equalIn 10000 35 (.agg (bvs l)) (.agg (bvs l))).run Try.prog w = .ok true w :=
  equal_same w 9998 _ 5 32 .u8 Try.underlying35 Try.underlying5 size_of5 _ (by rw [bvs_size, h]) (fun i hi => ⟨_, bvs_at l (by omega)⟩)
theorem same8 (s : Sh.St) (w : World) : (Op.equalIn 10000 23 (.agg (stv s)) (.agg (stv s))).run Try.prog w = .ok true w :=
  equal_same w 9998 _ 22 8 .u32 Try.underlying23 Try.underlying22 size_of22 _ rfl (fun i hi => ⟨_, stv_at s hi⟩)

/-! Hashes that are not there. -/
theorem write_nil (v : Value) (w : World) : Calls Try.prog 23 #[.pointer none, v] w (fun e w' => e = .returned (.int .i64 1) ∧ w = w') := by
  go_enter Try.func23, Try.ntmps23
  go_wp2
  go_ret
  exact ⟨rfl, rfl⟩
theorem write_zero (g : Nat) (v : Value) (w : World) (h : w.cell? ⟨g, 0, none⟩ = some (.bool false)) : Calls Try.prog 23 #[.pointer (some ⟨g, 0, none⟩), v] w (fun e w' => e = .returned (.int .i64 1) ∧ w = w') := by
  go_enter Try.func23, Try.ntmps23
  go_wp2
  go_ret
  exact ⟨rfl, rfl⟩
theorem copy_nil (w : World) : Calls Try.prog 25 #[.pointer none] w (fun e w' => e = .returned (.pointer none) ∧ w = w') := by
  go_enter Try.func25, Try.ntmps25
  go_wp2
  go_ret
  exact ⟨rfl, rfl⟩
theorem copy_zero (g : Nat) (w : World) (h : w.cell? ⟨g, 0, none⟩ = some (.bool false)) : Calls Try.prog 25 #[.pointer (some ⟨g, 0, none⟩)] w (fun e w' => e = .returned (.pointer none) ∧ w = w') := by
  go_enter Try.func25, Try.ntmps25
  go_wp2
  go_ret
  exact ⟨rfl, rfl⟩
set_option maxRecDepth 100000 in
theorem hsum_nil (w : World) : Calls Try.prog 24 #[.pointer none] w (fun e w' => e = .returned (.agg none32) ∧ Below w.heap.size w w') := by
  have hzero : ∀ w, (zeroValue 35).run Try.prog w = .ok (.agg none32) w := (zero_of_info (n := 32) (by kernel_rfl)).1
  go_enter Try.func24, Try.ntmps24
  go_wp2_with (first
    | (refine wpList_build_at rfl _ _ rfl none32 (by kernel_rfl) ?_)
    | (refine wpList_store_row rfl _ _ _ rfl w.heap.size none32 rfl rfl 35 _ (heap_alloc_new w _) none32_size (by rfl) none32_one ?_
       rw [World.setRow_alloc_new]))
  refine bodyPost_ret (v := .agg none32) (results_cell_row rfl _ _ w.heap.size 35 none32 (0, 0) _ rfl (heap_alloc_new w _) Try.underlying35 rfl none32_size) rfl ⟨rfl, (Below.refl w.heap.size w).alloc (Nat.le_refl _) _⟩
set_option maxRecDepth 100000 in
theorem hsum_zero (g : Nat) (w : World) (h : (w.alloc (.cells none32 35)).cell? ⟨g, 0, none⟩ = some (.bool false)) : Calls Try.prog 24 #[.pointer (some ⟨g, 0, none⟩)] w (fun e w' => e = .returned (.agg none32) ∧ Below w.heap.size w w') := by
  have hzero : ∀ w, (zeroValue 35).run Try.prog w = .ok (.agg none32) w := (zero_of_info (n := 32) (by kernel_rfl)).1
  go_enter Try.func24, Try.ntmps24
  go_wp2_with (first
    | (refine wpList_build_at rfl _ _ rfl none32 (by kernel_rfl) ?_)
    | (refine wpList_store_row rfl _ _ _ rfl w.heap.size none32 rfl rfl 35 _ (heap_alloc_new w _) none32_size (by rfl) none32_one ?_
       rw [World.setRow_alloc_new]))
  refine bodyPost_ret (v := .agg none32) (results_cell_row rfl _ _ w.heap.size 35 none32 (0, 0) _ rfl (heap_alloc_new w _) Try.underlying35 rfl none32_size) rfl ⟨rfl, (Below.refl w.heap.size w).alloc (Nat.le_refl _) _⟩
end Go.Proofs.Ytejipcnihgpdhaa
