/-
  The program's words: sha.constants, beginning, choice, majority, turning and what it answers.
-/
import Derived.Test.YtejipcnihgpdhaaShPressA
namespace Go.Proofs.Ytejipcnihgpdhaa
open Go.RowKit
set_option linter.unusedVariables false

/-- A call that answers the constants, and turns nothing that was there. -/
def IsK (w : World) (e : Ending) (w' : World) : Prop := e = .returned (.agg kcells) ∧ Below w.heap.size w w'

set_option maxHeartbeats 1000000 in
set_option maxRecDepth 100000 in
theorem constants_any (w : World) : Calls Try.prog 29 #[] w (IsK w) := by
  go_enter Try.func29, Try.ntmps29
  go_wp2_with (first
    | (refine wpList_build_at rfl _ _ rfl kcells (by kernel_rfl) ?_)
    | (refine wpList_store_row rfl _ _ _ rfl w.heap.size kcells rfl rfl 53 _ (heap_alloc_new w _) (by rw [kcells_size]; exact size52) (by rw [kcells_size]; rfl) kcells_one ?_
       rw [World.setRow_alloc_new]))
  refine bodyPost_ret (v := .agg kcells) (results_cell_row rfl _ _ w.heap.size 53 _ (0, 0) _ rfl (heap_alloc_new w _) Try.underlying53 rfl (by rw [kcells_size]; exact size52)) rfl ⟨rfl, (Below.refl w.heap.size w).alloc (Nat.le_refl _) _⟩

set_option maxHeartbeats 1000000 in
set_option maxRecDepth 100000 in
theorem beginning_any (w : World) : Calls Try.prog 39 #[] w (IsSt Sh.begin w) := by
  go_enter Try.func39, Try.ntmps39
  go_wp2_with (first
    | (refine wpList_build_at rfl _ _ rfl (stv Sh.begin) (by kernel_rfl) ?_)
    | (refine wpList_store_row rfl _ _ _ rfl w.heap.size (stv Sh.begin) rfl rfl 23 _ (heap_alloc_new w _) (by rw [stv_size]; exact size23) (by rw [stv_size]; rfl) (stv_one _) ?_
       rw [World.setRow_alloc_new]))
  refine bodyPost_ret (v := .agg (stv Sh.begin)) (results_cell_row rfl _ _ w.heap.size 23 _ (0, 0) _ rfl (heap_alloc_new w _) Try.underlying23 rfl (by rw [stv_size]; exact size23)) rfl ⟨rfl, (Below.refl w.heap.size w).alloc (Nat.le_refl _) _⟩

set_option maxRecDepth 100000 in
theorem choice_any (x y z : Sh.W32) (w : World) : Calls Try.prog 42 #[.int .u32 (nt x : Nat), .int .u32 (nt y : Nat), .int .u32 (nt z : Nat)] w (IsW (Sh.ch x y z) w) := by
  have h1 := and_bv
  have h2 := or_bv
  go_enter Try.func42, Try.ntmps42
  go_wp2_with (refine wpList_notu rfl _ _ rfl _ rfl ?_)
  go_ret
  exact ⟨by rfl, rfl⟩
set_option maxRecDepth 100000 in
theorem majority_any (x y z : Sh.W32) (w : World) : Calls Try.prog 43 #[.int .u32 (nt x : Nat), .int .u32 (nt y : Nat), .int .u32 (nt z : Nat)] w (IsW (Sh.maj x y z) w) := by
  have h1 := and_bv
  have h2 := or_bv
  go_enter Try.func43, Try.ntmps43
  go_wp2
  go_ret
  exact ⟨by rfl, rfl⟩

/-- What turning answers: a function over the cell at g. -/
abbrev turner (g : Nat) : Value := .func (.func 45) #[] #[.pointer (some ⟨g, 0, none⟩)]
set_option maxRecDepth 100000 in
theorem turning_any (x : Sh.W32) (w : World) : Calls Try.prog 41 #[.int .u32 (nt x : Nat)] w (fun e w' => e = .returned (turner w.heap.size) ∧ w' = w.alloc (.cells #[.int .u32 (nt x : Nat)] 22)) := by
  have hmf : ∀ (fn : Fn) (first cap : Array Value) (w : World), (Instr.makeFunc fn first cap).run Try.prog w = .ok (.func fn first cap) w := fun _ _ _ _ => rfl
  go_enter Try.func41, Try.ntmps41
  go_wp2
  go_ret
  exact ⟨by rfl, rfl⟩
set_option maxHeartbeats 400000 in
set_option maxRecDepth 100000 in
theorem turn1_any (x : Sh.W32) (n g : Nat) (hn : n ≤ 32) (w : World) (hc : w.cell? ⟨g, 0, none⟩ = some (.int .u32 (nt x : Nat))) :
    Calls Try.prog 45 #[.int .u64 n, .pointer (some ⟨g, 0, none⟩)] w (IsW (Sh.rot x n) w) := by
  have h1 := shr_bv x n
  have h2 := shl_bv x (32 - n)
  have h3 := or_bv (x >>> n) (x <<< (32 - n))
  have h4 : ((32 : Int) - (n : Int)).toNat = 32 - n := by omega
  have h5 : (0 : Int) ≤ 32 - (n : Int) := by omega
  have h6 : ((32 : Int) - (n : Int)) % 18446744073709551616 = 32 - (n : Int) := by omega
  go_enter Try.func45, Try.ntmps45
  go_wp2
  go_ret
  exact ⟨by rfl, rfl⟩
end Go.Proofs.Ytejipcnihgpdhaa
