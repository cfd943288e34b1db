/-
  stookref12: Fold, Unfold.
-/
import Derived.Test.YtapedjcchcgoeaaPkMath
namespace Go.Proofs.Ytapedjcchcgoeaa
open Go.RowKit
theorem rfold_any (n : Int) (hn : I64 n) (w : World) : Calls Try.prog 11 #[.int .i64 n] w (fun e w' => e = .returned (.int .u64 (Pk.fold n : Nat)) ∧ w = w') := by
  unfold I64 at hn
  by_cases h : 0 ≤ n
  · have h1 : IntKind.u64.wrap n = n := by rw [IntKind.wrap_u64]; omega
    have h2 : IntKind.u64.wrap (2 * n) = 2 * n := by rw [IntKind.wrap_u64]; omega
    have hf : ((Pk.fold n : Nat) : Int) = 2 * n := by unfold Pk.fold; rw [if_pos h]; omega
    go_enter Try.func11, Try.ntmps11
    go_wp2
    go_ret
    exact ⟨congrArg (fun x => Ending.returned (Value.int _ x)) hf.symm, rfl⟩
  · have hn0 : n < 0 := by omega
    have h0 : IntKind.i64.wrap (n + 1) = n + 1 := by rw [IntKind.wrap_i64]; omega
    have h01 : IntKind.i64.wrap (-(n + 1)) = -(n + 1) := by rw [IntKind.wrap_i64]; omega
    have h1 : IntKind.u64.wrap (-(n + 1)) = -(n + 1) := by rw [IntKind.wrap_u64]; omega
    have h2 : IntKind.u64.wrap (2 * -(n + 1)) = 2 * -(n + 1) := by rw [IntKind.wrap_u64]; omega
    have h3 : IntKind.u64.wrap (2 * -(n + 1) + 1) = 2 * -(n + 1) + 1 := by rw [IntKind.wrap_u64]; omega
    have hf : ((Pk.fold n : Nat) : Int) = 2 * -(n + 1) + 1 := by unfold Pk.fold; rw [if_neg h]; omega
    go_enter Try.func11, Try.ntmps11
    go_wp2
    go_ret
    exact ⟨rfl, rfl⟩
theorem runfold_any (u : Nat) (hu : u < 18446744073709551616) (w : World) : Calls Try.prog 13 #[.int .u64 (u : Nat)] w (fun e w' => e = .returned (.int .i64 (Pk.unfold u)) ∧ w = w') := by
  have h1 : IntKind.i64.wrap ((u : Int) / 2) = (u : Int) / 2 := by rw [IntKind.wrap_i64]; omega
  have h1' : IntKind.i64.wrap (((u / 2 : Nat) : Int)) = (u : Int) / 2 := by rw [IntKind.wrap_i64]; omega
  by_cases h : u % 2 = 0
  · have hi : (u : Int) % 2 = 0 := by omega
    have hf : Pk.unfold u = (u : Int) / 2 := by unfold Pk.unfold; rw [if_pos h]; omega
    go_enter Try.func13, Try.ntmps13
    go_wp2
    go_ret
    exact ⟨congrArg (fun x => Ending.returned (Value.int _ x)) hf.symm, rfl⟩
  · have hi : ¬ (u : Int) % 2 = 0 := by omega
    have hib : ((u : Int) % 2 == 0) = false := by rw [beq_eq_false_iff_ne]; exact hi
    have h3 : IntKind.i64.wrap (-((u : Int) / 2)) = -((u : Int) / 2) := by rw [IntKind.wrap_i64]; omega
    have h4 : IntKind.i64.wrap (-((u : Int) / 2) - 1) = -((u : Int) / 2) - 1 := by rw [IntKind.wrap_i64]; omega
    have hf : Pk.unfold u = -((u : Int) / 2) - 1 := by unfold Pk.unfold; rw [if_neg h]; omega
    go_enter Try.func13, Try.ntmps13
    go_wp2
    go_ret
    exact ⟨congrArg (fun x => Ending.returned (Value.int _ x)) hf.symm, rfl⟩
end Go.Proofs.Ytapedjcchcgoeaa
