/-
  pack: Fold, Unfold.
-/
import Derived.Test.YtapedjcchcgoeaaPkXor
namespace Go.Proofs.Ytapedjcchcgoeaa
open Go.RowKit
theorem pfold_any (n : Int) (hn : I64 n) (w : World) : Calls Try.prog 10 #[.int .i64 n] w (fun e w' => e = .returned (.int .u64 (Pk.fold n : Nat)) ∧ w = w') := by
  unfold I64 at hn
  by_cases h : 0 ≤ n
  · have HF := Lib.hid (Pk.fold_pos h (by omega))
    have h1 : IntKind.u64.wrap n = n := by rw [IntKind.wrap_u64]; omega
    go_enter Try.func10, Try.ntmps10
    go_wp2
    go_ret
    exact ⟨congrArg (fun x => Ending.returned (Value.int _ x)) HF.out, rfl⟩
  · have HF := Lib.hid (Pk.fold_neg (n := n) (by omega) (by omega))
    go_enter Try.func10, Try.ntmps10
    go_wp2
    go_ret
    exact ⟨congrArg (fun x => Ending.returned (Value.int _ x)) HF.out, rfl⟩
theorem punfold_any (u : Nat) (hu : u < 18446744073709551616) (w : World) : Calls Try.prog 12 #[.int .u64 (u : Nat)] w (fun e w' => e = .returned (.int .i64 (Pk.unfold u)) ∧ w = w') := by
  have HF := Lib.hid (Pk.unfold_bits hu)
  go_enter Try.func12, Try.ntmps12
  go_wp2
  go_ret
  exact ⟨congrArg (fun x => Ending.returned (Value.int _ x)) HF.out, rfl⟩
end Go.Proofs.Ytapedjcchcgoeaa
