/-
  The first bytes of a slice that may be nil: what cutting it answers, in one word.
-/
import Derived.Test.YtejipcnihgpdhaaApp
namespace Go.Proofs.Ytejipcnihgpdhaa
open Go.RowKit

theorem addr_zero (a : Addr) : a.add 0 = a := by
  unfold Addr.add
  split <;> simp_all
theorem slice_to (A : Option Addr) (n c m : Nat) (h : m ≤ c) (w : World) :
    (Instr.slice 28 (.slice A n c) none (some (.int .i64 (m : Nat))) none).run Try.prog w = .ok (.slice A m c) w := by
  have h1 : (sizeOf (Try.prog.elem 28)).run Try.prog w = .ok 1 w := by
    obtain ⟨i, hi, _, hs, _⟩ := info_parts info5
    have he : Try.prog.elem 28 = 5 := by kernel_rfl
    rw [he]
    simp [sizeOf, typeInfo, hi, hs]
  rw [run_slice_h (P := Try.prog) w 28 A n c Try.underlying28 .i64 (m : Nat) (by omega) (by omega), h1]
  simp only [Result.andThen, sliced, Int.toNat_natCast, Nat.zero_mul, Nat.sub_zero]
  have e : A.map (·.add 0) = A := by cases A <;> simp [addr_zero]
  simp [addr_zero]
theorem sliceAt_to (A : Option Addr) (n c m : Nat) (h : m ≤ c) (w : World) :
    (Instr.sliceAt 28 (.slice A n c) none (some (.int .i64 (m : Nat))) none).run Try.prog w = .ok (.slice A m c) w := by
  rw [run_sliceAt_slice (P := Try.prog) w _ _ _ _ _ Try.underlying28]
  exact slice_to A n c m h w
end Go.Proofs.Ytejipcnihgpdhaa
