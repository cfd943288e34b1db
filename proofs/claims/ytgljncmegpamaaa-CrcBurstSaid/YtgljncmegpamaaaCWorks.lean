/-
  stooklaw02.works answers true: the two examples of the chapter that it asks.
-/
import Derived.Test.YtgljncmegpamaaaCMore
import Derived.Lib.SlBytesConst
namespace Go.Proofs.Ytgljncmegpamaaa
open Go.RowKit
set_option linter.unusedVariables false

theorem of_nine : Cr.of [49, 50, 51, 52, 53, 54, 55, 56, 57] = 3808858755 := by decide +kernel
theorem step_three : Cr.step 3 = 2197175161 := by decide +kernel

def nine : Array Value := #[.int .u8 49, .int .u8 50, .int .u8 51, .int .u8 52, .int .u8 53, .int .u8 54, .int .u8 55, .int .u8 56, .int .u8 57]
theorem Bv.nine_ (w : World) : Bv (w.alloc (.cells nine 5 (9, 10))) (w.heap.size + 1) (.slice (some ⟨w.heap.size, 0, none⟩) 9 9) [49, 50, 51, 52, 53, 54, 55, 56, 57] := by
  refine ⟨some ⟨w.heap.size, 0, none⟩, 9, rfl, by decide, by simp [maxLen], by simp, by decide, fun _ => ⟨w.heap.size, 0, rfl, by omega, fun j c hj => ?_⟩⟩
  rw [Nat.zero_add, World.cell?_alloc_mark]
  have hl : j < 9 := (List.getElem?_eq_some_iff.1 hj).1
  have h : ∀ j, j < 9 → ∀ c, [49, 50, 51, 52, 53, 54, 55, 56, 57][j]? = some c → nine[j]? = some (.int .u8 (c : Nat)) := by
    intro j hj c hc
    rcases j with _|_|_|_|_|_|_|_|_|j
    all_goals first | (simp at hc; subst hc; rfl) | omega
  exact h j hl c hj

set_option maxHeartbeats 1000000 in
set_option maxRecDepth 100000 in
theorem works_any (w : World) : Calls Try.prog 14 #[] w (IsBool true w) := by
  have HB := Lib.hid ((Below.refl w.heap.size w).alloc (Nat.le_refl _) (.cells nine 5 (9, 10)))
  have HC := of_any _ _ _ _ (Bv.nine_ w)
  have HS : ∀ w, Calls Try.prog 10 #[.int .u32 3] w (IsU32 (Cr.step 3) w) := step_any 3 (by unfold Cr.B32; omega)
  rw [of_nine] at HC
  rw [step_three] at HS
  have HC1 := Lib.hid HC
  have HS1 := Lib.hid HS
  have hcv : (convert 27 27 (.slice (some ⟨w.heap.size, 0, none⟩) 9 9)).run Try.prog (w.alloc (.cells #[.int .u8 49, .int .u8 50, .int .u8 51, .int .u8 52, .int .u8 53, .int .u8 54, .int .u8 55, .int .u8 56, .int .u8 57] 5)) = .ok (.slice (some ⟨w.heap.size, 0, none⟩) 9 9) (w.alloc (.cells nine 5 (9, 10))) :=
    Lib.run_convert_bytes_const w 27 5 nine 9 9 Try.underlying27 Try.underlying5
  clear HC HS
  go_enter Try.func14, Try.ntmps14
  go_wp2_with fail
  ((with_reducible refine HC1.out.mono ?_); rintro e w' ⟨rfl, rfl⟩)
  go_wp2_with fail
  ((with_reducible refine (HS1.out _).mono ?_); rintro e w' ⟨rfl, rfl⟩)
  go_wp2
  go_ret
  exact ⟨rfl, HB.out⟩
end Go.Proofs.Ytgljncmegpamaaa
