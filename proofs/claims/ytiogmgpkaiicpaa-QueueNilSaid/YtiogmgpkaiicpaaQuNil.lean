/-
  A queue of ints that is not there, or was not made by New.
-/
import Derived.Test.YtiogmgpkaiicpaaQuHasI
namespace Go.Proofs.Ytiogmgpkaiicpaa
open Go.RowKit
set_option linter.unusedVariables false

/-- A queue's zero object. -/
def ZeroQ (w : World) (qb : Nat) : Prop := w.heap[qb]? = some (.cells #[.nilFunc, .slice none 0 0, .int .u64 0] 59 (0, 0))
/-- No queue: made answers false. -/
def NoQ (u : Value) (w : World) : Prop := Calls Try.prog 34 #[u] w (fun e w' => e = .returned (.bool false) ∧ w = w')
theorem noQ_none (w : World) : NoQ (.pointer none) w := pmade_noneI w
theorem not_less (w : World) : (binOp .neq 26 .nilFunc .nilFunc).run Try.prog w = .ok (.bool false) w := by kernel_rfl
set_option maxHeartbeats 1000000 in
theorem noQ_zero {w : World} {qb : Nat} (h : ZeroQ w qb) : NoQ (.pointer (some ⟨qb, 0, none⟩)) w := by
  have d0 : w.cell? ⟨qb, 0, none⟩ = some .nilFunc := by rw [cell_of_row _ qb 0 _ _ _ h]; rfl
  have hnn := not_less
  clear h
  unfold NoQ
  go_enter Try.func34, Try.ntmps34
  go_wp2
  go_ret
  exact ⟨rfl, rfl⟩
section
variable {w : World} {u : Value}
set_option maxHeartbeats 1000000 in
theorem plen_no (h : NoQ u w) : Calls Try.prog 17 #[u] w (fun e w' => e = .returned (.int .i64 0) ∧ w = w') := by
  have HM := Lib.hid h
  clear h
  go_enter Try.func17, Try.ntmps17
  go_wp2_with (fail)
  refine (HM.out).mono ?_
  rintro e w1 ⟨rfl, rfl⟩
  go_wp2
  go_ret
  exact ⟨rfl, rfl⟩
set_option maxHeartbeats 1000000 in
theorem ppeek_no (h : NoQ u w) : Calls Try.prog 15 #[u] w (fun e w' => e = .returned (.tuple #[.int .i64 0, .bool false]) ∧ w = w') := by
  have HM := Lib.hid (plen_no h)
  clear h
  go_enter Try.func15, Try.ntmps15
  go_wp2_with (fail)
  refine (HM.out).mono ?_
  rintro e w1 ⟨rfl, rfl⟩
  go_wp2
  go_ret2
  exact ⟨rfl, rfl⟩
set_option maxHeartbeats 1000000 in
theorem ppop_no (h : NoQ u w) : Calls Try.prog 16 #[u] w (fun e w' => e = .returned (.tuple #[.int .i64 0, .bool false]) ∧ w = w') := by
  have HM := Lib.hid (ppeek_no h)
  clear h
  go_enter Try.func16, Try.ntmps16
  go_wp2_with (fail)
  refine (HM.out).mono ?_
  rintro e w1 ⟨rfl, rfl⟩
  go_wp2
  go_ret2
  exact ⟨rfl, rfl⟩
set_option maxHeartbeats 1000000 in
theorem ppush_no (h : NoQ u w) (x : Int) : Calls Try.prog 13 #[u, .int .i64 x] w (fun e w' => e = .returned (.int .i64 1) ∧ w = w') := by
  have HM := Lib.hid h
  clear h
  go_enter Try.func13, Try.ntmps13
  go_wp2_with (fail)
  refine (HM.out).mono ?_
  rintro e w1 ⟨rfl, rfl⟩
  go_wp2
  go_ret
  exact ⟨rfl, rfl⟩
end
theorem no_less (w : World) : (binOp .eql 26 .nilFunc .nilFunc).run Try.prog w = .ok (.bool true) w := by kernel_rfl
theorem no_queue (w : World) : (binOp .eql 23 (.pointer none) (.pointer none)).run Try.prog w = .ok (.bool true) w := by kernel_rfl
set_option maxHeartbeats 1000000 in
theorem pnew_no (w : World) : Calls Try.prog 10 #[.nilFunc] w (fun e w' => e = .returned (.pointer none) ∧ w = w') := by
  have h1 := no_less
  go_enter Try.func10, Try.ntmps10
  go_wp2
  go_ret
  exact ⟨rfl, rfl⟩
set_option maxHeartbeats 1000000 in
theorem psorted_no (w : World) (v : Value) : Calls Try.prog 19 #[v, .nilFunc] w (fun e w' => e = .returned (.slice none 0 0) ∧ w = w') := by
  have HM := Lib.hid (pnew_no w)
  have h1 := no_queue
  go_enter Try.func19, Try.ntmps19
  go_wp2_with (fail)
  refine (HM.out).mono ?_
  rintro e w1 ⟨rfl, rfl⟩
  go_wp2
  go_ret
  exact ⟨rfl, rfl⟩
end Go.Proofs.Ytiogmgpkaiicpaa
