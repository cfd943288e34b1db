/-
  draw.Mix, Next.
-/
import Derived.Test.YtggpldghdaggfaaDrRefM
namespace Go.Proofs.Ytggpldghdaggfaa
open Go.RowKit
set_option linter.unusedVariables false

set_option maxHeartbeats 400000 in
theorem pagainst_any (z : W64) (n : Nat) (hn : n < 64) (w : World) : Calls Try.prog 52 #[.int .u64 (nl z : Nat), .int .i64 n] w (IsL (Dr.xs n z) w) := by
  have i0 : (0 : Int) ≤ (n : Int) := by omega
  have i1 : (n : Int) < 64 := by omega
  have h1 := shr_l z n
  have h2 := xs_l z n
  go_enter Try.func52, Try.ntmps52
  go_wp2
  go_ret
  exact ⟨by rfl, rfl⟩

set_option maxHeartbeats 400000 in
theorem pmix_any (z : W64) (w : World) : Calls Try.prog 51 #[.int .u64 (nl z : Nat)] w (IsL (Dr.mix z) w) := by
  have H30 : Hid (∀ w, Calls Try.prog 52 #[.int .u64 (nl z : Nat), .int .i64 30] w (IsL (Dr.xs 30 z) w)) := fun w => pagainst_any z 30 (by decide) w
  have H27 : Hid (∀ w, Calls Try.prog 52 #[.int .u64 (nl (Dr.xs 30 z * Dr.first) : Nat), .int .i64 27] w (IsL (Dr.xs 27 (Dr.xs 30 z * Dr.first)) w)) := fun w => pagainst_any _ 27 (by decide) w
  have H31 : Hid (∀ w, Calls Try.prog 52 #[.int .u64 (nl (Dr.xs 27 (Dr.xs 30 z * Dr.first) * Dr.other) : Nat), .int .i64 31] w (IsL (Dr.mix z) w)) := fun w => pagainst_any _ 31 (by decide) w
  have h3 := mul_first (Dr.xs 30 z)
  have h6 := mul_other (Dr.xs 27 (Dr.xs 30 z * Dr.first))
  go_enter Try.func51, Try.ntmps51
  go_wp2_with (fail)
  refine (H30.out _).mono ?_
  rintro e w1 ⟨rfl, rfl⟩
  go_wp2_with (fail)
  refine (H27.out _).mono ?_
  rintro e w1 ⟨rfl, rfl⟩
  go_wp2_with (fail)
  refine (H31.out _).mono ?_
  rintro e w1 ⟨rfl, rfl⟩
  go_wp2
  go_ret
  exact ⟨by rfl, rfl⟩

set_option maxHeartbeats 400000 in
theorem pnext_any (s : W64) (w : World) : Calls Try.prog 50 #[.int .u64 (nl s : Nat)] w (IsNext s w) := by
  have h1 := add_gold s
  have HM := Lib.hid (fun w => pmix_any (s + Dr.gold) w)
  go_enter Try.func50, Try.ntmps50
  go_wp2_with (fail)
  refine (HM.out _).mono ?_
  rintro e w1 ⟨rfl, rfl⟩
  go_wp2
  go_ret2
  exact ⟨by rfl, rfl⟩
end Go.Proofs.Ytggpldghdaggfaa
