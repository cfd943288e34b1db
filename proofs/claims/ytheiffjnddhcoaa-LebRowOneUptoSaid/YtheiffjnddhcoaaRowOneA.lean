/-
  LebRowOne, part A: neither a row nor a list is read.
-/
import Derived.Test.YtheiffjnddhcoaaFrameW
import Derived.Test.YtheiffjnddhcoaaWorks
import Derived.Test.YtheiffjnddhcoaaGetList
import Derived.Test.YtheiffjnddhcoaaGetRow
import Derived.Test.YtheiffjnddhcoaaMathH
import Derived.Test.YtheiffjnddhcoaaCut
import Derived.Deep.RegionHeld3
import Derived.Deep.QuietTactic
import Derived.BigQuiet
namespace Go.Proofs.Ytheiffjnddhcoaa.lebRowOne
open Go.ChangeShapes Go.WideShapes Go.ChangeAt Go.RowKit
open Go.ChangeMaps (open_string shut_string)
set_option linter.unusedVariables false

set_option maxHeartbeats 600000 in
set_option maxRecDepth 100000 in
theorem err_err (w : World) (v0 : Value) (l0 : List Nat) (h0 : Bv w w.heap.size v0 l0) (a1 : Int) (a2 : Int) (hm : a2 ≤ 9223372036854775807) (hsz : l0.length ≤ 1048576)
    (e : Nat) (he2 : 2 ≤ e) (hr : Mt.getRow l0 a1 a2 = ([], 0, e)) (eL : Nat) (heL : 2 ≤ eL) (hrL : Mt.getList l0 a1 a2 = ([], 0, eL)) :
    Calls Try.prog 13 #[v0, .int .i64 a1, .int .i64 a2] w (IsBool true w) := by
  have HM := Lib.hid hm
  have HC := Lib.hid (getRow_any v0 l0 _ a1 a2 w (Nat.le_refl _) h0 hm (by omega))
  have H0 := Lib.hid h0
  clear hm
  have HL := Lib.hid hrL
  have hqL : (((eL : Nat) : Int) == 0) = false := by rw [beq_eq_false_iff_ne]; omega
  clear hrL
  have HR := Lib.hid hr
  have hq : (((e : Nat) : Int) == 0) = false := by rw [beq_eq_false_iff_ne]; omega
  clear hr
  obtain ⟨A0, c, rfl, hc1, hc2, hc3, h4⟩ := h0
  unfold maxLen at hc2
  clear h4 hc3
  go_enter Try.func13, Try.ntmps13
  go_wp2_with fail
  ((with_reducible refine HC.out.mono ?_); rintro e' w3 ⟨A, he, ho, hb⟩)
  rw [HR.out] at he ho
  subst he
  have HB := Lib.hid hb
  clear HC hb ho
  go_wp2_with fail
  go_quiet (fail)
  go_wp2_with fail
  refine (getList_any _ l0 w.heap.size _ _ _ ?hB ?hb HM.out (by omega)).mono ?_
  case hB => exact HB.out.size
  case hb => exact (H0.out.below_ HB.out (Nat.le_refl _)).below_ (below_drewN (Below.refl w.heap.size _) _) (Nat.le_refl _)
  rintro e' wL ⟨A5, c5, he, ho, hb⟩
  have HBL := Lib.hid ((below_drewN HB.out _).trans (hb.mono HB.out.size))
  rw [HL.out] at he ho
  subst he
  clear ho hb
  go_wp2_with fail
  go_quiet (fail)
  go_wp2_with fail
  refine (works_any _).mono ?_
  rintro e w9 ⟨rfl, hb9⟩
  go_wp2
  go_ret
  exact ⟨rfl, (below_drewN HBL.out _).trans (hb9.mono HBL.out.size)⟩

end Go.Proofs.Ytheiffjnddhcoaa.lebRowOne
