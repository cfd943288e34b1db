/-
  LebRowOne, part B: a list is read, and no row.
-/
import Derived.Test.YtheiffjnddhcoaaFrameW
import Derived.Test.YtheiffjnddhcoaaWorks
import Derived.Test.YtheiffjnddhcoaaGetList
import Derived.Test.YtheiffjnddhcoaaGetRow
import Derived.Test.YtheiffjnddhcoaaMathH
import Derived.Test.YtheiffjnddhcoaaCut
import Derived.Deep.RegionHeld3
import Derived.Deep.QuietTactic
import Derived.BigQuiet
namespace Go.Proofs.Ytheiffjnddhcoaa.lebRowOne
open Go.ChangeShapes Go.WideShapes Go.ChangeAt Go.RowKit
open Go.ChangeMaps (open_string shut_string)
set_option linter.unusedVariables false

set_option maxHeartbeats 600000 in
set_option maxRecDepth 100000 in
theorem err_ok (w : World) (v0 : Value) (l0 : List Nat) (h0 : Bv w w.heap.size v0 l0) (a2 : Int) (hm : a2 ≤ 9223372036854775807) (hsz : l0.length ≤ 1048576)
    (k : Nat) (hk : k < l0.length) (e : Nat) (he2 : 2 ≤ e) (hr : Mt.getRow l0 k a2 = ([], 0, e)) (ys : List Nat) (htL : (l0.drop k).take (putList ys).length = putList ys) (hpL0 : 0 < (putList ys).length) (hleL : k + (putList ys).length ≤ l0.length) (hysl : ys.length ≤ l0.length) (hrL : Mt.getList l0 k a2 = (ys, k + (putList ys).length, 0)) :
    Calls Try.prog 13 #[v0, .int .i64 (k : Int), .int .i64 a2] w (IsBool true w) := by
  have HM := Lib.hid hm
  have HC := Lib.hid (getRow_any v0 l0 _ (k : Int) a2 w (Nat.le_refl _) h0 hm (by omega))
  have H0 := Lib.hid h0
  clear hm
  obtain ⟨mL, hmL⟩ : ∃ mL, (putList ys).length = mL := ⟨_, rfl⟩
  rw [hmL] at hrL htL hpL0 hleL
  have HL := Lib.hid hrL
  have HTL := Lib.hid htL
  clear hrL htL hmL
  have HR := Lib.hid hr
  have hq : (((e : Nat) : Int) == 0) = false := by rw [beq_eq_false_iff_ne]; omega
  clear hr
  obtain ⟨A0, c, rfl, hc1, hc2, hc3, h4⟩ := h0
  obtain ⟨b, off, rfl, _⟩ := h4.2 (by omega)
  unfold maxLen at hc2
  clear h4 hc3
  go_enter Try.func13, Try.ntmps13
  go_wp2_with fail
  ((with_reducible refine HC.out.mono ?_); rintro e' w3 ⟨A, he, ho, hb⟩)
  rw [HR.out] at he ho
  subst he
  have HB := Lib.hid hb
  clear HC hb ho
  go_wp2_with fail
  go_quiet (fail)
  go_wp2_with fail
  refine (getList_any _ l0 w.heap.size _ _ _ ?hB ?hb HM.out (by omega)).mono ?_
  case hB => exact HB.out.size
  case hb => exact (H0.out.below_ HB.out (Nat.le_refl _)).below_ (below_drewN (Below.refl w.heap.size _) _) (Nat.le_refl _)
  rintro e' wL ⟨A5, c5, he, ho, hb⟩
  have HBL := Lib.hid ((below_drewN HB.out _).trans (hb.mono HB.out.size))
  rw [HL.out] at he ho
  subst he
  have HX := Lib.hid ((H0.out.below_ HBL.out (Nat.le_refl _)).cut_ hleL)
  rw [HTL.out] at HX
  have HXd : Hid (Bv wL.drew w.heap.size _ (putList ys)) := HX.out
  have HYd : Hid (Wv wL.drew wL.heap.size _ ys) := ho.form_
  have HBd := Lib.hid HBL.out.drew
  have HP := Lib.hid (putList_any _ ys wL.heap.size wL.drew (Nat.le_refl _) HYd.out (by omega))
  clear ho hb HX
  have e1 : (k : Int) < (k : Int) + (mL : Nat) := by omega
  have e2 : (k : Int) + (mL : Nat) ≤ (l0.length : Nat) := by omega
  have e3 : (k : Int) + (mL : Nat) ≤ (c : Nat) := by omega
  have e0 : (0 : Int) ≤ (k : Int) := by omega
  have d0 : decide ((k : Int) < 0) = false := by simp
  have d1 : decide ((k : Int) + ((mL : Nat) : Int) ≤ (k : Int)) = false := by simp; omega
  have d2 : decide (((l0.length : Nat) : Int) < (k : Int) + ((mL : Nat) : Int)) = false := by simp; omega
  have d3 : ¬ (k : Int) < 0 := by omega
  have d4 : ¬ (k : Int) + ((mL : Nat) : Int) ≤ (k : Int) := by omega
  have d5 : ¬ ((l0.length : Nat) : Int) < (k : Int) + ((mL : Nat) : Int) := by omega
  have e4 : (k : Int) ≤ (k : Int) + ((mL : Nat) : Int) := by omega
  have e11 : (0 : Int) ≤ (k : Int) + ((mL : Nat) : Int) := by omega
  have e5 : k + mL ≤ c := by omega
  have e6 : ¬ c = k := by omega
  have e7 : ¬ c ≤ k := by omega
  have e8 : k < c := by omega
  have e9 : ¬ c - k = 0 := by omega
  have e10 : ((k : Int) + ((mL : Nat) : Int)).toNat = k + mL := by omega
  go_wp2_with fail
  go_region_held3 (fun _ => True) (trivial) (first
    | (go_at_call 27; refine HP.out.mono ?_; rintro e' w7 ⟨g7, rfl, ho7, hb7⟩; have HB7 := Lib.hid (HBd.out.trans (hb7.mono HBd.out.size)); have HS := Lib.hid (same_bv _ _ _ _ _ _ w7 ho7.form_ (HXd.out.below_ hb7 HBd.out.size)); clear ho7 hb7)
    | (go_at_call 15; refine HS.out.mono ?_; rintro e' w8 ⟨he, hb8⟩; simp only [decide_true] at he; subst he; have HB8 := Lib.hid (HB7.out.trans (hb8.mono HB7.out.size)); clear hb8))
  clear e0 e1 e2 e3 e4 e5 e6 e7 e8 e9 e10 e11 d0 d1 d2 d3 d4 d5
  go_wp2_with fail
  refine (works_any _).mono ?_
  rintro e w9 ⟨rfl, hb9⟩
  go_wp2
  go_ret
  exact ⟨rfl, HB8.out.trans (hb9.mono HB8.out.size)⟩

end Go.Proofs.Ytheiffjnddhcoaa.lebRowOne
