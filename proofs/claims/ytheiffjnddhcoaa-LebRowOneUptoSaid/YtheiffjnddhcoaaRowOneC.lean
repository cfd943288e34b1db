/-
  LebRowOne, part C: a row is read, and no list.
-/
import Derived.Test.YtheiffjnddhcoaaFrameW
import Derived.Test.YtheiffjnddhcoaaWorks
import Derived.Test.YtheiffjnddhcoaaGetList
import Derived.Test.YtheiffjnddhcoaaGetRow
import Derived.Test.YtheiffjnddhcoaaMathH
import Derived.Test.YtheiffjnddhcoaaCut
import Derived.Deep.RegionHeld3
import Derived.Deep.QuietTactic
import Derived.BigQuiet
namespace Go.Proofs.Ytheiffjnddhcoaa.lebRowOne
open Go.ChangeShapes Go.WideShapes Go.ChangeAt Go.RowKit
open Go.ChangeMaps (open_string shut_string)
set_option linter.unusedVariables false

set_option maxHeartbeats 600000 in
set_option maxRecDepth 100000 in
theorem ok_err (w : World) (v0 : Value) (l0 : List Nat) (h0 : Bv w w.heap.size v0 l0) (a2 : Int) (hm : a2 ≤ 9223372036854775807) (hsz : l0.length ≤ 1048576)
    (k : Nat) (y : List Nat) (hk : k < l0.length) (ht : (l0.drop k).take (putRow y).length = putRow y) (hp0 : 0 < (putRow y).length) (hle : k + (putRow y).length ≤ l0.length) (hyl : y.length ≤ l0.length) (hr : Mt.getRow l0 k a2 = (y, k + (putRow y).length, 0)) (eL : Nat) (heL : 2 ≤ eL) (hrL : Mt.getList l0 k a2 = ([], 0, eL)) :
    Calls Try.prog 13 #[v0, .int .i64 (k : Int), .int .i64 a2] w (IsBool true w) := by
  have HM := Lib.hid hm
  have HC := Lib.hid (getRow_any v0 l0 _ (k : Int) a2 w (Nat.le_refl _) h0 hm (by omega))
  have H0 := Lib.hid h0
  clear hm
  have HL := Lib.hid hrL
  have hqL : (((eL : Nat) : Int) == 0) = false := by rw [beq_eq_false_iff_ne]; omega
  clear hrL
  obtain ⟨m, hm⟩ : ∃ m, (putRow y).length = m := ⟨_, rfl⟩
  rw [hm] at hr ht hp0 hle
  have HR := Lib.hid hr
  have HT := Lib.hid ht
  obtain ⟨A0, c, rfl, hc1, hc2, hc3, h4⟩ := h0
  obtain ⟨b, off, rfl, _⟩ := h4.2 (by omega)
  unfold maxLen at hc2
  clear hr ht hc3 h4 hm
  go_enter Try.func13, Try.ntmps13
  go_wp2_with fail
  ((with_reducible refine HC.out.mono ?_); rintro e' w3 ⟨A, he, ho, hb⟩)
  rw [HR.out] at he ho
  subst he
  have HB := Lib.hid hb
  have HX := Lib.hid ((H0.out.below_ hb (Nat.le_refl _)).cut_ hle)
  rw [HT.out] at HX
  have HXd : Hid (Bv w3.drew w.heap.size _ (putRow y)) := HX.out
  have HYd : Hid (Bv w3.drew w3.heap.size _ y) := ho.form_
  have HBd := Lib.hid HB.out.drew
  have HP := Lib.hid (putRow_any _ y w3.heap.size w3.drew (Nat.le_refl _) HYd.out (by omega))
  have e1 : (k : Int) < (k : Int) + (m : Nat) := by omega
  have e2 : (k : Int) + (m : Nat) ≤ (l0.length : Nat) := by omega
  have e3 : (k : Int) + (m : Nat) ≤ (c : Nat) := by omega
  have e0 : (0 : Int) ≤ (k : Int) := by omega
  have d0 : decide ((k : Int) < 0) = false := by simp
  have d1 : decide ((k : Int) + ((m : Nat) : Int) ≤ (k : Int)) = false := by simp; omega
  have d2 : decide (((l0.length : Nat) : Int) < (k : Int) + ((m : Nat) : Int)) = false := by simp; omega
  have d3 : ¬ (k : Int) < 0 := by omega
  have d4 : ¬ (k : Int) + ((m : Nat) : Int) ≤ (k : Int) := by omega
  have d5 : ¬ ((l0.length : Nat) : Int) < (k : Int) + ((m : Nat) : Int) := by omega
  have e4 : (k : Int) ≤ (k : Int) + ((m : Nat) : Int) := by omega
  have e11 : (0 : Int) ≤ (k : Int) + ((m : Nat) : Int) := by omega
  have e5 : k + m ≤ c := by omega
  have e6 : ¬ c = k := by omega
  have e7 : ¬ c ≤ k := by omega
  have e8 : k < c := by omega
  have e9 : ¬ c - k = 0 := by omega
  have e10 : ((k : Int) + ((m : Nat) : Int)).toNat = k + m := by omega
  clear HC hb ho HX HT
  go_wp2_with fail
  go_region_held3 (fun _ => True) (trivial) (first
    | (go_at_call 23; refine HP.out.mono ?_; rintro e' w4 ⟨g4, rfl, ho4, hb4⟩; have HB4 := Lib.hid (HBd.out.trans (hb4.mono HBd.out.size)); have HS := Lib.hid (same_bv _ _ _ _ _ _ w4 ho4.form_ (HXd.out.below_ hb4 HBd.out.size)); clear ho4 hb4)
    | (go_at_call 15; refine HS.out.mono ?_; rintro e' w5 ⟨he, hb5⟩; simp only [decide_true] at he; subst he; have HB5 := Lib.hid (HB4.out.trans (hb5.mono HB4.out.size)); clear hb5))
  clear e0 e1 e2 e3 e4 e5 e6 e7 e8 e9 e10 e11 d0 d1 d2 d3 d4 d5
  go_wp2_with fail
  refine (getList_any _ l0 w.heap.size _ _ _ ?hB ?hb HM.out (by omega)).mono ?_
  case hB => exact HB5.out.size
  case hb => exact H0.out.below_ HB5.out (Nat.le_refl _)
  rintro e' wL ⟨A6, c6, he, ho, hb⟩
  have HBL := Lib.hid (HB5.out.trans (hb.mono HB5.out.size))
  rw [HL.out] at he ho
  subst he
  clear ho hb
  go_wp2_with fail
  go_quiet (fail)
  go_wp2_with fail
  refine (works_any _).mono ?_
  rintro e w9 ⟨rfl, hb9⟩
  go_wp2
  go_ret
  exact ⟨rfl, (below_drewN HBL.out _).trans (hb9.mono HBL.out.size)⟩

end Go.Proofs.Ytheiffjnddhcoaa.lebRowOne
