/-
  LebFree: for every two unlike numbers, the bytes of the one are no beginning of the other's. No condition.
-/
import Derived.Test.YtheiffjnddhcoaaFrame
import Derived.Test.YtheiffjnddhcoaaWorks
namespace Go.Proofs.Ytheiffjnddhcoaa.lebFree
open Go.ChangeShapes Go.WideShapes Go.ChangeAt Go.RowKit
open Go.ChangeMaps (open_string shut_string)
set_option linter.unusedVariables false

set_option maxHeartbeats 1000000 in
set_option maxRecDepth 100000 in
theorem walk (w : World) (n0 : Nat) (b0 : Mt.B64 n0) (n1 : Nat) (b1 : Mt.B64 n1) :
    Calls Try.prog 10 #[.int .u64 n0, .int .u64 n1] w (IsBool true w) := by
  have hl0 := Mt.put_len_le n0
  have hl1 := Mt.put_len_le n1
  have HB0 := Lib.hid b0
  have HB1 := Lib.hid b1
  have HF := Lib.hid (Mt.put_free b0 b1)
  clear b0 b1
  have HC := Lib.hid (put_any n0 HB0.out w)
  by_cases c1 : n0 = n1
  · subst c1
    go_enter Try.func10, Try.ntmps10
    go_wp2_with fail
    ((with_reducible refine HC.out.mono ?_); rintro e w1 ⟨A, c, rfl, ho, hb⟩)
    have HB := Lib.hid hb
    clear ho hb HC
    go_wp2_with fail
    ((with_reducible refine (put_any n0 HB0.out _).mono ?_); rintro e w2 ⟨A2, c2, rfl, ho2, hb2⟩)
    have HB2 := Lib.hid (HB.out.trans (hb2.mono HB.out.size))
    clear ho2 hb2 HB
    have HW := Lib.hid (works_any w2)
    go_wp2_with fail
    ((with_reducible refine HW.out.mono ?_); rintro e w4 ⟨rfl, hb4⟩)
    go_wp2
    go_ret
    exact ⟨rfl, HB2.out.trans (hb4.mono HB2.out.size)⟩
  · have hq : (((n0 : Nat) : Int) == ((n1 : Nat) : Int)) = false := by rw [beq_eq_false_iff_ne]; omega
    by_cases c2 : (Mt.put n1).length < (Mt.put n0).length
    · go_enter Try.func10, Try.ntmps10
      go_wp2_with fail
      ((with_reducible refine HC.out.mono ?_); rintro e w1 ⟨A, c, rfl, ho, hb⟩)
      have HB := Lib.hid hb
      clear ho hb HC
      go_wp2_with fail
      ((with_reducible refine (put_any n1 HB1.out _).mono ?_); rintro e w2 ⟨A2, c2, rfl, ho2, hb2⟩)
      have HB2 := Lib.hid (HB.out.trans (hb2.mono HB.out.size))
      clear ho2 hb2 HB
      have HW := Lib.hid (works_any w2)
      go_wp2_with fail
      ((with_reducible refine HW.out.mono ?_); rintro e w4 ⟨rfl, hb4⟩)
      go_wp2
      go_ret
      exact ⟨rfl, HB2.out.trans (hb4.mono HB2.out.size)⟩
    · have c2' : (Mt.put n0).length ≤ (Mt.put n1).length := by omega
      clear c2
      go_enter Try.func10, Try.ntmps10
      go_wp2_with fail
      ((with_reducible refine HC.out.mono ?_); rintro e w1 ⟨A, c, rfl, ho, hb⟩)
      have HB := Lib.hid hb
      have HO := Lib.hid ho.form_
      clear ho hb HC
      go_wp2_with fail
      ((with_reducible refine (put_any n1 HB1.out _).mono ?_); rintro e w2 ⟨A2, c2, rfl, ho2, hb2⟩)
      have HB2 := Lib.hid (HB.out.trans (hb2.mono HB.out.size))
      have HS := Lib.hid (same_bv _ _ _ _ _ _ w2 (HO.out.below_ hb2 (Nat.le_refl _)) (ho2.form_.take_ c2'))
      have hcap : (Mt.put n0).length ≤ c2 := by
        obtain ⟨_, _, e, h1, _⟩ := ho2.form_
        injection e with _ _ e3
        omega
      clear ho2 hb2 HB HO
      go_wp2_with fail
      ((with_reducible refine HS.out.mono ?_); rintro e w3 ⟨he, hb3⟩)
      rw [decide_eq_false (fun h => c1 (HF.out h))] at he
      subst he
      have HB3 := Lib.hid (HB2.out.trans (hb3.mono HB2.out.size))
      clear hb3 HB2 HS
      have HW := Lib.hid (works_any w3)
      go_wp2_with fail
      ((with_reducible refine HW.out.mono ?_); rintro e w4 ⟨rfl, hb4⟩)
      go_wp2
      go_ret
      exact ⟨rfl, HB3.out.trans (hb4.mono HB3.out.size)⟩

/-! ### From the walk to the row -/
set_option maxRecDepth 100000 in
theorem lifted (os : Os) (started : os.Started) (H : Type) (enc : TypeId × Value → H) :
    ReturnsInHanded {} Try.checked os 10 .any (Rows.lebFreeSpec.pre6 enc Try.prog Try.f10 Rows.lebFreeRow.domain false) (Rows.lebFreeSpec.post enc Try.prog Try.f10 false true false false) := by
  refine returnsInHanded_of_change (C := Try.checked) own started (by kernel_rfl) Try.func10
    (ChangeSpec.witness6 (enc := enc) (C := Try.checked) false ⟨#[], #[.int .u64 0, .int .u64 0], []⟩ 8 (by kernel_rfl) (by kernel_rfl) (by kernel_rfl) (by kernel_rfl)) ?_
  intro W base args ds gs before hval0 hW hcnd _
  have hval : ∀ (j : Nat) t v, Try.f10.params[j]? = some t → args[j]? = some v → Value.okWide Try.prog W .any base t v := hval0
  have hW' := hW
  obtain ⟨p, q, hA0, hV, rfl, hfz, hnd⟩ := hW
  have hA : DataW.TrodAll enc Try.prog W 0 (fun _ => true) true Try.f10.params.toList args.toList ds p := hA0
  rw [Try.params10] at hA hval
  obtain ⟨v0, vs0, d0, ds0, p0, q0, hargs, rfl, rfl, h0, r0⟩ := trodAll_cons hA
  obtain ⟨v1, vs1, d1, ds1, p1, q1, rfl, rfl, rfl, h1, r1⟩ := trodAll_cons r0
  obtain ⟨rfl, rfl, rfl⟩ := trodAll_nil r1
  obtain rfl : args = #[v0, v1] := by cases args; simp_all
  obtain ⟨rfl, rfl⟩ := trodVars_none hV
  obtain ⟨a0, rfl, rfl, rfl, w0⟩ := open_int Try.underlying22 (hval 0 22 v0 rfl rfl) h0
  obtain ⟨n0, e0, b0⟩ := u64_nat w0
  subst e0
  obtain ⟨a1, rfl, rfl, rfl, w1⟩ := open_int Try.underlying22 (hval 1 22 v1 rfl rfl) h1
  obtain ⟨n1, e1, b1⟩ := u64_nat w1
  subst e1
  clear hA0 hval0
  refine (walk W n0 b0 n1 b1).mono fun e W' ⟨he, bel⟩ => ?_
  subst he
  exact ⟨_, rfl, _, _, _, [], _, [], hW', trodAll_mk1 (shut_bool Try.underlying4 _), (trodAll_cons_mk (shut_int Try.underlying22 w0) (trodAll_cons_mk (shut_int Try.underlying22 w1) trodAll_mk0)), rfl, bel.frame _, fun h => by cases h⟩

theorem proved : Rows.LebFreeSaid :=
  OpenClaim.holds_of_wide 10 Try.f10 rfl rfl rfl rfl rfl rfl rfl ⟨rfl, rfl, rfl, rfl, rfl⟩ rfl rfl rfl rfl rfl (by kernel_rfl) Try.func10 (by kernel_rfl)
    (of_decide_eq_true (by kernel_rfl)) (by unfold Func.isWrapper; first | (rw [if_pos (by decide +kernel)]; kernel_rfl) | (rw [if_neg (by decide +kernel)]; exact ⟨rfl, rfl⟩))
    (fun os started H enc _ => lifted os started H enc)

end Go.Proofs.Ytheiffjnddhcoaa.lebFree
