/-
  RecordPuts: a record's bytes are the document's, or its error. No condition.
-/
import Derived.Test.YtkialijipcbgkaaPk45
import Derived.Test.YtkialijipcbgkaaPk43
import Derived.Test.YtkialijipcbgkaaPk21
namespace Go.Proofs.Ytkialijipcbgkaa.recordPuts
open Go.ChangeShapes Go.WideShapes Go.ChangeAt Go.RowKit
open Go.ChangeMaps (open_string shut_string)
set_option linter.unusedVariables false

set_option maxHeartbeats 2000000 in
set_option maxRecDepth 100000 in
theorem walk (w : World) (r0 : Rc.Rec) (t0 : Value) (f0 : Rc.Fit r0) (h0 : Lv iK w w.heap.size t0 r0.toks) :
    Calls Try.prog 3 #[.agg (rcC r0 t0)] w (IsBool true w) := by
  have vs' := rc_sizeof (t := t0) f0
  have fitp := Lib.hid f0
  obtain ⟨At, ct, rfl, -, -, -, -, -⟩ := id h0
  obtain ⟨Dp, hDp⟩ : ∃ C, rcC r0 (.slice At r0.toks.length ct) = C := ⟨_, rfl⟩
  obtain ⟨vsp, vop, vzp⟩ := rc_val f0 hDp
  rw [hDp]
  replace hDp := Lib.hid hDp
  clear vs' vop vzp
  have HCP : Hid (Dp[33]? = some (.int .i64 r0.len) ∧ Dp[34]? = some (.slice At r0.toks.length ct)) := by unfold Hid; rw [← hDp.out]; exact ⟨rcC_len f0, rcC_toks f0⟩
  obtain ⟨V, hV⟩ : ∃ X, w.alloc (.cells Dp 27) = X := ⟨_, rfl⟩
  obtain ⟨hxa, hxb⟩ := rc_boxat hV
  have HB0 := Lib.hid hxb
  have Ft_0 := Lib.hid ((h0.below_ hxb (Nat.le_refl _)).mono_ hxb.size)
  have Fbt_0 := Lib.hid hxa
  clear hxa hxb h0 f0
  obtain ⟨⟨x, E⟩, hx⟩ : ∃ r, Rc.putE r0 = r := ⟨_, rfl⟩
  have HX := Lib.hid hx
  clear hx
  go_enter Try.func3, Try.ntmps3
  have C1 := Lib.hid (prcput_any r0 _ _ V fitp.out Ft_0.out (Nat.le_refl _))
  rw [HX.out, hDp.out] at C1
  go_wp2_with (first
    | (refine wpList_load_row rfl _ _ rfl w.heap.size rfl 27 Dp (0, 0) _ Fbt_0.out.2 Try.underlying27 rfl (by rw [vsp]) ?_))
  refine (C1.out).mono ?_
  rintro e w1 ⟨A1, c1, rfl, o1, b1⟩
  have HB1 := Lib.hid (HB0.out.trans (b1.mono HB0.out.size))
  have Ft_1 := Lib.hid ((Ft_0.out.below_ b1 (Nat.le_refl _)).mono_ b1.size)
  have Fbt_1 := Lib.hid ((Fbt_0.out.below_ b1 (Nat.le_refl _)).mono_ b1.size)
  have Fx_1 := Lib.hid (o1.form_)
  clear C1 b1 HB0 Ft_0 Fbt_0 o1
  have C2 := Lib.hid (rrcput_any r0 _ _ w1 fitp.out Ft_1.out (Nat.le_refl _))
  rw [HX.out, hDp.out] at C2
  go_wp2_with (first
    | (refine wpList_load_row rfl _ _ rfl w.heap.size rfl 27 Dp (0, 0) _ Fbt_1.out.2 Try.underlying27 rfl (by rw [vsp]) ?_))
  refine (C2.out).mono ?_
  rintro e w2 ⟨A2, c2, rfl, o2, b2⟩
  have HB2 := Lib.hid (HB1.out.trans (b2.mono HB1.out.size))
  have Ft_2 := Lib.hid ((Ft_1.out.below_ b2 (Nat.le_refl _)).mono_ b2.size)
  have Fbt_2 := Lib.hid ((Fbt_1.out.below_ b2 (Nat.le_refl _)).mono_ b2.size)
  have Fx_2 := Lib.hid ((Fx_1.out.below_ b2 (Nat.le_refl _)).mono_ b2.size)
  clear C2 b2 HB1 Ft_1 Fbt_1 Fx_1
  have Fy_2 : Hid (Lv yK w2 w2.heap.size (.slice A2 x.length c2) x) := o2.form_.lv_
  clear o2
  have C3 := Lib.hid (octs_lv _ _ _ _ _ _ w2 Fx_2.out Fy_2.out)
  simp only [decide_true] at C3
  go_wp2_with (first
    | (refine wpList_load_row rfl _ _ rfl w.heap.size rfl 27 Dp (0, 0) _ Fbt_2.out.2 Try.underlying27 rfl (by rw [vsp]) ?_))
  refine (C3.out).mono ?_
  rintro e w3 ⟨rfl, b3⟩
  have HB3 := Lib.hid (HB2.out.trans (b3.mono HB2.out.size))
  have Ft_3 := Lib.hid ((Ft_2.out.below_ b3 (Nat.le_refl _)).mono_ b3.size)
  have Fbt_3 := Lib.hid ((Fbt_2.out.below_ b3 (Nat.le_refl _)).mono_ b3.size)
  have Fx_3 := Lib.hid ((Fx_2.out.below_ b3 (Nat.le_refl _)).mono_ b3.size)
  have Fy_3 := Lib.hid ((Fy_2.out.below_ b3 (Nat.le_refl _)).mono_ b3.size)
  clear C3 b3 HB2 Ft_2 Fbt_2 Fx_2 Fy_2
  clear Ft_3
  clear Fbt_3
  clear Fx_3
  clear Fy_3
  have C4 := Lib.hid (works_rc w3)
  go_wp2_with (fail)
  refine (C4.out).mono ?_
  rintro e w4 ⟨rfl, b4⟩
  have HB4 := Lib.hid (HB3.out.trans (b4.mono HB3.out.size))
  clear C4 b4 HB3
  go_wp2
  go_ret
  exact ⟨rfl, HB4.out⟩

/-! ### From the walk to the row -/
set_option maxRecDepth 100000 in
theorem lifted (os : Os) (started : os.Started) (H : Type) (enc : TypeId × Value → H) :
    ReturnsInHanded {} Try.checked os 3 .any (Rows.recordPutsSpec.pre6 enc Try.prog Try.f3 Rows.recordPutsRow.domain false) (Rows.recordPutsSpec.post enc Try.prog Try.f3 false true false false) := by
  refine returnsInHanded_of_change (C := Try.checked) own started (by kernel_rfl) Try.func3
    (ChangeSpec.witness6 (enc := enc) (C := Try.checked) false ⟨#[], #[.agg #[.int .u8 0, .int .u8 0, .int .u8 0, .int .u8 0, .int .u8 0, .int .u8 0, .int .u8 0, .int .u8 0, .int .u8 0, .int .u8 0, .int .u8 0, .int .u8 0, .int .u8 0, .int .u8 0, .int .u8 0, .int .u8 0, .int .u8 0, .int .u8 0, .int .u8 0, .int .u8 0, .int .u8 0, .int .u8 0, .int .u8 0, .int .u8 0, .int .u8 0, .int .u8 0, .int .u8 0, .int .u8 0, .int .u8 0, .int .u8 0, .int .u8 0, .int .u8 0, .int .u64 0, .int .i64 0, .slice none 0 0]], []⟩ 8 (by kernel_rfl) (by kernel_rfl) (by kernel_rfl) (by kernel_rfl)) ?_
  intro W base args ds gs before hval0 hW hcnd _
  have hval : ∀ (j : Nat) t v, Try.f3.params[j]? = some t → args[j]? = some v → Value.okWide Try.prog W .any base t v := hval0
  have hW' := hW
  obtain ⟨p, q, hA0, hV, rfl, hfz, hnd⟩ := hW
  have hA : DataW.TrodAll enc Try.prog W 0 (fun _ => true) true Try.f3.params.toList args.toList ds p := hA0
  rw [Try.params3] at hA hval
  obtain ⟨v0, vs0, d0, ds0, p0, q0, hargs, rfl, rfl, h0, r0⟩ := trodAll_cons hA
  obtain ⟨rfl, rfl, rfl⟩ := trodAll_nil r0
  obtain rfl : args = #[v0] := by cases args; simp_all
  obtain ⟨rfl, rfl⟩ := trodVars_none hV
  have k0 := h0
  have lt0 : ∀ x ∈ p0, x.block < W.heap.size := by obtain ⟨m, hm⟩ := k0; exact DataW.trod_lt m _ _ _ hm
  obtain ⟨rc0, t0, rfl, f0, hb0, wt0⟩ := rec_in (hval 0 27 v0 rfl rfl) h0
  clear wt0
  clear hA0 hval0
  refine (walk W rc0 t0 f0 hb0).mono fun e W' ⟨he, bel⟩ => ?_
  subst he
  exact ⟨_, rfl, _, _, _, [], _, [], hW', trodAll_mk1 (shut_bool Try.underlying4 _), (trodAll_cons_mk (Below.trod laidOut (by kernel_rfl) (of_decide_eq_true (by kernel_rfl)) k0 bel lt0) trodAll_mk0), rfl, bel.frame _, fun h => by cases h⟩

theorem proved : Rows.RecordPutsSaid :=
  OpenClaim.holds_of_wide 3 Try.f3 rfl rfl rfl rfl rfl rfl rfl ⟨rfl, rfl, rfl, rfl, rfl⟩ rfl rfl rfl rfl rfl (by kernel_rfl) Try.func3 (by kernel_rfl)
    (of_decide_eq_true (by kernel_rfl)) (by unfold Func.isWrapper; first | (rw [if_pos (by decide +kernel)]; kernel_rfl) | (rw [if_neg (by decide +kernel)]; exact ⟨rfl, rfl⟩))
    (fun os started H enc _ => lifted os started H enc)

end Go.Proofs.Ytkialijipcbgkaa.recordPuts
