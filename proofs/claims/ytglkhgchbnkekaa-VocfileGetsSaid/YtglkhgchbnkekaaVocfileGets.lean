/-
  VocfileGets: whatever bytes are read, the vocabulary, or the error and its place, is the document's. No condition.
-/
import Derived.Test.YtglkhgchbnkekaaPk10
import Derived.Test.YtglkhgchbnkekaaPk37
import Derived.Test.YtglkhgchbnkekaaPk14
import Derived.Test.YtglkhgchbnkekaaPk08
namespace Go.Proofs.Ytglkhgchbnkekaa.vocfileGets
open Go.ChangeShapes Go.WideShapes Go.ChangeAt Go.RowKit
open Go.ChangeMaps (open_string shut_string)
set_option linter.unusedVariables false

set_option maxHeartbeats 2000000 in
set_option maxRecDepth 100000 in
theorem walk (w : World) (v0 : Value) (l0 : List Nat) (h0 : Lv yK w w.heap.size v0 l0) :
    Calls Try.prog 4 #[v0] w (IsBool true w) := by
  by_cases hm : 5000 < l0.length
  · skip
    obtain ⟨A0, c0, rfl, hc1, hc2, _, _⟩ := id h0
    have hl0 : l0.length ≤ 9223372036854775807 := by simp only [maxLen] at hc2; omega
    clear hc1 hc2
    have hmi : (5000 : Int) < (l0.length : Int) := by omega
    clear hm h0
    have HB0 := Lib.hid (Below.refl w.heap.size w)
    go_enter Try.func4, Try.ntmps4
    have C1 := Lib.hid (works_vf w)
    go_wp2_with (fail)
    refine (C1.out).mono ?_
    rintro e w1 ⟨rfl, b1⟩
    have HB1 := Lib.hid (HB0.out.trans (b1.mono HB0.out.size))
    clear C1 b1 HB0
    go_wp2
    go_ret
    exact ⟨rfl, HB1.out⟩
  · skip
    obtain ⟨A0, c0, rfl, hc1, hc2, _, _⟩ := id h0
    have hl0 : l0.length ≤ 9223372036854775807 := by simp only [maxLen] at hc2; omega
    clear hc1 hc2
    have HP : Hid (l0.length ≤ 140000) := by unfold Hid; omega
    have hmi : ¬ (5000 : Int) < (l0.length : Int) := by omega
    obtain ⟨⟨Q, T, E⟩, hx⟩ : ∃ r, Vf.getE l0 = r := ⟨_, rfl⟩
    have HX := Lib.hid hx
    have H0 := Lib.hid h0
    clear hm hx h0
    have HB0 := Lib.hid (Below.refl w.heap.size w)
    go_enter Try.func4, Try.ntmps4
    have Fv_0 := Lib.hid (H0.out)
    have C1 := Lib.hid (pvget_any l0 _ _ w Fv_0.out (Nat.le_refl _) HP.out)
    rw [HX.out] at C1
    go_wp2_with (fail)
    refine (C1.out).mono ?_
    rintro e w1 ⟨A1, c1, rfl, o1, b1⟩
    have HB1 := Lib.hid (HB0.out.trans (b1.mono HB0.out.size))
    have Fv_1 := Lib.hid ((Fv_0.out.below_ b1 (Nat.le_refl _)).mono_ b1.size)
    have Fx_1 := Lib.hid (o1.form_)
    clear C1 b1 HB0 Fv_0 o1
    obtain ⟨Y1, hY1⟩ : ∃ X, w1.alloc (.cells #[.slice A1 Q.length c1] 24) = X := ⟨_, rfl⟩
    obtain ⟨db1, hsz1, hbb1⟩ := boxed hY1
    have b2 := hbb1
    have HB2 := Lib.hid (HB1.out.trans (b2.mono HB1.out.size))
    have Fv_2 := Lib.hid ((Fv_1.out.below_ b2 (Nat.le_refl _)).mono_ b2.size)
    have Fx_2 := Lib.hid ((Fx_1.out.below_ b2 (Nat.le_refl _)).mono_ b2.size)
    clear b2 HB1 Fv_1 Fx_1
    have Fbx_2 : Hid (BoxAt Y1 Y1.heap.size w1.heap.size (.slice A1 Q.length c1)) := ⟨by omega, db1⟩
    have dbx_2 := Fbx_2.out.2
    clear hbb1 hsz1 db1
    have C3 := Lib.hid (rvget_any _ l0 _ Y1 Fv_2.out (Nat.le_refl _))
    rw [HX.out] at C3
    go_wp2_with (fail)
    refine (C3.out).mono ?_
    rintro e w3 ⟨A3, c3, rfl, o3, b3⟩
    have HB3 := Lib.hid (HB2.out.trans (b3.mono HB2.out.size))
    have Fv_3 := Lib.hid ((Fv_2.out.below_ b3 (Nat.le_refl _)).mono_ b3.size)
    have Fx_3 := Lib.hid ((Fx_2.out.below_ b3 (Nat.le_refl _)).mono_ b3.size)
    have Fbx_3 := Lib.hid ((Fbx_2.out.below_ b3 (Nat.le_refl _)).mono_ b3.size)
    have dbx_3 := Fbx_3.out.2
    have Fy_3 := Lib.hid (o3.form_)
    clear C3 b3 HB2 Fv_2 Fx_2 Fbx_2 dbx_2 o3
    obtain ⟨Y3, hY3⟩ : ∃ X, w3.alloc (.cells #[.slice A3 Q.length c3] 24) = X := ⟨_, rfl⟩
    obtain ⟨db3, hsz3, hbb3⟩ := boxed hY3
    have b4 := hbb3
    have HB4 := Lib.hid (HB3.out.trans (b4.mono HB3.out.size))
    have Fv_4 := Lib.hid ((Fv_3.out.below_ b4 (Nat.le_refl _)).mono_ b4.size)
    have Fx_4 := Lib.hid ((Fx_3.out.below_ b4 (Nat.le_refl _)).mono_ b4.size)
    have Fbx_4 := Lib.hid ((Fbx_3.out.below_ b4 (Nat.le_refl _)).mono_ b4.size)
    have Fy_4 := Lib.hid ((Fy_3.out.below_ b4 (Nat.le_refl _)).mono_ b4.size)
    have dbx_4 := Fbx_4.out.2
    clear b4 HB3 Fv_3 Fx_3 Fbx_3 Fy_3 dbx_3
    have Fby_4 : Hid (BoxAt Y3 Y3.heap.size w3.heap.size (.slice A3 Q.length c3)) := ⟨by omega, db3⟩
    have dby_4 := Fby_4.out.2
    clear hbb3 hsz3 db3
    clear Fv_4
    have C5 := Lib.hid (voc_any Q Q _ _ _ _ Y3 Fx_4.out Fy_4.out (Nat.le_refl _) (Nat.le_refl _))
    simp only [decide_true] at C5
    go_wp2_with (fail)
    refine (C5.out).mono ?_
    rintro e w5 ⟨rfl, b5⟩
    have HB5 := Lib.hid (HB4.out.trans (b5.mono HB4.out.size))
    have Fx_5 := Lib.hid ((Fx_4.out.below_ b5 (Nat.le_refl _)).mono_ b5.size)
    have Fbx_5 := Lib.hid ((Fbx_4.out.below_ b5 (Nat.le_refl _)).mono_ b5.size)
    have Fy_5 := Lib.hid ((Fy_4.out.below_ b5 (Nat.le_refl _)).mono_ b5.size)
    have Fby_5 := Lib.hid ((Fby_4.out.below_ b5 (Nat.le_refl _)).mono_ b5.size)
    have dbx_5 := Fbx_5.out.2
    have dby_5 := Fby_5.out.2
    clear C5 b5 HB4 Fx_4 Fbx_4 Fy_4 Fby_4 dbx_4 dby_4
    clear Fx_5
    clear Fy_5
    have C6 := Lib.hid (works_vf w5)
    go_wp2_with (fail)
    refine (C6.out).mono ?_
    rintro e w6 ⟨rfl, b6⟩
    have HB6 := Lib.hid (HB5.out.trans (b6.mono HB5.out.size))
    have Fbx_6 := Lib.hid ((Fbx_5.out.below_ b6 (Nat.le_refl _)).mono_ b6.size)
    have Fby_6 := Lib.hid ((Fby_5.out.below_ b6 (Nat.le_refl _)).mono_ b6.size)
    have dbx_6 := Fbx_6.out.2
    have dby_6 := Fby_6.out.2
    clear C6 b6 HB5 Fbx_5 Fby_5 dbx_5 dby_5
    go_wp2
    go_ret
    exact ⟨rfl, HB6.out⟩

/-! ### From the walk to the row -/
set_option maxRecDepth 100000 in
theorem lifted (os : Os) (started : os.Started) (H : Type) (enc : TypeId × Value → H) :
    ReturnsInHanded {} Try.checked os 4 .any (Rows.vocfileGetsSpec.pre6 enc Try.prog Try.f4 Rows.vocfileGetsRow.domain false) (Rows.vocfileGetsSpec.post enc Try.prog Try.f4 false true false false) := by
  refine returnsInHanded_of_change (C := Try.checked) own started (by kernel_rfl) Try.func4
    (ChangeSpec.witness6 (enc := enc) (C := Try.checked) false ⟨#[], #[.slice none 0 0], []⟩ 8 (by kernel_rfl) (by kernel_rfl) (by kernel_rfl) (by kernel_rfl)) ?_
  intro W base args ds gs before hval0 hW hcnd _
  have hval : ∀ (j : Nat) t v, Try.f4.params[j]? = some t → args[j]? = some v → Value.okWide Try.prog W .any base t v := hval0
  have hW' := hW
  obtain ⟨p, q, hA0, hV, rfl, hfz, hnd⟩ := hW
  have hA : DataW.TrodAll enc Try.prog W 0 (fun _ => true) true Try.f4.params.toList args.toList ds p := hA0
  rw [Try.params4] at hA hval
  obtain ⟨v0, vs0, d0, ds0, p0, q0, hargs, rfl, rfl, h0, r0⟩ := trodAll_cons hA
  obtain ⟨rfl, rfl, rfl⟩ := trodAll_nil r0
  obtain rfl : args = #[v0] := by cases args; simp_all
  obtain ⟨rfl, rfl⟩ := trodVars_none hV
  obtain ⟨a0, len0, cap0, rfl⟩ := okWide_slice Try.underlying27 (hval 0 27 v0 rfl rfl)
  have k0 := h0
  have lt0 : ∀ x ∈ p0, x.block < W.heap.size := by obtain ⟨m, hm⟩ := k0; exact DataW.trod_lt m _ _ _ hm
  obtain ⟨l0, len_0, hb0⟩ : ∃ l : List Nat, l.length = len0 ∧ Lv yK W W.heap.size (.slice a0 len0 cap0) l := by
    obtain ⟨fuel, hf⟩ := h0
    exact octs_in hf
  clear hA0 hval0
  refine (walk W (.slice a0 len0 cap0) l0 hb0).mono fun e W' ⟨he, bel⟩ => ?_
  subst he
  exact ⟨_, rfl, _, _, _, [], _, [], hW', trodAll_mk1 (shut_bool Try.underlying4 _), (trodAll_cons_mk (Below.trod laidOut (by kernel_rfl) (of_decide_eq_true (by kernel_rfl)) k0 bel lt0) trodAll_mk0), rfl, bel.frame _, fun h => by cases h⟩

theorem proved : Rows.VocfileGetsSaid :=
  OpenClaim.holds_of_wide 4 Try.f4 rfl rfl rfl rfl rfl rfl rfl ⟨rfl, rfl, rfl, rfl, rfl⟩ rfl rfl rfl rfl rfl (by kernel_rfl) Try.func4 (by kernel_rfl)
    (of_decide_eq_true (by kernel_rfl)) (by unfold Func.isWrapper; first | (rw [if_pos (by decide +kernel)]; kernel_rfl) | (rw [if_neg (by decide +kernel)]; exact ⟨rfl, rfl⟩))
    (fun os started H enc _ => lifted os started H enc)

end Go.Proofs.Ytglkhgchbnkekaa.vocfileGets
