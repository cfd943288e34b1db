/-
  VocabTokens: the bytes of a token, how many they are, and the token of a byte, are the document's, or its error. No condition.
-/
import Derived.Test.YtgkmlcghkkpgpaaFrameV
import Derived.Test.YtgkmlcghkkpgpaaVoLaw
import Derived.Test.YtgkmlcghkkpgpaaOcts
namespace Go.Proofs.Ytgkmlcghkkpgpaa.vocabTokens
open Go.ChangeShapes Go.WideShapes Go.ChangeAt Go.RowKit
open Go.ChangeMaps (open_string shut_string)
set_option linter.unusedVariables false

set_option maxHeartbeats 1000000 in
set_option maxRecDepth 100000 in
theorem walk (w : World) (v0 : Value) (l0 : List Vo.Pc) (h0 : Lv pK w w.heap.size v0 l0) (a1 : Int) (w1 : (Lit.int .i64 a1).wf = true) (n2 : Nat) (b2 : n2 < 256) :
    Calls Try.prog 5 #[.agg #[v0], .int .i64 a1, .int .u8 n2] w (IsBool true w) := by
  have HI : Hid (I64 a1) := bounds_i64' w1
  have HN : Hid (n2 < 256) := b2
  clear w1 b2
  by_cases hm : 700 < l0.length
  · skip
    have HM : Hid (decide (700 < l0.length) = true) := by unfold Hid; simpa using hm
    clear hm
    obtain ⟨W, hW⟩ : ∃ X, w.alloc (.cells #[v0] 24) = X := ⟨_, rfl⟩
    obtain ⟨db, hsz, hbb⟩ := boxed hW
    have HB0 := Lib.hid hbb
    have Fv_0 := Lib.hid ((h0.below_ hbb (Nat.le_refl _)).mono_ hbb.size)
    have Fbox_0 : Hid (BoxAt W W.heap.size w.heap.size v0) := ⟨by omega, db⟩
    obtain ⟨A, c, rfl, hc1, hc2, _, _⟩ := h0
    have hl0 : l0.length ≤ 9223372036854775807 := by simp only [maxLen] at hc2; omega
    have dbox_0 := Fbox_0.out.2
    clear hc1 hc2 hbb hsz db
    go_enter Try.func5, Try.ntmps5
    have C1 := Lib.hid (many_any l0 _ _ W Fv_0.out)
    rw [HM.out] at C1
    go_wp2_with (fail)
    refine (C1.out).mono ?_
    rintro e w1 ⟨rfl, b1⟩
    have HB1 := Lib.hid (HB0.out.trans (b1.mono HB0.out.size))
    have Fv_1 := Lib.hid ((Fv_0.out.below_ b1 (Nat.le_refl _)).mono_ b1.size)
    have Fbox_1 := Lib.hid ((Fbox_0.out.below_ b1 (Nat.le_refl _)).mono_ b1.size)
    have dbox_1 := Fbox_1.out.2
    clear C1 b1 HB0 Fv_0 Fbox_0 dbox_0
    clear Fv_1
    have C2 := Lib.hid (works_voc w1)
    go_wp2_with (fail)
    refine (C2.out).mono ?_
    rintro e w2 ⟨rfl, b2⟩
    have HB2 := Lib.hid (HB1.out.trans (b2.mono HB1.out.size))
    have Fbox_2 := Lib.hid ((Fbox_1.out.below_ b2 (Nat.le_refl _)).mono_ b2.size)
    have dbox_2 := Fbox_2.out.2
    clear C2 b2 HB1 Fbox_1 dbox_1
    go_wp2
    go_ret
    exact ⟨rfl, HB2.out⟩
  · skip
    have HM : Hid (decide (700 < l0.length) = false) := by unfold Hid; simpa using hm
    have HP : Hid (l0.length ≤ 700) := by unfold Hid; omega
    obtain ⟨⟨x, E⟩, hx⟩ : ∃ r, Vo.expandE l0 a1 = r := ⟨_, rfl⟩
    obtain ⟨⟨T, D⟩, ht⟩ : ∃ r, Vo.byteE l0 n2 = r := ⟨_, rfl⟩
    have HX := Lib.hid hx
    have HT := Lib.hid ht
    have HZ : Hid (Vo.sizeE l0 a1 = (x.length, E)) := by unfold Hid Vo.sizeE; rw [hx]
    clear hm hx ht
    obtain ⟨W, hW⟩ : ∃ X, w.alloc (.cells #[v0] 24) = X := ⟨_, rfl⟩
    obtain ⟨db, hsz, hbb⟩ := boxed hW
    have HB0 := Lib.hid hbb
    have Fv_0 := Lib.hid ((h0.below_ hbb (Nat.le_refl _)).mono_ hbb.size)
    have Fbox_0 : Hid (BoxAt W W.heap.size w.heap.size v0) := ⟨by omega, db⟩
    obtain ⟨A, c, rfl, hc1, hc2, _, _⟩ := h0
    have hl0 : l0.length ≤ 9223372036854775807 := by simp only [maxLen] at hc2; omega
    have dbox_0 := Fbox_0.out.2
    clear hc1 hc2 hbb hsz db
    go_enter Try.func5, Try.ntmps5
    have C1 := Lib.hid (many_any l0 _ _ W Fv_0.out)
    rw [HM.out] at C1
    go_wp2_with (fail)
    refine (C1.out).mono ?_
    rintro e w1 ⟨rfl, b1⟩
    have HB1 := Lib.hid (HB0.out.trans (b1.mono HB0.out.size))
    have Fv_1 := Lib.hid ((Fv_0.out.below_ b1 (Nat.le_refl _)).mono_ b1.size)
    have Fbox_1 := Lib.hid ((Fbox_0.out.below_ b1 (Nat.le_refl _)).mono_ b1.size)
    have dbox_1 := Fbox_1.out.2
    clear C1 b1 HB0 Fv_0 Fbox_0 dbox_0
    have C2 := Lib.hid (pexpand_any l0 _ a1 _ w1 Fv_1.out (Nat.le_refl _) HI.out HP.out)
    rw [HX.out] at C2
    go_wp2_with (fail)
    refine (C2.out).mono ?_
    rintro e w2 ⟨A2, c2, rfl, o2, b2⟩
    have HB2 := Lib.hid (HB1.out.trans (b2.mono HB1.out.size))
    have Fv_2 := Lib.hid ((Fv_1.out.below_ b2 (Nat.le_refl _)).mono_ b2.size)
    have Fbox_2 := Lib.hid ((Fbox_1.out.below_ b2 (Nat.le_refl _)).mono_ b2.size)
    have dbox_2 := Fbox_2.out.2
    have Fa_2 := Lib.hid (o2.form_)
    clear C2 b2 HB1 Fv_1 Fbox_1 dbox_1 o2
    have C3 := Lib.hid (rexpand_any l0 _ a1 _ w2 Fv_2.out (Nat.le_refl _) HI.out)
    rw [HX.out] at C3
    go_wp2_with (fail)
    refine (C3.out).mono ?_
    rintro e w3 ⟨A3, c3, rfl, o3, b3⟩
    have HB3 := Lib.hid (HB2.out.trans (b3.mono HB2.out.size))
    have Fv_3 := Lib.hid ((Fv_2.out.below_ b3 (Nat.le_refl _)).mono_ b3.size)
    have Fbox_3 := Lib.hid ((Fbox_2.out.below_ b3 (Nat.le_refl _)).mono_ b3.size)
    have Fa_3 := Lib.hid ((Fa_2.out.below_ b3 (Nat.le_refl _)).mono_ b3.size)
    have dbox_3 := Fbox_3.out.2
    have Fb_3 := Lib.hid (o3.form_)
    clear C3 b3 HB2 Fv_2 Fbox_2 Fa_2 dbox_2 o3
    have C4 := Lib.hid (psize_any l0 _ a1 _ w3 Fv_3.out (Nat.le_refl _) HI.out HP.out)
    rw [HZ.out] at C4
    go_wp2_with (fail)
    refine (C4.out).mono ?_
    rintro e w4 ⟨rfl, b4⟩
    have HB4 := Lib.hid (HB3.out.trans (b4.mono HB3.out.size))
    have Fv_4 := Lib.hid ((Fv_3.out.below_ b4 (Nat.le_refl _)).mono_ b4.size)
    have Fbox_4 := Lib.hid ((Fbox_3.out.below_ b4 (Nat.le_refl _)).mono_ b4.size)
    have Fa_4 := Lib.hid ((Fa_3.out.below_ b4 (Nat.le_refl _)).mono_ b4.size)
    have Fb_4 := Lib.hid ((Fb_3.out.below_ b4 (Nat.le_refl _)).mono_ b4.size)
    have dbox_4 := Fbox_4.out.2
    clear C4 b4 HB3 Fv_3 Fbox_3 Fa_3 Fb_3 dbox_3
    have C5 := Lib.hid (pbyte_any l0 _ n2 _ w4 Fv_4.out (Nat.le_refl _) HN.out HP.out)
    rw [HT.out] at C5
    go_wp2_with (fail)
    refine (C5.out).mono ?_
    rintro e w5 ⟨rfl, b5⟩
    have HB5 := Lib.hid (HB4.out.trans (b5.mono HB4.out.size))
    have Fv_5 := Lib.hid ((Fv_4.out.below_ b5 (Nat.le_refl _)).mono_ b5.size)
    have Fbox_5 := Lib.hid ((Fbox_4.out.below_ b5 (Nat.le_refl _)).mono_ b5.size)
    have Fa_5 := Lib.hid ((Fa_4.out.below_ b5 (Nat.le_refl _)).mono_ b5.size)
    have Fb_5 := Lib.hid ((Fb_4.out.below_ b5 (Nat.le_refl _)).mono_ b5.size)
    have dbox_5 := Fbox_5.out.2
    clear C5 b5 HB4 Fv_4 Fbox_4 Fa_4 Fb_4 dbox_4
    have C6 := Lib.hid (rbyte_any l0 _ n2 _ w5 Fv_5.out (Nat.le_refl _) HN.out)
    rw [HT.out] at C6
    go_wp2_with (fail)
    refine (C6.out).mono ?_
    rintro e w6 ⟨rfl, b6⟩
    have HB6 := Lib.hid (HB5.out.trans (b6.mono HB5.out.size))
    have Fv_6 := Lib.hid ((Fv_5.out.below_ b6 (Nat.le_refl _)).mono_ b6.size)
    have Fbox_6 := Lib.hid ((Fbox_5.out.below_ b6 (Nat.le_refl _)).mono_ b6.size)
    have Fa_6 := Lib.hid ((Fa_5.out.below_ b6 (Nat.le_refl _)).mono_ b6.size)
    have Fb_6 := Lib.hid ((Fb_5.out.below_ b6 (Nat.le_refl _)).mono_ b6.size)
    have dbox_6 := Fbox_6.out.2
    clear C6 b6 HB5 Fv_5 Fbox_5 Fa_5 Fb_5 dbox_5
    have C7 := Lib.hid (octs_lv _ _ _ _ _ _ w6 Fa_6.out Fb_6.out)
    simp only [decide_true] at C7
    go_wp2_with (fail)
    refine (C7.out).mono ?_
    rintro e w7 ⟨rfl, b7⟩
    have HB7 := Lib.hid (HB6.out.trans (b7.mono HB6.out.size))
    have Fv_7 := Lib.hid ((Fv_6.out.below_ b7 (Nat.le_refl _)).mono_ b7.size)
    have Fbox_7 := Lib.hid ((Fbox_6.out.below_ b7 (Nat.le_refl _)).mono_ b7.size)
    have Fa_7 := Lib.hid ((Fa_6.out.below_ b7 (Nat.le_refl _)).mono_ b7.size)
    have Fb_7 := Lib.hid ((Fb_6.out.below_ b7 (Nat.le_refl _)).mono_ b7.size)
    have dbox_7 := Fbox_7.out.2
    clear C7 b7 HB6 Fv_6 Fbox_6 Fa_6 Fb_6 dbox_6
    clear Fv_7
    clear Fa_7
    clear Fb_7
    have C8 := Lib.hid (works_voc w7)
    go_wp2_with (fail)
    refine (C8.out).mono ?_
    rintro e w8 ⟨rfl, b8⟩
    have HB8 := Lib.hid (HB7.out.trans (b8.mono HB7.out.size))
    have Fbox_8 := Lib.hid ((Fbox_7.out.below_ b8 (Nat.le_refl _)).mono_ b8.size)
    have dbox_8 := Fbox_8.out.2
    clear C8 b8 HB7 Fbox_7 dbox_7
    go_wp2
    go_ret
    exact ⟨rfl, HB8.out⟩

/-! ### From the walk to the row -/
set_option maxRecDepth 100000 in
theorem lifted (os : Os) (started : os.Started) (H : Type) (enc : TypeId × Value → H) :
    ReturnsInHanded {} Try.checked os 5 .any (Rows.vocabTokensSpec.pre6 enc Try.prog Try.f5 Rows.vocabTokensRow.domain false) (Rows.vocabTokensSpec.post enc Try.prog Try.f5 false true false false) := by
  refine returnsInHanded_of_change (C := Try.checked) own started (by kernel_rfl) Try.func5
    (ChangeSpec.witness6 (enc := enc) (C := Try.checked) false ⟨#[], #[.agg #[.slice none 0 0], .int .i64 0, .int .u8 0], []⟩ 8 (by kernel_rfl) (by kernel_rfl) (by kernel_rfl) (by kernel_rfl)) ?_
  intro W base args ds gs before hval0 hW hcnd _
  have hval : ∀ (j : Nat) t v, Try.f5.params[j]? = some t → args[j]? = some v → Value.okWide Try.prog W .any base t v := hval0
  have hW' := hW
  obtain ⟨p, q, hA0, hV, rfl, hfz, hnd⟩ := hW
  have hA : DataW.TrodAll enc Try.prog W 0 (fun _ => true) true Try.f5.params.toList args.toList ds p := hA0
  rw [Try.params5] at hA hval
  obtain ⟨v0, vs0, d0, ds0, p0, q0, hargs, rfl, rfl, h0, r0⟩ := trodAll_cons hA
  obtain ⟨v1, vs1, d1, ds1, p1, q1, rfl, rfl, rfl, h1, r1⟩ := trodAll_cons r0
  obtain ⟨v2, vs2, d2, ds2, p2, q2, rfl, rfl, rfl, h2, r2⟩ := trodAll_cons r1
  obtain ⟨rfl, rfl, rfl⟩ := trodAll_nil r2
  obtain rfl : args = #[v0, v1, v2] := by cases args; simp_all
  obtain ⟨rfl, rfl⟩ := trodVars_none hV
  have k0 := h0
  have lt0 : ∀ x ∈ p0, x.block < W.heap.size := by obtain ⟨m, hm⟩ := k0; exact DataW.trod_lt m _ _ _ hm
  obtain ⟨u0, l0, rfl, hb0⟩ := voc_in (hval 0 24 v0 rfl rfl) h0
  obtain ⟨a1, rfl, rfl, rfl, w1⟩ := open_int Try.underlying3 (hval 1 3 v1 rfl rfl) h1
  obtain ⟨a2, rfl, rfl, rfl, w2⟩ := open_int Try.underlying5 (hval 2 5 v2 rfl rfl) h2
  obtain ⟨n2, e2, b2⟩ := u8_nat w2
  subst e2
  clear hA0 hval0
  refine (walk W u0 l0 hb0 a1 w1 n2 b2).mono fun e W' ⟨he, bel⟩ => ?_
  subst he
  exact ⟨_, rfl, _, _, _, [], _, [], hW', trodAll_mk1 (shut_bool Try.underlying4 _), (trodAll_cons_mk (Below.trod laidOut (by kernel_rfl) (of_decide_eq_true (by kernel_rfl)) k0 bel lt0) (trodAll_cons_mk (shut_int Try.underlying3 w1) (trodAll_cons_mk (shut_int Try.underlying5 w2) trodAll_mk0))), rfl, bel.frame _, fun h => by cases h⟩

theorem proved : Rows.VocabTokensSaid :=
  OpenClaim.holds_of_wide 5 Try.f5 rfl rfl rfl rfl rfl rfl rfl ⟨rfl, rfl, rfl, rfl, rfl⟩ rfl rfl rfl rfl rfl (by kernel_rfl) Try.func5 (by kernel_rfl)
    (of_decide_eq_true (by kernel_rfl)) (by unfold Func.isWrapper; first | (rw [if_pos (by decide +kernel)]; kernel_rfl) | (rw [if_neg (by decide +kernel)]; exact ⟨rfl, rfl⟩))
    (fun os started H enc _ => lifted os started H enc)

end Go.Proofs.Ytgkmlcghkkpgpaa.vocabTokens
