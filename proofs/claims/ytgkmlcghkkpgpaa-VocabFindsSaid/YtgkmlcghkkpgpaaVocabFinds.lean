/-
  VocabFinds: the join of two tokens, and all joins by their ranks, are the document's; none of a vocabulary that may not be. No condition.
-/
import Derived.Test.YtgkmlcghkkpgpaaFrameV
import Derived.Test.YtgkmlcghkkpgpaaVoLaw
import Derived.Deep.RegionHeld3
namespace Go.Proofs.Ytgkmlcghkkpgpaa.vocabFinds
open Go.ChangeShapes Go.WideShapes Go.ChangeAt Go.RowKit
open Go.ChangeMaps (open_string shut_string)
set_option linter.unusedVariables false

set_option maxHeartbeats 1000000 in
set_option maxRecDepth 100000 in
theorem walk (w : World) (v0 : Value) (l0 : List Vo.Pc) (h0 : Lv pK w w.heap.size v0 l0) (a1 : Int) (w1 : (Lit.int .i64 a1).wf = true) (a2 : Int) (w2 : (Lit.int .i64 a2).wf = true) :
    Calls Try.prog 6 #[.agg #[v0], .int .i64 a1, .int .i64 a2] w (IsBool true w) := by
  have HI : Hid (I64 a1) := bounds_i64' w1
  have HJ : Hid (I64 a2) := bounds_i64' w2
  clear w1 w2
  by_cases hm : 700 < l0.length
  · skip
    have HM : Hid (decide (700 < l0.length) = true) := by unfold Hid; simpa using hm
    clear hm
    obtain ⟨W, hW⟩ : ∃ X, w.alloc (.cells #[v0] 24) = X := ⟨_, rfl⟩
    obtain ⟨db, hsz, hbb⟩ := boxed hW
    have HB0 := Lib.hid hbb
    have Fv_0 := Lib.hid ((h0.below_ hbb (Nat.le_refl _)).mono_ hbb.size)
    have Fbox_0 : Hid (BoxAt W W.heap.size w.heap.size v0) := ⟨by omega, db⟩
    obtain ⟨A, c, rfl, hc1, hc2, _, _⟩ := h0
    have hl0 : l0.length ≤ 9223372036854775807 := by simp only [maxLen] at hc2; omega
    have dbox_0 := Fbox_0.out.2
    clear hc1 hc2 hbb hsz db
    go_enter Try.func6, Try.ntmps6
    have C1 := Lib.hid (many_any l0 _ _ W Fv_0.out)
    rw [HM.out] at C1
    go_wp2_with (fail)
    refine (C1.out).mono ?_
    rintro e w1 ⟨rfl, b1⟩
    have HB1 := Lib.hid (HB0.out.trans (b1.mono HB0.out.size))
    have Fv_1 := Lib.hid ((Fv_0.out.below_ b1 (Nat.le_refl _)).mono_ b1.size)
    have Fbox_1 := Lib.hid ((Fbox_0.out.below_ b1 (Nat.le_refl _)).mono_ b1.size)
    have dbox_1 := Fbox_1.out.2
    clear C1 b1 HB0 Fv_0 Fbox_0 dbox_0
    clear Fv_1
    have C2 := Lib.hid (works_voc w1)
    go_wp2_with (fail)
    refine (C2.out).mono ?_
    rintro e w2 ⟨rfl, b2⟩
    have HB2 := Lib.hid (HB1.out.trans (b2.mono HB1.out.size))
    have Fbox_2 := Lib.hid ((Fbox_1.out.below_ b2 (Nat.le_refl _)).mono_ b2.size)
    have dbox_2 := Fbox_2.out.2
    clear C2 b2 HB1 Fbox_1 dbox_1
    go_wp2
    go_ret
    exact ⟨rfl, HB2.out⟩
  · skip
    have HM : Hid (decide (700 < l0.length) = false) := by unfold Hid; simpa using hm
    have HP : Hid (l0.length ≤ 700) := by unfold Hid; omega
    obtain ⟨⟨T, o⟩, ht⟩ : ∃ r, Vo.findE l0 a1 a2 = r := ⟨_, rfl⟩
    obtain ⟨y, hy⟩ : ∃ r, Vo.joinsE l0 = r := ⟨_, rfl⟩
    have HT := Lib.hid ht
    have HY := Lib.hid hy
    clear hm hy
    by_cases hmay : Vo.May l0
    · skip
      have HD : Hid (decide (Vo.May l0) = true) := by unfold Hid; simpa using hmay
      have HF : Hid (Vo.foundE l0 a1 a2 = (T, o)) := by unfold Hid Vo.foundE; rw [if_pos hmay, ht]
      clear ht hmay
      obtain ⟨W, hW⟩ : ∃ X, w.alloc (.cells #[v0] 24) = X := ⟨_, rfl⟩
      obtain ⟨db, hsz, hbb⟩ := boxed hW
      have HB0 := Lib.hid hbb
      have Fv_0 := Lib.hid ((h0.below_ hbb (Nat.le_refl _)).mono_ hbb.size)
      have Fbox_0 : Hid (BoxAt W W.heap.size w.heap.size v0) := ⟨by omega, db⟩
      obtain ⟨A, c, rfl, hc1, hc2, _, _⟩ := h0
      have hl0 : l0.length ≤ 9223372036854775807 := by simp only [maxLen] at hc2; omega
      have dbox_0 := Fbox_0.out.2
      clear hc1 hc2 hbb hsz db
      go_enter Try.func6, Try.ntmps6
      have C1 := Lib.hid (many_any l0 _ _ W Fv_0.out)
      rw [HM.out] at C1
      go_wp2_with (fail)
      refine (C1.out).mono ?_
      rintro e w1 ⟨rfl, b1⟩
      have HB1 := Lib.hid (HB0.out.trans (b1.mono HB0.out.size))
      have Fv_1 := Lib.hid ((Fv_0.out.below_ b1 (Nat.le_refl _)).mono_ b1.size)
      have Fbox_1 := Lib.hid ((Fbox_0.out.below_ b1 (Nat.le_refl _)).mono_ b1.size)
      have dbox_1 := Fbox_1.out.2
      clear C1 b1 HB0 Fv_0 Fbox_0 dbox_0
      have C2 := Lib.hid (pfind_any l0 _ a1 a2 _ w1 Fv_1.out (Nat.le_refl _) HI.out HJ.out HP.out)
      rw [HF.out] at C2
      go_wp2_with (fail)
      refine (C2.out).mono ?_
      rintro e w2 ⟨rfl, b2⟩
      have HB2 := Lib.hid (HB1.out.trans (b2.mono HB1.out.size))
      have Fv_2 := Lib.hid ((Fv_1.out.below_ b2 (Nat.le_refl _)).mono_ b2.size)
      have Fbox_2 := Lib.hid ((Fbox_1.out.below_ b2 (Nat.le_refl _)).mono_ b2.size)
      have dbox_2 := Fbox_2.out.2
      clear C2 b2 HB1 Fv_1 Fbox_1 dbox_1
      have C3 := Lib.hid (rfind_any l0 _ a1 a2 _ w2 Fv_2.out (Nat.le_refl _))
      rw [HT.out] at C3
      go_wp2_with (fail)
      refine (C3.out).mono ?_
      rintro e w3 ⟨rfl, b3⟩
      have HB3 := Lib.hid (HB2.out.trans (b3.mono HB2.out.size))
      have Fv_3 := Lib.hid ((Fv_2.out.below_ b3 (Nat.le_refl _)).mono_ b3.size)
      have Fbox_3 := Lib.hid ((Fbox_2.out.below_ b3 (Nat.le_refl _)).mono_ b3.size)
      have dbox_3 := Fbox_3.out.2
      clear C3 b3 HB2 Fv_2 Fbox_2 dbox_2
      have C4 := Lib.hid (rmay_voc l0 _ _ w3 Fv_3.out (Nat.le_refl _))
      rw [HD.out] at C4
      go_wp2_with (fail)
      refine (C4.out).mono ?_
      rintro e w4 ⟨rfl, b4⟩
      have HB4 := Lib.hid (HB3.out.trans (b4.mono HB3.out.size))
      have Fv_4 := Lib.hid ((Fv_3.out.below_ b4 (Nat.le_refl _)).mono_ b4.size)
      have Fbox_4 := Lib.hid ((Fbox_3.out.below_ b4 (Nat.le_refl _)).mono_ b4.size)
      have dbox_4 := Fbox_4.out.2
      clear C4 b4 HB3 Fv_3 Fbox_3 dbox_3
      have Gv0 := Lib.hid (Fv_4.out.drew_)
      have Gbox0 := Lib.hid (Fbox_4.out.drew_)
      have X0 := Lib.hid (HB4.out.drew)
      have s0 : w4.drew.cell? ⟨w.heap.size, 0, none⟩ = some (.slice A l0.length c) := Fbox_4.out.2
      have J1 := Lib.hid (pjoins_any l0 _ _ w4.drew Gv0.out (Nat.le_refl _) HP.out)
      rw [HY.out] at J1
      clear dbox_4
      go_wp2
      go_region_held3 (fun w' => w'.cell? ⟨w.heap.size, 0, none⟩ = some (.slice A l0.length c)) (first | exact s0 | exact s1 | exact s2 | exact s3 | exact s4)
        (first
          | (go_at_call 28; (with_reducible refine J1.out.mono ?_); rintro e x1 ⟨A1, c1, rfl, o1, b1⟩; have X1 := Lib.hid (X0.out.trans (b1.mono X0.out.size)); have Gv1 := Lib.hid ((Gv0.out.below_ b1 (Nat.le_refl _)).mono_ b1.size); have Gbox1 := Lib.hid ((Gbox0.out.below_ b1 (Nat.le_refl _)).mono_ b1.size); have s1 := Gbox1.out.2; have Gm1 := Lib.hid o1.form_; have J2 := Lib.hid (rjoins_any l0 _ _ x1 Gv1.out (Nat.le_refl _)); rw [HY.out] at J2; clear b1 s0 o1)
          | (go_at_call 29; (with_reducible refine J2.out.mono ?_); rintro e x2 ⟨A2, c2, rfl, o2, b2⟩; have X2 := Lib.hid (X1.out.trans (b2.mono X1.out.size)); have Gv2 := Lib.hid ((Gv1.out.below_ b2 (Nat.le_refl _)).mono_ b2.size); have Gbox2 := Lib.hid ((Gbox1.out.below_ b2 (Nat.le_refl _)).mono_ b2.size); have Gm2 := Lib.hid ((Gm1.out.below_ b2 (Nat.le_refl _)).mono_ b2.size); have s2 := Gbox2.out.2; have Gn2 := Lib.hid o2.form_; have J3 := Lib.hid (ints_lv _ _ _ _ _ _ x2 Gm2.out Gn2.out); simp only [decide_true] at J3; clear b2 s1 o2)
          | (go_at_call 27; (with_reducible refine J3.out.mono ?_); rintro e x3 ⟨rfl, b3⟩; have X3 := Lib.hid (X2.out.trans (b3.mono X2.out.size)); have Gv3 := Lib.hid ((Gv2.out.below_ b3 (Nat.le_refl _)).mono_ b3.size); have Gbox3 := Lib.hid ((Gbox2.out.below_ b3 (Nat.le_refl _)).mono_ b3.size); have Gm3 := Lib.hid ((Gm2.out.below_ b3 (Nat.le_refl _)).mono_ b3.size); have Gn3 := Lib.hid ((Gn2.out.below_ b3 (Nat.le_refl _)).mono_ b3.size); have s3 := Gbox3.out.2; have J4 := Lib.hid (works_voc x3); clear b3 s2)
          | (go_at_call 13; (with_reducible refine J4.out.mono ?_); rintro e x4 ⟨rfl, b4⟩; have X4 := Lib.hid (X3.out.trans (b4.mono X3.out.size)); have Gv4 := Lib.hid ((Gv3.out.below_ b4 (Nat.le_refl _)).mono_ b4.size); have Gbox4 := Lib.hid ((Gbox3.out.below_ b4 (Nat.le_refl _)).mono_ b4.size); have Gm4 := Lib.hid ((Gm3.out.below_ b4 (Nat.le_refl _)).mono_ b4.size); have Gn4 := Lib.hid ((Gn3.out.below_ b4 (Nat.le_refl _)).mono_ b4.size); have s4 := Gbox4.out.2; clear b4 s3))
      all_goals
        go_wp2
        go_ret
        exact ⟨rfl, X4.out⟩
    · skip
      have HD : Hid (decide (Vo.May l0) = false) := by unfold Hid; simpa using hmay
      have HF : Hid (Vo.foundE l0 a1 a2 = (0, false)) := by unfold Hid Vo.foundE; rw [if_neg hmay]
      clear ht hmay
      obtain ⟨W, hW⟩ : ∃ X, w.alloc (.cells #[v0] 24) = X := ⟨_, rfl⟩
      obtain ⟨db, hsz, hbb⟩ := boxed hW
      have HB0 := Lib.hid hbb
      have Fv_0 := Lib.hid ((h0.below_ hbb (Nat.le_refl _)).mono_ hbb.size)
      have Fbox_0 : Hid (BoxAt W W.heap.size w.heap.size v0) := ⟨by omega, db⟩
      obtain ⟨A, c, rfl, hc1, hc2, _, _⟩ := h0
      have hl0 : l0.length ≤ 9223372036854775807 := by simp only [maxLen] at hc2; omega
      have dbox_0 := Fbox_0.out.2
      clear hc1 hc2 hbb hsz db
      go_enter Try.func6, Try.ntmps6
      have C1 := Lib.hid (many_any l0 _ _ W Fv_0.out)
      rw [HM.out] at C1
      go_wp2_with (fail)
      refine (C1.out).mono ?_
      rintro e w1 ⟨rfl, b1⟩
      have HB1 := Lib.hid (HB0.out.trans (b1.mono HB0.out.size))
      have Fv_1 := Lib.hid ((Fv_0.out.below_ b1 (Nat.le_refl _)).mono_ b1.size)
      have Fbox_1 := Lib.hid ((Fbox_0.out.below_ b1 (Nat.le_refl _)).mono_ b1.size)
      have dbox_1 := Fbox_1.out.2
      clear C1 b1 HB0 Fv_0 Fbox_0 dbox_0
      have C2 := Lib.hid (pfind_any l0 _ a1 a2 _ w1 Fv_1.out (Nat.le_refl _) HI.out HJ.out HP.out)
      rw [HF.out] at C2
      go_wp2_with (fail)
      refine (C2.out).mono ?_
      rintro e w2 ⟨rfl, b2⟩
      have HB2 := Lib.hid (HB1.out.trans (b2.mono HB1.out.size))
      have Fv_2 := Lib.hid ((Fv_1.out.below_ b2 (Nat.le_refl _)).mono_ b2.size)
      have Fbox_2 := Lib.hid ((Fbox_1.out.below_ b2 (Nat.le_refl _)).mono_ b2.size)
      have dbox_2 := Fbox_2.out.2
      clear C2 b2 HB1 Fv_1 Fbox_1 dbox_1
      have C3 := Lib.hid (rfind_any l0 _ a1 a2 _ w2 Fv_2.out (Nat.le_refl _))
      rw [HT.out] at C3
      go_wp2_with (fail)
      refine (C3.out).mono ?_
      rintro e w3 ⟨rfl, b3⟩
      have HB3 := Lib.hid (HB2.out.trans (b3.mono HB2.out.size))
      have Fv_3 := Lib.hid ((Fv_2.out.below_ b3 (Nat.le_refl _)).mono_ b3.size)
      have Fbox_3 := Lib.hid ((Fbox_2.out.below_ b3 (Nat.le_refl _)).mono_ b3.size)
      have dbox_3 := Fbox_3.out.2
      clear C3 b3 HB2 Fv_2 Fbox_2 dbox_2
      have C4 := Lib.hid (rmay_voc l0 _ _ w3 Fv_3.out (Nat.le_refl _))
      rw [HD.out] at C4
      go_wp2_with (fail)
      refine (C4.out).mono ?_
      rintro e w4 ⟨rfl, b4⟩
      have HB4 := Lib.hid (HB3.out.trans (b4.mono HB3.out.size))
      have Fv_4 := Lib.hid ((Fv_3.out.below_ b4 (Nat.le_refl _)).mono_ b4.size)
      have Fbox_4 := Lib.hid ((Fbox_3.out.below_ b4 (Nat.le_refl _)).mono_ b4.size)
      have dbox_4 := Fbox_4.out.2
      clear C4 b4 HB3 Fv_3 Fbox_3 dbox_3
      have Gv0 := Lib.hid (Fv_4.out.drew_)
      have Gbox0 := Lib.hid (Fbox_4.out.drew_)
      have X0 := Lib.hid (HB4.out.drew)
      have s0 : w4.drew.cell? ⟨w.heap.size, 0, none⟩ = some (.slice A l0.length c) := Fbox_4.out.2
      have J1 := Lib.hid (pjoins_any l0 _ _ w4.drew Gv0.out (Nat.le_refl _) HP.out)
      rw [HY.out] at J1
      clear dbox_4
      go_wp2
      go_region_held3 (fun w' => w'.cell? ⟨w.heap.size, 0, none⟩ = some (.slice A l0.length c)) (first | exact s0 | exact s1 | exact s2 | exact s3 | exact s4)
        (first
          | (go_at_call 28; (with_reducible refine J1.out.mono ?_); rintro e x1 ⟨A1, c1, rfl, o1, b1⟩; have X1 := Lib.hid (X0.out.trans (b1.mono X0.out.size)); have Gv1 := Lib.hid ((Gv0.out.below_ b1 (Nat.le_refl _)).mono_ b1.size); have Gbox1 := Lib.hid ((Gbox0.out.below_ b1 (Nat.le_refl _)).mono_ b1.size); have s1 := Gbox1.out.2; have Gm1 := Lib.hid o1.form_; have J2 := Lib.hid (rjoins_any l0 _ _ x1 Gv1.out (Nat.le_refl _)); rw [HY.out] at J2; clear b1 s0 o1)
          | (go_at_call 29; (with_reducible refine J2.out.mono ?_); rintro e x2 ⟨A2, c2, rfl, o2, b2⟩; have X2 := Lib.hid (X1.out.trans (b2.mono X1.out.size)); have Gv2 := Lib.hid ((Gv1.out.below_ b2 (Nat.le_refl _)).mono_ b2.size); have Gbox2 := Lib.hid ((Gbox1.out.below_ b2 (Nat.le_refl _)).mono_ b2.size); have Gm2 := Lib.hid ((Gm1.out.below_ b2 (Nat.le_refl _)).mono_ b2.size); have s2 := Gbox2.out.2; have Gn2 := Lib.hid o2.form_; have J3 := Lib.hid (ints_lv _ _ _ _ _ _ x2 Gm2.out Gn2.out); simp only [decide_true] at J3; clear b2 s1 o2)
          | (go_at_call 27; (with_reducible refine J3.out.mono ?_); rintro e x3 ⟨rfl, b3⟩; have X3 := Lib.hid (X2.out.trans (b3.mono X2.out.size)); have Gv3 := Lib.hid ((Gv2.out.below_ b3 (Nat.le_refl _)).mono_ b3.size); have Gbox3 := Lib.hid ((Gbox2.out.below_ b3 (Nat.le_refl _)).mono_ b3.size); have Gm3 := Lib.hid ((Gm2.out.below_ b3 (Nat.le_refl _)).mono_ b3.size); have Gn3 := Lib.hid ((Gn2.out.below_ b3 (Nat.le_refl _)).mono_ b3.size); have s3 := Gbox3.out.2; have J4 := Lib.hid (works_voc x3); clear b3 s2)
          | (go_at_call 13; (with_reducible refine J4.out.mono ?_); rintro e x4 ⟨rfl, b4⟩; have X4 := Lib.hid (X3.out.trans (b4.mono X3.out.size)); have Gv4 := Lib.hid ((Gv3.out.below_ b4 (Nat.le_refl _)).mono_ b4.size); have Gbox4 := Lib.hid ((Gbox3.out.below_ b4 (Nat.le_refl _)).mono_ b4.size); have Gm4 := Lib.hid ((Gm3.out.below_ b4 (Nat.le_refl _)).mono_ b4.size); have Gn4 := Lib.hid ((Gn3.out.below_ b4 (Nat.le_refl _)).mono_ b4.size); have s4 := Gbox4.out.2; clear b4 s3))
      all_goals
        go_wp2
        go_ret
        exact ⟨rfl, X4.out⟩

/-! ### From the walk to the row -/
set_option maxRecDepth 100000 in
theorem lifted (os : Os) (started : os.Started) (H : Type) (enc : TypeId × Value → H) :
    ReturnsInHanded {} Try.checked os 6 .any (Rows.vocabFindsSpec.pre6 enc Try.prog Try.f6 Rows.vocabFindsRow.domain false) (Rows.vocabFindsSpec.post enc Try.prog Try.f6 false true false false) := by
  refine returnsInHanded_of_change (C := Try.checked) own started (by kernel_rfl) Try.func6
    (ChangeSpec.witness6 (enc := enc) (C := Try.checked) false ⟨#[], #[.agg #[.slice none 0 0], .int .i64 0, .int .i64 0], []⟩ 8 (by kernel_rfl) (by kernel_rfl) (by kernel_rfl) (by kernel_rfl)) ?_
  intro W base args ds gs before hval0 hW hcnd _
  have hval : ∀ (j : Nat) t v, Try.f6.params[j]? = some t → args[j]? = some v → Value.okWide Try.prog W .any base t v := hval0
  have hW' := hW
  obtain ⟨p, q, hA0, hV, rfl, hfz, hnd⟩ := hW
  have hA : DataW.TrodAll enc Try.prog W 0 (fun _ => true) true Try.f6.params.toList args.toList ds p := hA0
  rw [Try.params6] at hA hval
  obtain ⟨v0, vs0, d0, ds0, p0, q0, hargs, rfl, rfl, h0, r0⟩ := trodAll_cons hA
  obtain ⟨v1, vs1, d1, ds1, p1, q1, rfl, rfl, rfl, h1, r1⟩ := trodAll_cons r0
  obtain ⟨v2, vs2, d2, ds2, p2, q2, rfl, rfl, rfl, h2, r2⟩ := trodAll_cons r1
  obtain ⟨rfl, rfl, rfl⟩ := trodAll_nil r2
  obtain rfl : args = #[v0, v1, v2] := by cases args; simp_all
  obtain ⟨rfl, rfl⟩ := trodVars_none hV
  have k0 := h0
  have lt0 : ∀ x ∈ p0, x.block < W.heap.size := by obtain ⟨m, hm⟩ := k0; exact DataW.trod_lt m _ _ _ hm
  obtain ⟨u0, l0, rfl, hb0⟩ := voc_in (hval 0 24 v0 rfl rfl) h0
  obtain ⟨a1, rfl, rfl, rfl, w1⟩ := open_int Try.underlying3 (hval 1 3 v1 rfl rfl) h1
  obtain ⟨a2, rfl, rfl, rfl, w2⟩ := open_int Try.underlying3 (hval 2 3 v2 rfl rfl) h2
  clear hA0 hval0
  refine (walk W u0 l0 hb0 a1 w1 a2 w2).mono fun e W' ⟨he, bel⟩ => ?_
  subst he
  exact ⟨_, rfl, _, _, _, [], _, [], hW', trodAll_mk1 (shut_bool Try.underlying4 _), (trodAll_cons_mk (Below.trod laidOut (by kernel_rfl) (of_decide_eq_true (by kernel_rfl)) k0 bel lt0) (trodAll_cons_mk (shut_int Try.underlying3 w1) (trodAll_cons_mk (shut_int Try.underlying3 w2) trodAll_mk0))), rfl, bel.frame _, fun h => by cases h⟩

theorem proved : Rows.VocabFindsSaid :=
  OpenClaim.holds_of_wide 6 Try.f6 rfl rfl rfl rfl rfl rfl rfl ⟨rfl, rfl, rfl, rfl, rfl⟩ rfl rfl rfl rfl rfl (by kernel_rfl) Try.func6 (by kernel_rfl)
    (of_decide_eq_true (by kernel_rfl)) (by unfold Func.isWrapper; first | (rw [if_pos (by decide +kernel)]; kernel_rfl) | (rw [if_neg (by decide +kernel)]; exact ⟨rfl, rfl⟩))
    (fun os started H enc _ => lifted os started H enc)

end Go.Proofs.Ytgkmlcghkkpgpaa.vocabFinds
