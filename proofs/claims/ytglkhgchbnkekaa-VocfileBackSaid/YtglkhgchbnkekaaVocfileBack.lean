/-
  VocfileBack: a vocabulary comes back of its file; where bytes are a vocabulary's file, they are that one's. No condition.
-/
import Derived.Test.YtglkhgchbnkekaaPk10
import Derived.Test.YtglkhgchbnkekaaPk37
import Derived.Test.YtglkhgchbnkekaaPk14
import Derived.Test.YtglkhgchbnkekaaPk08
namespace Go.Proofs.Ytglkhgchbnkekaa.vocfileBack
open Go.ChangeShapes Go.WideShapes Go.ChangeAt Go.RowKit
open Go.ChangeMaps (open_string shut_string)
set_option linter.unusedVariables false

set_option maxHeartbeats 4000000 in
set_option maxRecDepth 100000 in
theorem walk (w : World) (v0 : Value) (l0 : List Vo.Pc) (h0 : Lv pK w w.heap.size v0 l0) (v1 : Value) (l1 : List Nat) (h1 : Lv yK w w.heap.size v1 l1) :
    Calls Try.prog 5 #[.agg #[v0], v1] w (IsBool true w) := by
  obtain ⟨A1, c1', rfl, hd1, hd2, _, _⟩ := id h1
  have hl1 : l1.length ≤ 9223372036854775807 := by simp only [maxLen] at hd2; omega
  have H1 := Lib.hid h1
  clear hd1 hd2 h1
  by_cases hm : 700 < l0.length
  · skip
    have HM : Hid (decide (700 < l0.length) = true) := by unfold Hid; simpa using hm
    clear hm
    obtain ⟨W, hW⟩ : ∃ X, w.alloc (.cells #[v0] 24) = X := ⟨_, rfl⟩
    obtain ⟨db, hsz, hbb⟩ := boxed hW
    have HB0 := Lib.hid hbb
    have Fv_0 := Lib.hid ((h0.below_ hbb (Nat.le_refl _)).mono_ hbb.size)
    have Fbox_0 : Hid (BoxAt W W.heap.size w.heap.size v0) := ⟨by omega, db⟩
    obtain ⟨A, c, rfl, hc1, hc2, _, _⟩ := h0
    have hl0 : l0.length ≤ 9223372036854775807 := by simp only [maxLen] at hc2; omega
    have dbox_0 := Fbox_0.out.2
    clear hc1 hc2 hbb hsz db
    go_enter Try.func5, Try.ntmps5
    have C1 := Lib.hid (many_any l0 _ _ W Fv_0.out)
    rw [HM.out] at C1
    go_wp2_with (fail)
    refine (C1.out).mono ?_
    rintro e w1 ⟨rfl, b1⟩
    have HB1 := Lib.hid (HB0.out.trans (b1.mono HB0.out.size))
    have Fv_1 := Lib.hid ((Fv_0.out.below_ b1 (Nat.le_refl _)).mono_ b1.size)
    have Fbox_1 := Lib.hid ((Fbox_0.out.below_ b1 (Nat.le_refl _)).mono_ b1.size)
    have dbox_1 := Fbox_1.out.2
    clear C1 b1 HB0 Fv_0 Fbox_0 dbox_0
    clear Fv_1
    have C2 := Lib.hid (works_vf w1)
    go_wp2_with (fail)
    refine (C2.out).mono ?_
    rintro e w2 ⟨rfl, b2⟩
    have HB2 := Lib.hid (HB1.out.trans (b2.mono HB1.out.size))
    have Fbox_2 := Lib.hid ((Fbox_1.out.below_ b2 (Nat.le_refl _)).mono_ b2.size)
    have dbox_2 := Fbox_2.out.2
    clear C2 b2 HB1 Fbox_1 dbox_1
    go_wp2
    go_ret
    exact ⟨rfl, HB2.out⟩
  · skip
    have HM : Hid (decide (700 < l0.length) = false) := by unfold Hid; simpa using hm
    have HP : Hid (l0.length ≤ 4096) := by unfold Hid; omega
    clear hm
    by_cases hm : 5000 < l1.length
    · skip
      have hmi : (5000 : Int) < (l1.length : Int) := by omega
      clear hm
      obtain ⟨W, hW⟩ : ∃ X, w.alloc (.cells #[v0] 24) = X := ⟨_, rfl⟩
      obtain ⟨db, hsz, hbb⟩ := boxed hW
      have HB0 := Lib.hid hbb
      have Fv_0 := Lib.hid ((h0.below_ hbb (Nat.le_refl _)).mono_ hbb.size)
      have Fbox_0 : Hid (BoxAt W W.heap.size w.heap.size v0) := ⟨by omega, db⟩
      obtain ⟨A, c, rfl, hc1, hc2, _, _⟩ := h0
      have hl0 : l0.length ≤ 9223372036854775807 := by simp only [maxLen] at hc2; omega
      have dbox_0 := Fbox_0.out.2
      clear hc1 hc2 hbb hsz db
      go_enter Try.func5, Try.ntmps5
      have C1 := Lib.hid (many_any l0 _ _ W Fv_0.out)
      rw [HM.out] at C1
      go_wp2_with (fail)
      refine (C1.out).mono ?_
      rintro e w1 ⟨rfl, b1⟩
      have HB1 := Lib.hid (HB0.out.trans (b1.mono HB0.out.size))
      have Fv_1 := Lib.hid ((Fv_0.out.below_ b1 (Nat.le_refl _)).mono_ b1.size)
      have Fbox_1 := Lib.hid ((Fbox_0.out.below_ b1 (Nat.le_refl _)).mono_ b1.size)
      have dbox_1 := Fbox_1.out.2
      clear C1 b1 HB0 Fv_0 Fbox_0 dbox_0
      clear Fv_1
      have C2 := Lib.hid (works_vf w1)
      go_wp2_with (fail)
      refine (C2.out).mono ?_
      rintro e w2 ⟨rfl, b2⟩
      have HB2 := Lib.hid (HB1.out.trans (b2.mono HB1.out.size))
      have Fbox_2 := Lib.hid ((Fbox_1.out.below_ b2 (Nat.le_refl _)).mono_ b2.size)
      have dbox_2 := Fbox_2.out.2
      clear C2 b2 HB1 Fbox_1 dbox_1
      go_wp2
      go_ret
      exact ⟨rfl, HB2.out⟩
    · skip
      have hmi : ¬ (5000 : Int) < (l1.length : Int) := by omega
      have HP1 : Hid (l1.length ≤ 140000) := by unfold Hid; omega
      have HPS : Hid ((Vf.file l0).length ≤ 140000) := Vf.file_short HP.out
      have HOK : Hid (∀ x ∈ l1, x < 256) := H1.out.ok_
      have HFT : Hid (Vo.May l0 → ∀ p ∈ l0, Vf.Fits p) := fun h => Vf.may_fits h (fun p hp => (h0.ok_ p hp).2.2.2) (fun p hp => (h0.ok_ p hp).1)
      clear hm
      obtain ⟨⟨Q, T, E⟩, hx⟩ : ∃ r, Vf.getE l1 = r := ⟨_, rfl⟩
      have HX := Lib.hid hx
      clear hx
      by_cases hmay : Vo.May l0
      · skip
        have HV : Hid (Vf.putE l0 = (Vf.file l0, 0)) := if_pos hmay
        have HG : Hid (Vf.getE (Vf.file l0) = (l0, 0, 0)) := Vf.getE_file hmay (HFT.out hmay)
        obtain ⟨x, hxe⟩ : ∃ x, Vf.file l0 = x := ⟨_, rfl⟩
        rw [hxe] at HV HG HPS
        clear hmay hxe
        obtain ⟨W, hW⟩ : ∃ X, w.alloc (.cells #[v0] 24) = X := ⟨_, rfl⟩
        obtain ⟨db, hsz, hbb⟩ := boxed hW
        have HB0 := Lib.hid hbb
        have Fv_0 := Lib.hid ((h0.below_ hbb (Nat.le_refl _)).mono_ hbb.size)
        have Fbox_0 : Hid (BoxAt W W.heap.size w.heap.size v0) := ⟨by omega, db⟩
        obtain ⟨A, c, rfl, hc1, hc2, _, _⟩ := h0
        have hl0 : l0.length ≤ 9223372036854775807 := by simp only [maxLen] at hc2; omega
        have dbox_0 := Fbox_0.out.2
        clear hc1 hc2 hbb hsz db
        go_enter Try.func5, Try.ntmps5
        have Fb_0 := Lib.hid ((H1.out.below_ HB0.out (Nat.le_refl _)).mono_ HB0.out.size)
        have C1 := Lib.hid (many_any l0 _ _ W Fv_0.out)
        rw [HM.out] at C1
        go_wp2_with (fail)
        refine (C1.out).mono ?_
        rintro e w1 ⟨rfl, b1⟩
        have HB1 := Lib.hid (HB0.out.trans (b1.mono HB0.out.size))
        have Fv_1 := Lib.hid ((Fv_0.out.below_ b1 (Nat.le_refl _)).mono_ b1.size)
        have Fbox_1 := Lib.hid ((Fbox_0.out.below_ b1 (Nat.le_refl _)).mono_ b1.size)
        have Fb_1 := Lib.hid ((Fb_0.out.below_ b1 (Nat.le_refl _)).mono_ b1.size)
        have dbox_1 := Fbox_1.out.2
        clear C1 b1 HB0 Fv_0 Fbox_0 Fb_0 dbox_0
        have C2 := Lib.hid (pvput_any l0 _ _ w1 Fv_1.out (Nat.le_refl _) HP.out)
        rw [HV.out] at C2
        go_wp2_with (fail)
        refine (C2.out).mono ?_
        rintro e w2 ⟨A2, c2, rfl, o2, b2⟩
        have HB2 := Lib.hid (HB1.out.trans (b2.mono HB1.out.size))
        have Fv_2 := Lib.hid ((Fv_1.out.below_ b2 (Nat.le_refl _)).mono_ b2.size)
        have Fbox_2 := Lib.hid ((Fbox_1.out.below_ b2 (Nat.le_refl _)).mono_ b2.size)
        have Fb_2 := Lib.hid ((Fb_1.out.below_ b2 (Nat.le_refl _)).mono_ b2.size)
        have dbox_2 := Fbox_2.out.2
        have Fx_2 := Lib.hid (o2.form_)
        clear C2 b2 HB1 Fv_1 Fbox_1 Fb_1 dbox_1 o2
        have C3 := Lib.hid (pvget_any x _ _ w2 Fx_2.out (Nat.le_refl _) HPS.out)
        rw [HG.out] at C3
        go_wp2_with (fail)
        refine (C3.out).mono ?_
        rintro e w3 ⟨A3, c3, rfl, o3, b3⟩
        have HB3 := Lib.hid (HB2.out.trans (b3.mono HB2.out.size))
        have Fv_3 := Lib.hid ((Fv_2.out.below_ b3 (Nat.le_refl _)).mono_ b3.size)
        have Fbox_3 := Lib.hid ((Fbox_2.out.below_ b3 (Nat.le_refl _)).mono_ b3.size)
        have Fb_3 := Lib.hid ((Fb_2.out.below_ b3 (Nat.le_refl _)).mono_ b3.size)
        have Fx_3 := Lib.hid ((Fx_2.out.below_ b3 (Nat.le_refl _)).mono_ b3.size)
        have dbox_3 := Fbox_3.out.2
        have Fz_3 := Lib.hid (o3.form_)
        clear C3 b3 HB2 Fv_2 Fbox_2 Fb_2 Fx_2 dbox_2 o3
        obtain ⟨Y3, hY3⟩ : ∃ X, w3.alloc (.cells #[.slice A3 l0.length c3] 24) = X := ⟨_, rfl⟩
        obtain ⟨db3, hsz3, hbb3⟩ := boxed hY3
        have b4 := hbb3
        have HB4 := Lib.hid (HB3.out.trans (b4.mono HB3.out.size))
        have Fv_4 := Lib.hid ((Fv_3.out.below_ b4 (Nat.le_refl _)).mono_ b4.size)
        have Fbox_4 := Lib.hid ((Fbox_3.out.below_ b4 (Nat.le_refl _)).mono_ b4.size)
        have Fb_4 := Lib.hid ((Fb_3.out.below_ b4 (Nat.le_refl _)).mono_ b4.size)
        have Fx_4 := Lib.hid ((Fx_3.out.below_ b4 (Nat.le_refl _)).mono_ b4.size)
        have Fz_4 := Lib.hid ((Fz_3.out.below_ b4 (Nat.le_refl _)).mono_ b4.size)
        have dbox_4 := Fbox_4.out.2
        clear b4 HB3 Fv_3 Fbox_3 Fb_3 Fx_3 Fz_3 dbox_3
        have Fbz_4 : Hid (BoxAt Y3 Y3.heap.size w3.heap.size (.slice A3 l0.length c3)) := ⟨by omega, db3⟩
        have dbz_4 := Fbz_4.out.2
        clear hbb3 hsz3 db3
        clear Fx_4
        have C5 := Lib.hid (voc_any l0 l0 _ _ _ _ Y3 Fv_4.out Fz_4.out (Nat.le_refl _) (Nat.le_refl _))
        simp only [decide_true] at C5
        go_wp2_with (fail)
        refine (C5.out).mono ?_
        rintro e w5 ⟨rfl, b5⟩
        have HB5 := Lib.hid (HB4.out.trans (b5.mono HB4.out.size))
        have Fv_5 := Lib.hid ((Fv_4.out.below_ b5 (Nat.le_refl _)).mono_ b5.size)
        have Fbox_5 := Lib.hid ((Fbox_4.out.below_ b5 (Nat.le_refl _)).mono_ b5.size)
        have Fb_5 := Lib.hid ((Fb_4.out.below_ b5 (Nat.le_refl _)).mono_ b5.size)
        have Fz_5 := Lib.hid ((Fz_4.out.below_ b5 (Nat.le_refl _)).mono_ b5.size)
        have Fbz_5 := Lib.hid ((Fbz_4.out.below_ b5 (Nat.le_refl _)).mono_ b5.size)
        have dbox_5 := Fbox_5.out.2
        have dbz_5 := Fbz_5.out.2
        clear C5 b5 HB4 Fv_4 Fbox_4 Fb_4 Fz_4 Fbz_4 dbox_4 dbz_4
        clear Fv_5
        clear Fz_5
        have C6 := Lib.hid (pvget_any l1 _ _ w5 Fb_5.out (Nat.le_refl _) HP1.out)
        rw [HX.out] at C6
        go_wp2_with (fail)
        refine (C6.out).mono ?_
        rintro e w6 ⟨A6, c6, rfl, o6, b6⟩
        have HB6 := Lib.hid (HB5.out.trans (b6.mono HB5.out.size))
        have Fbox_6 := Lib.hid ((Fbox_5.out.below_ b6 (Nat.le_refl _)).mono_ b6.size)
        have Fb_6 := Lib.hid ((Fb_5.out.below_ b6 (Nat.le_refl _)).mono_ b6.size)
        have Fbz_6 := Lib.hid ((Fbz_5.out.below_ b6 (Nat.le_refl _)).mono_ b6.size)
        have dbox_6 := Fbox_6.out.2
        have dbz_6 := Fbz_6.out.2
        have Fy_6 := Lib.hid (o6.form_)
        clear C6 b6 HB5 Fbox_5 Fb_5 Fbz_5 dbox_5 dbz_5 o6
        obtain ⟨Y6, hY6⟩ : ∃ X, w6.alloc (.cells #[.slice A6 Q.length c6] 24) = X := ⟨_, rfl⟩
        obtain ⟨db6, hsz6, hbb6⟩ := boxed hY6
        have b7 := hbb6
        have HB7 := Lib.hid (HB6.out.trans (b7.mono HB6.out.size))
        have Fbox_7 := Lib.hid ((Fbox_6.out.below_ b7 (Nat.le_refl _)).mono_ b7.size)
        have Fb_7 := Lib.hid ((Fb_6.out.below_ b7 (Nat.le_refl _)).mono_ b7.size)
        have Fbz_7 := Lib.hid ((Fbz_6.out.below_ b7 (Nat.le_refl _)).mono_ b7.size)
        have Fy_7 := Lib.hid ((Fy_6.out.below_ b7 (Nat.le_refl _)).mono_ b7.size)
        have dbox_7 := Fbox_7.out.2
        have dbz_7 := Fbz_7.out.2
        clear b7 HB6 Fbox_6 Fb_6 Fbz_6 Fy_6 dbox_6 dbz_6
        have Fby_7 : Hid (BoxAt Y6 Y6.heap.size w6.heap.size (.slice A6 Q.length c6)) := ⟨by omega, db6⟩
        have dby_7 := Fby_7.out.2
        clear hbb6 hsz6 db6
        by_cases hE : E = 0
        · skip
          subst hE
          obtain ⟨_, g2, _, g4, g5⟩ := Vf.getE_ok HOK.out HX.out
          have HQP : Hid (Vf.putE Q = (l1, 0)) := by unfold Hid; rw [Vf.putE, if_pos g2, ← g5]
          have HQL : Hid (Q.length ≤ 4096) := g4
          clear g2 g4 g5
          have C8 := Lib.hid (pvput_any Q _ _ Y6 Fy_7.out (Nat.le_refl _) HQL.out)
          rw [HQP.out] at C8
          go_wp2_with (fail)
          refine (C8.out).mono ?_
          rintro e w8 ⟨A8, c8, rfl, o8, b8⟩
          have HB8 := Lib.hid (HB7.out.trans (b8.mono HB7.out.size))
          have Fbox_8 := Lib.hid ((Fbox_7.out.below_ b8 (Nat.le_refl _)).mono_ b8.size)
          have Fb_8 := Lib.hid ((Fb_7.out.below_ b8 (Nat.le_refl _)).mono_ b8.size)
          have Fbz_8 := Lib.hid ((Fbz_7.out.below_ b8 (Nat.le_refl _)).mono_ b8.size)
          have Fy_8 := Lib.hid ((Fy_7.out.below_ b8 (Nat.le_refl _)).mono_ b8.size)
          have Fby_8 := Lib.hid ((Fby_7.out.below_ b8 (Nat.le_refl _)).mono_ b8.size)
          have dbox_8 := Fbox_8.out.2
          have dbz_8 := Fbz_8.out.2
          have dby_8 := Fby_8.out.2
          have Fc_8 := Lib.hid (o8.form_)
          clear C8 b8 HB7 Fbox_7 Fb_7 Fbz_7 Fy_7 Fby_7 dbox_7 dbz_7 dby_7 o8
          have C9 := Lib.hid (octs_lv _ _ _ _ _ _ w8 Fc_8.out Fb_8.out)
          simp only [decide_true] at C9
          go_wp2_with (fail)
          refine (C9.out).mono ?_
          rintro e w9 ⟨rfl, b9⟩
          have HB9 := Lib.hid (HB8.out.trans (b9.mono HB8.out.size))
          have Fbox_9 := Lib.hid ((Fbox_8.out.below_ b9 (Nat.le_refl _)).mono_ b9.size)
          have Fb_9 := Lib.hid ((Fb_8.out.below_ b9 (Nat.le_refl _)).mono_ b9.size)
          have Fbz_9 := Lib.hid ((Fbz_8.out.below_ b9 (Nat.le_refl _)).mono_ b9.size)
          have Fy_9 := Lib.hid ((Fy_8.out.below_ b9 (Nat.le_refl _)).mono_ b9.size)
          have Fby_9 := Lib.hid ((Fby_8.out.below_ b9 (Nat.le_refl _)).mono_ b9.size)
          have Fc_9 := Lib.hid ((Fc_8.out.below_ b9 (Nat.le_refl _)).mono_ b9.size)
          have dbox_9 := Fbox_9.out.2
          have dbz_9 := Fbz_9.out.2
          have dby_9 := Fby_9.out.2
          clear C9 b9 HB8 Fbox_8 Fb_8 Fbz_8 Fy_8 Fby_8 Fc_8 dbox_8 dbz_8 dby_8
          clear Fc_9
          clear Fb_9
          clear Fy_9
          have C10 := Lib.hid (works_vf w9)
          go_wp2_with (fail)
          refine (C10.out).mono ?_
          rintro e w10 ⟨rfl, b10⟩
          have HB10 := Lib.hid (HB9.out.trans (b10.mono HB9.out.size))
          have Fbox_10 := Lib.hid ((Fbox_9.out.below_ b10 (Nat.le_refl _)).mono_ b10.size)
          have Fbz_10 := Lib.hid ((Fbz_9.out.below_ b10 (Nat.le_refl _)).mono_ b10.size)
          have Fby_10 := Lib.hid ((Fby_9.out.below_ b10 (Nat.le_refl _)).mono_ b10.size)
          have dbox_10 := Fbox_10.out.2
          have dbz_10 := Fbz_10.out.2
          have dby_10 := Fby_10.out.2
          clear C10 b10 HB9 Fbox_9 Fbz_9 Fby_9 dbox_9 dbz_9 dby_9
          go_wp2
          go_ret
          exact ⟨rfl, HB10.out⟩
        · skip
          have hEi : ((E : Int) != 0) = true := by rw [bne_iff_ne]; omega
          have HQ0 : Hid (Q = []) := by
            have h := Vf.getE_bad (l := l1) (by rw [HX.out]; exact hE)
            rw [HX.out] at h
            exact h
          obtain rfl := HQ0.out
          simp only [List.length_nil] at hY6 dby_7
          clear hE
          clear Fy_7
          clear Fb_7
          have C8 := Lib.hid (works_vf Y6)
          go_wp2_with (fail)
          refine (C8.out).mono ?_
          rintro e w8 ⟨rfl, b8⟩
          have HB8 := Lib.hid (HB7.out.trans (b8.mono HB7.out.size))
          have Fbox_8 := Lib.hid ((Fbox_7.out.below_ b8 (Nat.le_refl _)).mono_ b8.size)
          have Fbz_8 := Lib.hid ((Fbz_7.out.below_ b8 (Nat.le_refl _)).mono_ b8.size)
          have Fby_8 := Lib.hid ((Fby_7.out.below_ b8 (Nat.le_refl _)).mono_ b8.size)
          have dbox_8 := Fbox_8.out.2
          have dbz_8 := Fbz_8.out.2
          have dby_8 := Fby_8.out.2
          clear C8 b8 HB7 Fbox_7 Fbz_7 Fby_7 dbox_7 dbz_7 dby_7
          go_wp2
          go_ret
          exact ⟨rfl, HB8.out⟩
      · skip
        have HV : Hid (Vf.putE l0 = ([], 11)) := if_neg hmay
        clear hmay
        obtain ⟨W, hW⟩ : ∃ X, w.alloc (.cells #[v0] 24) = X := ⟨_, rfl⟩
        obtain ⟨db, hsz, hbb⟩ := boxed hW
        have HB0 := Lib.hid hbb
        have Fv_0 := Lib.hid ((h0.below_ hbb (Nat.le_refl _)).mono_ hbb.size)
        have Fbox_0 : Hid (BoxAt W W.heap.size w.heap.size v0) := ⟨by omega, db⟩
        obtain ⟨A, c, rfl, hc1, hc2, _, _⟩ := h0
        have hl0 : l0.length ≤ 9223372036854775807 := by simp only [maxLen] at hc2; omega
        have dbox_0 := Fbox_0.out.2
        clear hc1 hc2 hbb hsz db
        go_enter Try.func5, Try.ntmps5
        have Fb_0 := Lib.hid ((H1.out.below_ HB0.out (Nat.le_refl _)).mono_ HB0.out.size)
        have C1 := Lib.hid (many_any l0 _ _ W Fv_0.out)
        rw [HM.out] at C1
        go_wp2_with (fail)
        refine (C1.out).mono ?_
        rintro e w1 ⟨rfl, b1⟩
        have HB1 := Lib.hid (HB0.out.trans (b1.mono HB0.out.size))
        have Fv_1 := Lib.hid ((Fv_0.out.below_ b1 (Nat.le_refl _)).mono_ b1.size)
        have Fbox_1 := Lib.hid ((Fbox_0.out.below_ b1 (Nat.le_refl _)).mono_ b1.size)
        have Fb_1 := Lib.hid ((Fb_0.out.below_ b1 (Nat.le_refl _)).mono_ b1.size)
        have dbox_1 := Fbox_1.out.2
        clear C1 b1 HB0 Fv_0 Fbox_0 Fb_0 dbox_0
        have C2 := Lib.hid (pvput_any l0 _ _ w1 Fv_1.out (Nat.le_refl _) HP.out)
        rw [HV.out] at C2
        go_wp2_with (fail)
        refine (C2.out).mono ?_
        rintro e w2 ⟨A2, c2, rfl, o2, b2⟩
        have HB2 := Lib.hid (HB1.out.trans (b2.mono HB1.out.size))
        have Fv_2 := Lib.hid ((Fv_1.out.below_ b2 (Nat.le_refl _)).mono_ b2.size)
        have Fbox_2 := Lib.hid ((Fbox_1.out.below_ b2 (Nat.le_refl _)).mono_ b2.size)
        have Fb_2 := Lib.hid ((Fb_1.out.below_ b2 (Nat.le_refl _)).mono_ b2.size)
        have dbox_2 := Fbox_2.out.2
        have Fx_2 := Lib.hid (o2.form_)
        clear C2 b2 HB1 Fv_1 Fbox_1 Fb_1 dbox_1 o2
        clear Fx_2
        clear Fv_2
        have C3 := Lib.hid (pvget_any l1 _ _ w2 Fb_2.out (Nat.le_refl _) HP1.out)
        rw [HX.out] at C3
        go_wp2_with (fail)
        refine (C3.out).mono ?_
        rintro e w3 ⟨A3, c3, rfl, o3, b3⟩
        have HB3 := Lib.hid (HB2.out.trans (b3.mono HB2.out.size))
        have Fbox_3 := Lib.hid ((Fbox_2.out.below_ b3 (Nat.le_refl _)).mono_ b3.size)
        have Fb_3 := Lib.hid ((Fb_2.out.below_ b3 (Nat.le_refl _)).mono_ b3.size)
        have dbox_3 := Fbox_3.out.2
        have Fy_3 := Lib.hid (o3.form_)
        clear C3 b3 HB2 Fbox_2 Fb_2 dbox_2 o3
        obtain ⟨Y3, hY3⟩ : ∃ X, w3.alloc (.cells #[.slice A3 Q.length c3] 24) = X := ⟨_, rfl⟩
        obtain ⟨db3, hsz3, hbb3⟩ := boxed hY3
        have b4 := hbb3
        have HB4 := Lib.hid (HB3.out.trans (b4.mono HB3.out.size))
        have Fbox_4 := Lib.hid ((Fbox_3.out.below_ b4 (Nat.le_refl _)).mono_ b4.size)
        have Fb_4 := Lib.hid ((Fb_3.out.below_ b4 (Nat.le_refl _)).mono_ b4.size)
        have Fy_4 := Lib.hid ((Fy_3.out.below_ b4 (Nat.le_refl _)).mono_ b4.size)
        have dbox_4 := Fbox_4.out.2
        clear b4 HB3 Fbox_3 Fb_3 Fy_3 dbox_3
        have Fby_4 : Hid (BoxAt Y3 Y3.heap.size w3.heap.size (.slice A3 Q.length c3)) := ⟨by omega, db3⟩
        have dby_4 := Fby_4.out.2
        clear hbb3 hsz3 db3
        by_cases hE : E = 0
        · skip
          subst hE
          obtain ⟨_, g2, _, g4, g5⟩ := Vf.getE_ok HOK.out HX.out
          have HQP : Hid (Vf.putE Q = (l1, 0)) := by unfold Hid; rw [Vf.putE, if_pos g2, ← g5]
          have HQL : Hid (Q.length ≤ 4096) := g4
          clear g2 g4 g5
          have C5 := Lib.hid (pvput_any Q _ _ Y3 Fy_4.out (Nat.le_refl _) HQL.out)
          rw [HQP.out] at C5
          go_wp2_with (fail)
          refine (C5.out).mono ?_
          rintro e w5 ⟨A5, c5, rfl, o5, b5⟩
          have HB5 := Lib.hid (HB4.out.trans (b5.mono HB4.out.size))
          have Fbox_5 := Lib.hid ((Fbox_4.out.below_ b5 (Nat.le_refl _)).mono_ b5.size)
          have Fb_5 := Lib.hid ((Fb_4.out.below_ b5 (Nat.le_refl _)).mono_ b5.size)
          have Fy_5 := Lib.hid ((Fy_4.out.below_ b5 (Nat.le_refl _)).mono_ b5.size)
          have Fby_5 := Lib.hid ((Fby_4.out.below_ b5 (Nat.le_refl _)).mono_ b5.size)
          have dbox_5 := Fbox_5.out.2
          have dby_5 := Fby_5.out.2
          have Fc_5 := Lib.hid (o5.form_)
          clear C5 b5 HB4 Fbox_4 Fb_4 Fy_4 Fby_4 dbox_4 dby_4 o5
          have C6 := Lib.hid (octs_lv _ _ _ _ _ _ w5 Fc_5.out Fb_5.out)
          simp only [decide_true] at C6
          go_wp2_with (fail)
          refine (C6.out).mono ?_
          rintro e w6 ⟨rfl, b6⟩
          have HB6 := Lib.hid (HB5.out.trans (b6.mono HB5.out.size))
          have Fbox_6 := Lib.hid ((Fbox_5.out.below_ b6 (Nat.le_refl _)).mono_ b6.size)
          have Fb_6 := Lib.hid ((Fb_5.out.below_ b6 (Nat.le_refl _)).mono_ b6.size)
          have Fy_6 := Lib.hid ((Fy_5.out.below_ b6 (Nat.le_refl _)).mono_ b6.size)
          have Fby_6 := Lib.hid ((Fby_5.out.below_ b6 (Nat.le_refl _)).mono_ b6.size)
          have Fc_6 := Lib.hid ((Fc_5.out.below_ b6 (Nat.le_refl _)).mono_ b6.size)
          have dbox_6 := Fbox_6.out.2
          have dby_6 := Fby_6.out.2
          clear C6 b6 HB5 Fbox_5 Fb_5 Fy_5 Fby_5 Fc_5 dbox_5 dby_5
          clear Fc_6
          clear Fb_6
          clear Fy_6
          have C7 := Lib.hid (works_vf w6)
          go_wp2_with (fail)
          refine (C7.out).mono ?_
          rintro e w7 ⟨rfl, b7⟩
          have HB7 := Lib.hid (HB6.out.trans (b7.mono HB6.out.size))
          have Fbox_7 := Lib.hid ((Fbox_6.out.below_ b7 (Nat.le_refl _)).mono_ b7.size)
          have Fby_7 := Lib.hid ((Fby_6.out.below_ b7 (Nat.le_refl _)).mono_ b7.size)
          have dbox_7 := Fbox_7.out.2
          have dby_7 := Fby_7.out.2
          clear C7 b7 HB6 Fbox_6 Fby_6 dbox_6 dby_6
          go_wp2
          go_ret
          exact ⟨rfl, HB7.out⟩
        · skip
          have hEi : ((E : Int) != 0) = true := by rw [bne_iff_ne]; omega
          have HQ0 : Hid (Q = []) := by
            have h := Vf.getE_bad (l := l1) (by rw [HX.out]; exact hE)
            rw [HX.out] at h
            exact h
          obtain rfl := HQ0.out
          simp only [List.length_nil] at hY3 dby_4
          clear hE
          clear Fy_4
          clear Fb_4
          have C5 := Lib.hid (works_vf Y3)
          go_wp2_with (fail)
          refine (C5.out).mono ?_
          rintro e w5 ⟨rfl, b5⟩
          have HB5 := Lib.hid (HB4.out.trans (b5.mono HB4.out.size))
          have Fbox_5 := Lib.hid ((Fbox_4.out.below_ b5 (Nat.le_refl _)).mono_ b5.size)
          have Fby_5 := Lib.hid ((Fby_4.out.below_ b5 (Nat.le_refl _)).mono_ b5.size)
          have dbox_5 := Fbox_5.out.2
          have dby_5 := Fby_5.out.2
          clear C5 b5 HB4 Fbox_4 Fby_4 dbox_4 dby_4
          go_wp2
          go_ret
          exact ⟨rfl, HB5.out⟩

/-! ### From the walk to the row -/
set_option maxRecDepth 100000 in
theorem lifted (os : Os) (started : os.Started) (H : Type) (enc : TypeId × Value → H) :
    ReturnsInHanded {} Try.checked os 5 .any (Rows.vocfileBackSpec.pre6 enc Try.prog Try.f5 Rows.vocfileBackRow.domain false) (Rows.vocfileBackSpec.post enc Try.prog Try.f5 false true false false) := by
  refine returnsInHanded_of_change (C := Try.checked) own started (by kernel_rfl) Try.func5
    (ChangeSpec.witness6 (enc := enc) (C := Try.checked) false ⟨#[], #[.agg #[.slice none 0 0], .slice none 0 0], []⟩ 8 (by kernel_rfl) (by kernel_rfl) (by kernel_rfl) (by kernel_rfl)) ?_
  intro W base args ds gs before hval0 hW hcnd _
  have hval : ∀ (j : Nat) t v, Try.f5.params[j]? = some t → args[j]? = some v → Value.okWide Try.prog W .any base t v := hval0
  have hW' := hW
  obtain ⟨p, q, hA0, hV, rfl, hfz, hnd⟩ := hW
  have hA : DataW.TrodAll enc Try.prog W 0 (fun _ => true) true Try.f5.params.toList args.toList ds p := hA0
  rw [Try.params5] at hA hval
  obtain ⟨v0, vs0, d0, ds0, p0, q0, hargs, rfl, rfl, h0, r0⟩ := trodAll_cons hA
  obtain ⟨v1, vs1, d1, ds1, p1, q1, rfl, rfl, rfl, h1, r1⟩ := trodAll_cons r0
  obtain ⟨rfl, rfl, rfl⟩ := trodAll_nil r1
  obtain rfl : args = #[v0, v1] := by cases args; simp_all
  obtain ⟨rfl, rfl⟩ := trodVars_none hV
  have k0 := h0
  have lt0 : ∀ x ∈ p0, x.block < W.heap.size := by obtain ⟨m, hm⟩ := k0; exact DataW.trod_lt m _ _ _ hm
  obtain ⟨u0, l0, rfl, hb0⟩ := voc_in (hval 0 24 v0 rfl rfl) h0
  obtain ⟨a1, len1, cap1, rfl⟩ := okWide_slice Try.underlying27 (hval 1 27 v1 rfl rfl)
  have k1 := h1
  have lt1 : ∀ x ∈ p1, x.block < W.heap.size := by obtain ⟨m, hm⟩ := k1; exact DataW.trod_lt m _ _ _ hm
  obtain ⟨l1, len_1, hb1⟩ : ∃ l : List Nat, l.length = len1 ∧ Lv yK W W.heap.size (.slice a1 len1 cap1) l := by
    obtain ⟨fuel, hf⟩ := h1
    exact octs_in hf
  clear hA0 hval0
  refine (walk W u0 l0 hb0 (.slice a1 len1 cap1) l1 hb1).mono fun e W' ⟨he, bel⟩ => ?_
  subst he
  exact ⟨_, rfl, _, _, _, [], _, [], hW', trodAll_mk1 (shut_bool Try.underlying4 _), (trodAll_cons_mk (Below.trod laidOut (by kernel_rfl) (of_decide_eq_true (by kernel_rfl)) k0 bel lt0) (trodAll_cons_mk (Below.trod laidOut (by kernel_rfl) (of_decide_eq_true (by kernel_rfl)) k1 bel lt1) trodAll_mk0)), rfl, bel.frame _, fun h => by cases h⟩

theorem proved : Rows.VocfileBackSaid :=
  OpenClaim.holds_of_wide 5 Try.f5 rfl rfl rfl rfl rfl rfl rfl ⟨rfl, rfl, rfl, rfl, rfl⟩ rfl rfl rfl rfl rfl (by kernel_rfl) Try.func5 (by kernel_rfl)
    (of_decide_eq_true (by kernel_rfl)) (by unfold Func.isWrapper; first | (rw [if_pos (by decide +kernel)]; kernel_rfl) | (rw [if_neg (by decide +kernel)]; exact ⟨rfl, rfl⟩))
    (fun os started H enc _ => lifted os started H enc)

end Go.Proofs.Ytglkhgchbnkekaa.vocfileBack
