/-
  VocabStays: a beginning of a vocabulary that may be, with all bytes in it, may be; the bytes of a join are those of its left and its right. No condition.
-/
import Derived.Test.YtgkmlcghkkpgpaaFrameV
import Derived.Test.YtgkmlcghkkpgpaaVoLaw
import Derived.Test.YtgkmlcghkkpgpaaVoStay
import Derived.Test.YtgkmlcghkkpgpaaOcts
import Derived.Test.YtgkmlcghkkpgpaaCutL
namespace Go.Proofs.Ytgkmlcghkkpgpaa.vocabStays
open Go.ChangeShapes Go.WideShapes Go.ChangeAt Go.RowKit
open Go.ChangeMaps (open_string shut_string)
set_option linter.unusedVariables false

set_option maxHeartbeats 8000000 in
set_option maxRecDepth 100000 in
theorem walk (w : World) (v0 : Value) (l0 : List Vo.Pc) (h0 : Lv pK w w.heap.size v0 l0) (a1 : Int) (w1 : (Lit.int .i64 a1).wf = true) (a2 : Int) (w2 : (Lit.int .i64 a2).wf = true) :
    Calls Try.prog 8 #[.agg #[v0], .int .i64 a1, .int .i64 a2] w (IsBool true w) := by
  have HI : Hid (I64 a1) := bounds_i64' w1
  have HI2 : Hid (I64 a2) := bounds_i64' w2
  clear w1 w2
  by_cases hm : 700 < l0.length
  · skip
    have HM : Hid (decide (700 < l0.length) = true) := by unfold Hid; simpa using hm
    clear hm
    obtain ⟨W, hW⟩ : ∃ X, w.alloc (.cells #[v0] 24) = X := ⟨_, rfl⟩
    obtain ⟨db, hsz, hbb⟩ := boxed hW
    have HB0 := Lib.hid hbb
    have Fv_0 := Lib.hid ((h0.below_ hbb (Nat.le_refl _)).mono_ hbb.size)
    have Fbox_0 : Hid (BoxAt W W.heap.size w.heap.size v0) := ⟨by omega, db⟩
    obtain ⟨A, c, rfl, hc1, hc2, _, _⟩ := h0
    have hl0 : l0.length ≤ 9223372036854775807 := by simp only [maxLen] at hc2; omega
    have dbox_0 := Fbox_0.out.2
    clear hc1 hc2 hbb hsz db
    go_enter Try.func8, Try.ntmps8
    have C1 := Lib.hid (many_any l0 _ _ W Fv_0.out)
    rw [HM.out] at C1
    go_wp2_with (fail)
    refine (C1.out).mono ?_
    rintro e w1 ⟨rfl, b1⟩
    have HB1 := Lib.hid (HB0.out.trans (b1.mono HB0.out.size))
    have Fv_1 := Lib.hid ((Fv_0.out.below_ b1 (Nat.le_refl _)).mono_ b1.size)
    have Fbox_1 := Lib.hid ((Fbox_0.out.below_ b1 (Nat.le_refl _)).mono_ b1.size)
    have dbox_1 := Fbox_1.out.2
    clear C1 b1 HB0 Fv_0 Fbox_0 dbox_0
    clear Fv_1
    have C2 := Lib.hid (works_voc w1)
    go_wp2_with (fail)
    refine (C2.out).mono ?_
    rintro e w2 ⟨rfl, b2⟩
    have HB2 := Lib.hid (HB1.out.trans (b2.mono HB1.out.size))
    have Fbox_2 := Lib.hid ((Fbox_1.out.below_ b2 (Nat.le_refl _)).mono_ b2.size)
    have dbox_2 := Fbox_2.out.2
    clear C2 b2 HB1 Fbox_1 dbox_1
    go_wp2
    go_ret
    exact ⟨rfl, HB2.out⟩
  · skip
    have HM : Hid (decide (700 < l0.length) = false) := by unfold Hid; simpa using hm
    have HP : Hid (l0.length ≤ 700) := by unfold Hid; omega
    have HP2 : Hid (l0.length ≤ 4194304) := by unfold Hid; omega
    clear hm
    by_cases hmay : Vo.May l0
    · skip
      have HMAY := Lib.hid hmay
      have HC : Hid (Vo.check l0 = (0, 0)) := Vo.check_may hmay
      by_cases hin : 0 ≤ a1 ∧ a1 < l0.length
      · skip
        obtain ⟨t, rfl⟩ := Int.eq_ofNat_of_zero_le hin.1
        have ht : t < l0.length := by omega
        have hg := (Vo.may_iff.1 hmay).2.1
        obtain ⟨p, hp⟩ : ∃ p, l0[t]? = some p := ⟨_, List.getElem?_eq_getElem ht⟩
        have HPP := Lib.hid hp
        have HX : Hid (Vo.expandE l0 (t : Int) = (Vo.text l0 t, 0)) := Vo.expand_in hmay ht
        have hsz := Vo.text_size hg ht
        obtain ⟨x, hx⟩ : ∃ x, Vo.text l0 t = x := ⟨_, rfl⟩
        rw [hx] at HX hsz
        have HXT : Hid (Vo.text l0 t = x) := hx
        have hx1 : ¬ (x.length : Int) < 1 := by omega
        have hx2 : ¬ (256 : Int) < (x.length : Int) := by omega
        have ht2 : ¬ (l0.length : Int) ≤ (t : Int) := by omega
        have ht3 : (t : Int) < (l0.length : Int) := by omega
        have HT := Lib.hid ht
        have HG := Lib.hid hg
        have HJN : Hid (∀ b, p.join = b → p.join = b) := fun _ h => h
        clear hin hx hsz hmay ht hg hp
        cases hj : p.join with
        | false =>
          have HFB : Hid (Vo.byteE l0 p.byte = (t, 0)) := Vo.byte_self HMAY.out HPP.out hj
          have HXB : Hid (decide (x = [p.byte]) = true) := by unfold Hid; rw [← HXT.out, Vo.text_byte HPP.out hj]; simp
          have HTT : Hid (((t : Int) != (t : Int)) = false) := by simp [Hid]
          rcases (show a2 < 0 ∨ (l0.length : Int) < a2 ∨ (0 ≤ a2 ∧ a2 ≤ l0.length) by omega) with hs | hs | hs
          · skip
            have hs1 : a2 < 0 := hs
            clear hs
            obtain ⟨W, hW⟩ : ∃ X, w.alloc (.cells #[v0] 24) = X := ⟨_, rfl⟩
            obtain ⟨db, hsz, hbb⟩ := boxed hW
            have HB0 := Lib.hid hbb
            have Fv_0 := Lib.hid ((h0.below_ hbb (Nat.le_refl _)).mono_ hbb.size)
            have Fbox_0 : Hid (BoxAt W W.heap.size w.heap.size v0) := ⟨by omega, db⟩
            obtain ⟨A, c, rfl, hc1, hc2, _, _⟩ := h0
            have hl0 : l0.length ≤ 9223372036854775807 := by simp only [maxLen] at hc2; omega
            have dbox_0 := Fbox_0.out.2
            clear hc1 hc2 hbb hsz db
            go_enter Try.func8, Try.ntmps8
            have C1 := Lib.hid (many_any l0 _ _ W Fv_0.out)
            rw [HM.out] at C1
            go_wp2_with (fail)
            refine (C1.out).mono ?_
            rintro e w1 ⟨rfl, b1⟩
            have HB1 := Lib.hid (HB0.out.trans (b1.mono HB0.out.size))
            have Fv_1 := Lib.hid ((Fv_0.out.below_ b1 (Nat.le_refl _)).mono_ b1.size)
            have Fbox_1 := Lib.hid ((Fbox_0.out.below_ b1 (Nat.le_refl _)).mono_ b1.size)
            have dbox_1 := Fbox_1.out.2
            clear C1 b1 HB0 Fv_0 Fbox_0 dbox_0
            have C2 := Lib.hid (pcheck_any l0 _ _ w1 Fv_1.out (Nat.le_refl _))
            rw [HC.out] at C2
            go_wp2_with (fail)
            refine (C2.out).mono ?_
            rintro e w2 ⟨rfl, b2⟩
            have HB2 := Lib.hid (HB1.out.trans (b2.mono HB1.out.size))
            have Fv_2 := Lib.hid ((Fv_1.out.below_ b2 (Nat.le_refl _)).mono_ b2.size)
            have Fbox_2 := Lib.hid ((Fbox_1.out.below_ b2 (Nat.le_refl _)).mono_ b2.size)
            have dbox_2 := Fbox_2.out.2
            clear C2 b2 HB1 Fv_1 Fbox_1 dbox_1
            have C3 := Lib.hid (pexpand_any l0 _ t _ w2 Fv_2.out (Nat.le_refl _) HI.out HP.out)
            rw [HX.out] at C3
            go_wp2_with (fail)
            refine (C3.out).mono ?_
            rintro e w3 ⟨A3, c3, rfl, o3, b3⟩
            have HB3 := Lib.hid (HB2.out.trans (b3.mono HB2.out.size))
            have Fv_3 := Lib.hid ((Fv_2.out.below_ b3 (Nat.le_refl _)).mono_ b3.size)
            have Fbox_3 := Lib.hid ((Fbox_2.out.below_ b3 (Nat.le_refl _)).mono_ b3.size)
            have dbox_3 := Fbox_3.out.2
            have Fb_3 := Lib.hid (o3.form_)
            clear C3 b3 HB2 Fv_2 Fbox_2 dbox_2 o3
            obtain ⟨pb, po, p', e, hbp, hpok, hq, c0, c1, c2, c3, c4⟩ := Fv_3.out.piece_ HT.out
            rw [HPP.out] at hq
            obtain rfl := Option.some.inj hq
            subst e
            have hpbl : pb < w3.heap.size := hbp
            obtain ⟨Z, hZ⟩ : ∃ X, w3.alloc (.cells #[.bool p.join, .int .u8 (p.byte : Nat), .int .i64 p.left, .int .i64 p.right, .int .u32 (p.rank : Nat)] 33) = X := ⟨_, rfl⟩
            obtain ⟨pz, bZ⟩ := pboxed hZ
            have HPOK := Lib.hid hpok
            rw [hj] at hZ
            clear hpok
            have dkeep := dbox_3
            have b4 := bZ
            have HB4 := Lib.hid (HB3.out.trans (b4.mono HB3.out.size))
            have Fv_4 := Lib.hid ((Fv_3.out.below_ b4 (Nat.le_refl _)).mono_ b4.size)
            have Fbox_4 := Lib.hid ((Fbox_3.out.below_ b4 (Nat.le_refl _)).mono_ b4.size)
            have Fb_4 := Lib.hid ((Fb_3.out.below_ b4 (Nat.le_refl _)).mono_ b4.size)
            have dbox_4 := Fbox_4.out.2
            clear b4 HB3 Fv_3 Fbox_3 Fb_3 dbox_3
            have Fp_4 := Lib.hid pz
            clear bZ pz
            have dp_4 := Fp_4.out.2 0 _ rfl
            have dpb_4 := Fp_4.out.2 1 _ rfl
            have dpc_4 := Fp_4.out.2 2 _ rfl
            have dpd_4 := Fp_4.out.2 3 _ rfl
            have C5 := Lib.hid (pbyte_any l0 _ p.byte _ Z Fv_4.out (Nat.le_refl _) HPOK.out.1 HP.out)
            rw [HFB.out] at C5
            go_wp2_with (fail)
            refine (C5.out).mono ?_
            rintro e w5 ⟨rfl, b5⟩
            have HB5 := Lib.hid (HB4.out.trans (b5.mono HB4.out.size))
            have Fv_5 := Lib.hid ((Fv_4.out.below_ b5 (Nat.le_refl _)).mono_ b5.size)
            have Fbox_5 := Lib.hid ((Fbox_4.out.below_ b5 (Nat.le_refl _)).mono_ b5.size)
            have Fb_5 := Lib.hid ((Fb_4.out.below_ b5 (Nat.le_refl _)).mono_ b5.size)
            have Fp_5 := Lib.hid ((Fp_4.out.below_ b5 (Nat.le_refl _)).mono_ b5.size)
            have dbox_5 := Fbox_5.out.2
            have dp_5 := Fp_5.out.2 0 _ rfl
            have dpb_5 := Fp_5.out.2 1 _ rfl
            have dpc_5 := Fp_5.out.2 2 _ rfl
            have dpd_5 := Fp_5.out.2 3 _ rfl
            clear C5 b5 HB4 Fv_4 Fbox_4 Fb_4 Fp_4 dbox_4 dp_4 dpb_4 dpc_4 dpd_4
            have hok1 : ∀ y ∈ [p.byte], yK.ok y := fun y hy => by simp at hy; subst hy; exact HPOK.out.1
            have bL : Below w5.heap.size w5 (w5.alloc (.cells #[.int .u8 (p.byte : Nat)] 5)) := (Below.refl _ _).alloc (Nat.le_refl _) _
            have oL := Lv.build_ yK w5 [p.byte] hok1 (by simp [maxLen]) 1 rfl _ rfl _ rfl
            clear hok1
            have dkeep2 := dpb_5
            have b6 := bL
            have HB6 := Lib.hid (HB5.out.trans (b6.mono HB5.out.size))
            have Fv_6 := Lib.hid ((Fv_5.out.below_ b6 (Nat.le_refl _)).mono_ b6.size)
            have Fbox_6 := Lib.hid ((Fbox_5.out.below_ b6 (Nat.le_refl _)).mono_ b6.size)
            have Fb_6 := Lib.hid ((Fb_5.out.below_ b6 (Nat.le_refl _)).mono_ b6.size)
            have Fp_6 := Lib.hid ((Fp_5.out.below_ b6 (Nat.le_refl _)).mono_ b6.size)
            have dbox_6 := Fbox_6.out.2
            have dp_6 := Fp_6.out.2 0 _ rfl
            have dpb_6 := Fp_6.out.2 1 _ rfl
            have dpc_6 := Fp_6.out.2 2 _ rfl
            have dpd_6 := Fp_6.out.2 3 _ rfl
            clear b6 HB5 Fv_5 Fbox_5 Fb_5 Fp_5 dbox_5 dp_5 dpb_5 dpc_5 dpd_5
            have Flit_6 := Lib.hid (oL.mono_ (show w5.heap.size + 1 ≤ (w5.alloc (.cells #[.int .u8 (p.byte : Nat)] 5)).heap.size by simp))
            clear bL oL
            have C7 := Lib.hid (octs_lv _ _ _ _ _ _ (w5.alloc (.cells #[.int .u8 (p.byte : Nat)] 5)) Fb_6.out Flit_6.out)
            rw [HXB.out] at C7
            go_wp2_with (fail)
            refine (C7.out).mono ?_
            rintro e w7 ⟨rfl, b7⟩
            have HB7 := Lib.hid (HB6.out.trans (b7.mono HB6.out.size))
            have Fv_7 := Lib.hid ((Fv_6.out.below_ b7 (Nat.le_refl _)).mono_ b7.size)
            have Fbox_7 := Lib.hid ((Fbox_6.out.below_ b7 (Nat.le_refl _)).mono_ b7.size)
            have Fb_7 := Lib.hid ((Fb_6.out.below_ b7 (Nat.le_refl _)).mono_ b7.size)
            have Fp_7 := Lib.hid ((Fp_6.out.below_ b7 (Nat.le_refl _)).mono_ b7.size)
            have Flit_7 := Lib.hid ((Flit_6.out.below_ b7 (Nat.le_refl _)).mono_ b7.size)
            have dbox_7 := Fbox_7.out.2
            have dp_7 := Fp_7.out.2 0 _ rfl
            have dpb_7 := Fp_7.out.2 1 _ rfl
            have dpc_7 := Fp_7.out.2 2 _ rfl
            have dpd_7 := Fp_7.out.2 3 _ rfl
            clear C7 b7 HB6 Fv_6 Fbox_6 Fb_6 Fp_6 Flit_6 dbox_6 dp_6 dpb_6 dpc_6 dpd_6
            clear Fb_7
            clear Flit_7
            clear Fv_7
            have C8 := Lib.hid (works_voc w7)
            go_wp2_with (fail)
            refine (C8.out).mono ?_
            rintro e w8 ⟨rfl, b8⟩
            have HB8 := Lib.hid (HB7.out.trans (b8.mono HB7.out.size))
            have Fbox_8 := Lib.hid ((Fbox_7.out.below_ b8 (Nat.le_refl _)).mono_ b8.size)
            have Fp_8 := Lib.hid ((Fp_7.out.below_ b8 (Nat.le_refl _)).mono_ b8.size)
            have dbox_8 := Fbox_8.out.2
            have dp_8 := Fp_8.out.2 0 _ rfl
            have dpb_8 := Fp_8.out.2 1 _ rfl
            have dpc_8 := Fp_8.out.2 2 _ rfl
            have dpd_8 := Fp_8.out.2 3 _ rfl
            clear C8 b8 HB7 Fbox_7 Fp_7 dbox_7 dp_7 dpb_7 dpc_7 dpd_7
            go_wp2
            go_ret
            exact ⟨rfl, HB8.out⟩
          · skip
            have hs1 : ¬ a2 < 0 := by omega
            have hs2 : (l0.length : Int) < a2 := hs
            clear hs
            obtain ⟨W, hW⟩ : ∃ X, w.alloc (.cells #[v0] 24) = X := ⟨_, rfl⟩
            obtain ⟨db, hsz, hbb⟩ := boxed hW
            have HB0 := Lib.hid hbb
            have Fv_0 := Lib.hid ((h0.below_ hbb (Nat.le_refl _)).mono_ hbb.size)
            have Fbox_0 : Hid (BoxAt W W.heap.size w.heap.size v0) := ⟨by omega, db⟩
            obtain ⟨A, c, rfl, hc1, hc2, _, _⟩ := h0
            have hl0 : l0.length ≤ 9223372036854775807 := by simp only [maxLen] at hc2; omega
            have dbox_0 := Fbox_0.out.2
            clear hc1 hc2 hbb hsz db
            go_enter Try.func8, Try.ntmps8
            have C1 := Lib.hid (many_any l0 _ _ W Fv_0.out)
            rw [HM.out] at C1
            go_wp2_with (fail)
            refine (C1.out).mono ?_
            rintro e w1 ⟨rfl, b1⟩
            have HB1 := Lib.hid (HB0.out.trans (b1.mono HB0.out.size))
            have Fv_1 := Lib.hid ((Fv_0.out.below_ b1 (Nat.le_refl _)).mono_ b1.size)
            have Fbox_1 := Lib.hid ((Fbox_0.out.below_ b1 (Nat.le_refl _)).mono_ b1.size)
            have dbox_1 := Fbox_1.out.2
            clear C1 b1 HB0 Fv_0 Fbox_0 dbox_0
            have C2 := Lib.hid (pcheck_any l0 _ _ w1 Fv_1.out (Nat.le_refl _))
            rw [HC.out] at C2
            go_wp2_with (fail)
            refine (C2.out).mono ?_
            rintro e w2 ⟨rfl, b2⟩
            have HB2 := Lib.hid (HB1.out.trans (b2.mono HB1.out.size))
            have Fv_2 := Lib.hid ((Fv_1.out.below_ b2 (Nat.le_refl _)).mono_ b2.size)
            have Fbox_2 := Lib.hid ((Fbox_1.out.below_ b2 (Nat.le_refl _)).mono_ b2.size)
            have dbox_2 := Fbox_2.out.2
            clear C2 b2 HB1 Fv_1 Fbox_1 dbox_1
            have C3 := Lib.hid (pexpand_any l0 _ t _ w2 Fv_2.out (Nat.le_refl _) HI.out HP.out)
            rw [HX.out] at C3
            go_wp2_with (fail)
            refine (C3.out).mono ?_
            rintro e w3 ⟨A3, c3, rfl, o3, b3⟩
            have HB3 := Lib.hid (HB2.out.trans (b3.mono HB2.out.size))
            have Fv_3 := Lib.hid ((Fv_2.out.below_ b3 (Nat.le_refl _)).mono_ b3.size)
            have Fbox_3 := Lib.hid ((Fbox_2.out.below_ b3 (Nat.le_refl _)).mono_ b3.size)
            have dbox_3 := Fbox_3.out.2
            have Fb_3 := Lib.hid (o3.form_)
            clear C3 b3 HB2 Fv_2 Fbox_2 dbox_2 o3
            obtain ⟨pb, po, p', e, hbp, hpok, hq, c0, c1, c2, c3, c4⟩ := Fv_3.out.piece_ HT.out
            rw [HPP.out] at hq
            obtain rfl := Option.some.inj hq
            subst e
            have hpbl : pb < w3.heap.size := hbp
            obtain ⟨Z, hZ⟩ : ∃ X, w3.alloc (.cells #[.bool p.join, .int .u8 (p.byte : Nat), .int .i64 p.left, .int .i64 p.right, .int .u32 (p.rank : Nat)] 33) = X := ⟨_, rfl⟩
            obtain ⟨pz, bZ⟩ := pboxed hZ
            have HPOK := Lib.hid hpok
            rw [hj] at hZ
            clear hpok
            have dkeep := dbox_3
            have b4 := bZ
            have HB4 := Lib.hid (HB3.out.trans (b4.mono HB3.out.size))
            have Fv_4 := Lib.hid ((Fv_3.out.below_ b4 (Nat.le_refl _)).mono_ b4.size)
            have Fbox_4 := Lib.hid ((Fbox_3.out.below_ b4 (Nat.le_refl _)).mono_ b4.size)
            have Fb_4 := Lib.hid ((Fb_3.out.below_ b4 (Nat.le_refl _)).mono_ b4.size)
            have dbox_4 := Fbox_4.out.2
            clear b4 HB3 Fv_3 Fbox_3 Fb_3 dbox_3
            have Fp_4 := Lib.hid pz
            clear bZ pz
            have dp_4 := Fp_4.out.2 0 _ rfl
            have dpb_4 := Fp_4.out.2 1 _ rfl
            have dpc_4 := Fp_4.out.2 2 _ rfl
            have dpd_4 := Fp_4.out.2 3 _ rfl
            have C5 := Lib.hid (pbyte_any l0 _ p.byte _ Z Fv_4.out (Nat.le_refl _) HPOK.out.1 HP.out)
            rw [HFB.out] at C5
            go_wp2_with (fail)
            refine (C5.out).mono ?_
            rintro e w5 ⟨rfl, b5⟩
            have HB5 := Lib.hid (HB4.out.trans (b5.mono HB4.out.size))
            have Fv_5 := Lib.hid ((Fv_4.out.below_ b5 (Nat.le_refl _)).mono_ b5.size)
            have Fbox_5 := Lib.hid ((Fbox_4.out.below_ b5 (Nat.le_refl _)).mono_ b5.size)
            have Fb_5 := Lib.hid ((Fb_4.out.below_ b5 (Nat.le_refl _)).mono_ b5.size)
            have Fp_5 := Lib.hid ((Fp_4.out.below_ b5 (Nat.le_refl _)).mono_ b5.size)
            have dbox_5 := Fbox_5.out.2
            have dp_5 := Fp_5.out.2 0 _ rfl
            have dpb_5 := Fp_5.out.2 1 _ rfl
            have dpc_5 := Fp_5.out.2 2 _ rfl
            have dpd_5 := Fp_5.out.2 3 _ rfl
            clear C5 b5 HB4 Fv_4 Fbox_4 Fb_4 Fp_4 dbox_4 dp_4 dpb_4 dpc_4 dpd_4
            have hok1 : ∀ y ∈ [p.byte], yK.ok y := fun y hy => by simp at hy; subst hy; exact HPOK.out.1
            have bL : Below w5.heap.size w5 (w5.alloc (.cells #[.int .u8 (p.byte : Nat)] 5)) := (Below.refl _ _).alloc (Nat.le_refl _) _
            have oL := Lv.build_ yK w5 [p.byte] hok1 (by simp [maxLen]) 1 rfl _ rfl _ rfl
            clear hok1
            have dkeep2 := dpb_5
            have b6 := bL
            have HB6 := Lib.hid (HB5.out.trans (b6.mono HB5.out.size))
            have Fv_6 := Lib.hid ((Fv_5.out.below_ b6 (Nat.le_refl _)).mono_ b6.size)
            have Fbox_6 := Lib.hid ((Fbox_5.out.below_ b6 (Nat.le_refl _)).mono_ b6.size)
            have Fb_6 := Lib.hid ((Fb_5.out.below_ b6 (Nat.le_refl _)).mono_ b6.size)
            have Fp_6 := Lib.hid ((Fp_5.out.below_ b6 (Nat.le_refl _)).mono_ b6.size)
            have dbox_6 := Fbox_6.out.2
            have dp_6 := Fp_6.out.2 0 _ rfl
            have dpb_6 := Fp_6.out.2 1 _ rfl
            have dpc_6 := Fp_6.out.2 2 _ rfl
            have dpd_6 := Fp_6.out.2 3 _ rfl
            clear b6 HB5 Fv_5 Fbox_5 Fb_5 Fp_5 dbox_5 dp_5 dpb_5 dpc_5 dpd_5
            have Flit_6 := Lib.hid (oL.mono_ (show w5.heap.size + 1 ≤ (w5.alloc (.cells #[.int .u8 (p.byte : Nat)] 5)).heap.size by simp))
            clear bL oL
            have C7 := Lib.hid (octs_lv _ _ _ _ _ _ (w5.alloc (.cells #[.int .u8 (p.byte : Nat)] 5)) Fb_6.out Flit_6.out)
            rw [HXB.out] at C7
            go_wp2_with (fail)
            refine (C7.out).mono ?_
            rintro e w7 ⟨rfl, b7⟩
            have HB7 := Lib.hid (HB6.out.trans (b7.mono HB6.out.size))
            have Fv_7 := Lib.hid ((Fv_6.out.below_ b7 (Nat.le_refl _)).mono_ b7.size)
            have Fbox_7 := Lib.hid ((Fbox_6.out.below_ b7 (Nat.le_refl _)).mono_ b7.size)
            have Fb_7 := Lib.hid ((Fb_6.out.below_ b7 (Nat.le_refl _)).mono_ b7.size)
            have Fp_7 := Lib.hid ((Fp_6.out.below_ b7 (Nat.le_refl _)).mono_ b7.size)
            have Flit_7 := Lib.hid ((Flit_6.out.below_ b7 (Nat.le_refl _)).mono_ b7.size)
            have dbox_7 := Fbox_7.out.2
            have dp_7 := Fp_7.out.2 0 _ rfl
            have dpb_7 := Fp_7.out.2 1 _ rfl
            have dpc_7 := Fp_7.out.2 2 _ rfl
            have dpd_7 := Fp_7.out.2 3 _ rfl
            clear C7 b7 HB6 Fv_6 Fbox_6 Fb_6 Fp_6 Flit_6 dbox_6 dp_6 dpb_6 dpc_6 dpd_6
            clear Fb_7
            clear Flit_7
            clear Fv_7
            have C8 := Lib.hid (works_voc w7)
            go_wp2_with (fail)
            refine (C8.out).mono ?_
            rintro e w8 ⟨rfl, b8⟩
            have HB8 := Lib.hid (HB7.out.trans (b8.mono HB7.out.size))
            have Fbox_8 := Lib.hid ((Fbox_7.out.below_ b8 (Nat.le_refl _)).mono_ b8.size)
            have Fp_8 := Lib.hid ((Fp_7.out.below_ b8 (Nat.le_refl _)).mono_ b8.size)
            have dbox_8 := Fbox_8.out.2
            have dp_8 := Fp_8.out.2 0 _ rfl
            have dpb_8 := Fp_8.out.2 1 _ rfl
            have dpc_8 := Fp_8.out.2 2 _ rfl
            have dpd_8 := Fp_8.out.2 3 _ rfl
            clear C8 b8 HB7 Fbox_7 Fp_7 dbox_7 dp_7 dpb_7 dpc_7 dpd_7
            go_wp2
            go_ret
            exact ⟨rfl, HB8.out⟩
          · skip
            obtain ⟨S, rfl⟩ := Int.eq_ofNat_of_zero_le hs.1
            have HS : Hid (S ≤ l0.length) := by unfold Hid; omega
            have hs2 : ¬ (l0.length : Int) < (S : Int) := by omega
            clear hs
            rcases Vo.check_first HMAY.out HS.out with hf | hf
            · skip
              have HF := Lib.hid hf
              clear hf
              obtain ⟨W, hW⟩ : ∃ X, w.alloc (.cells #[v0] 24) = X := ⟨_, rfl⟩
              obtain ⟨db, hsz, hbb⟩ := boxed hW
              have HB0 := Lib.hid hbb
              have Fv_0 := Lib.hid ((h0.below_ hbb (Nat.le_refl _)).mono_ hbb.size)
              have Fbox_0 : Hid (BoxAt W W.heap.size w.heap.size v0) := ⟨by omega, db⟩
              obtain ⟨A, c, rfl, hc1, hc2, _, _⟩ := h0
              have hl0 : l0.length ≤ 9223372036854775807 := by simp only [maxLen] at hc2; omega
              have dbox_0 := Fbox_0.out.2
              clear hc1 hc2 hbb hsz db
              go_enter Try.func8, Try.ntmps8
              have C1 := Lib.hid (many_any l0 _ _ W Fv_0.out)
              rw [HM.out] at C1
              go_wp2_with (fail)
              refine (C1.out).mono ?_
              rintro e w1 ⟨rfl, b1⟩
              have HB1 := Lib.hid (HB0.out.trans (b1.mono HB0.out.size))
              have Fv_1 := Lib.hid ((Fv_0.out.below_ b1 (Nat.le_refl _)).mono_ b1.size)
              have Fbox_1 := Lib.hid ((Fbox_0.out.below_ b1 (Nat.le_refl _)).mono_ b1.size)
              have dbox_1 := Fbox_1.out.2
              clear C1 b1 HB0 Fv_0 Fbox_0 dbox_0
              have C2 := Lib.hid (pcheck_any l0 _ _ w1 Fv_1.out (Nat.le_refl _))
              rw [HC.out] at C2
              go_wp2_with (fail)
              refine (C2.out).mono ?_
              rintro e w2 ⟨rfl, b2⟩
              have HB2 := Lib.hid (HB1.out.trans (b2.mono HB1.out.size))
              have Fv_2 := Lib.hid ((Fv_1.out.below_ b2 (Nat.le_refl _)).mono_ b2.size)
              have Fbox_2 := Lib.hid ((Fbox_1.out.below_ b2 (Nat.le_refl _)).mono_ b2.size)
              have dbox_2 := Fbox_2.out.2
              clear C2 b2 HB1 Fv_1 Fbox_1 dbox_1
              have C3 := Lib.hid (pexpand_any l0 _ t _ w2 Fv_2.out (Nat.le_refl _) HI.out HP.out)
              rw [HX.out] at C3
              go_wp2_with (fail)
              refine (C3.out).mono ?_
              rintro e w3 ⟨A3, c3, rfl, o3, b3⟩
              have HB3 := Lib.hid (HB2.out.trans (b3.mono HB2.out.size))
              have Fv_3 := Lib.hid ((Fv_2.out.below_ b3 (Nat.le_refl _)).mono_ b3.size)
              have Fbox_3 := Lib.hid ((Fbox_2.out.below_ b3 (Nat.le_refl _)).mono_ b3.size)
              have dbox_3 := Fbox_3.out.2
              have Fb_3 := Lib.hid (o3.form_)
              clear C3 b3 HB2 Fv_2 Fbox_2 dbox_2 o3
              obtain ⟨pb, po, p', e, hbp, hpok, hq, c0, c1, c2, c3, c4⟩ := Fv_3.out.piece_ HT.out
              rw [HPP.out] at hq
              obtain rfl := Option.some.inj hq
              subst e
              have hpbl : pb < w3.heap.size := hbp
              obtain ⟨Z, hZ⟩ : ∃ X, w3.alloc (.cells #[.bool p.join, .int .u8 (p.byte : Nat), .int .i64 p.left, .int .i64 p.right, .int .u32 (p.rank : Nat)] 33) = X := ⟨_, rfl⟩
              obtain ⟨pz, bZ⟩ := pboxed hZ
              have HPOK := Lib.hid hpok
              rw [hj] at hZ
              clear hpok
              have dkeep := dbox_3
              have b4 := bZ
              have HB4 := Lib.hid (HB3.out.trans (b4.mono HB3.out.size))
              have Fv_4 := Lib.hid ((Fv_3.out.below_ b4 (Nat.le_refl _)).mono_ b4.size)
              have Fbox_4 := Lib.hid ((Fbox_3.out.below_ b4 (Nat.le_refl _)).mono_ b4.size)
              have Fb_4 := Lib.hid ((Fb_3.out.below_ b4 (Nat.le_refl _)).mono_ b4.size)
              have dbox_4 := Fbox_4.out.2
              clear b4 HB3 Fv_3 Fbox_3 Fb_3 dbox_3
              have Fp_4 := Lib.hid pz
              clear bZ pz
              have dp_4 := Fp_4.out.2 0 _ rfl
              have dpb_4 := Fp_4.out.2 1 _ rfl
              have dpc_4 := Fp_4.out.2 2 _ rfl
              have dpd_4 := Fp_4.out.2 3 _ rfl
              have C5 := Lib.hid (pbyte_any l0 _ p.byte _ Z Fv_4.out (Nat.le_refl _) HPOK.out.1 HP.out)
              rw [HFB.out] at C5
              go_wp2_with (fail)
              refine (C5.out).mono ?_
              rintro e w5 ⟨rfl, b5⟩
              have HB5 := Lib.hid (HB4.out.trans (b5.mono HB4.out.size))
              have Fv_5 := Lib.hid ((Fv_4.out.below_ b5 (Nat.le_refl _)).mono_ b5.size)
              have Fbox_5 := Lib.hid ((Fbox_4.out.below_ b5 (Nat.le_refl _)).mono_ b5.size)
              have Fb_5 := Lib.hid ((Fb_4.out.below_ b5 (Nat.le_refl _)).mono_ b5.size)
              have Fp_5 := Lib.hid ((Fp_4.out.below_ b5 (Nat.le_refl _)).mono_ b5.size)
              have dbox_5 := Fbox_5.out.2
              have dp_5 := Fp_5.out.2 0 _ rfl
              have dpb_5 := Fp_5.out.2 1 _ rfl
              have dpc_5 := Fp_5.out.2 2 _ rfl
              have dpd_5 := Fp_5.out.2 3 _ rfl
              clear C5 b5 HB4 Fv_4 Fbox_4 Fb_4 Fp_4 dbox_4 dp_4 dpb_4 dpc_4 dpd_4
              have hok1 : ∀ y ∈ [p.byte], yK.ok y := fun y hy => by simp at hy; subst hy; exact HPOK.out.1
              have bL : Below w5.heap.size w5 (w5.alloc (.cells #[.int .u8 (p.byte : Nat)] 5)) := (Below.refl _ _).alloc (Nat.le_refl _) _
              have oL := Lv.build_ yK w5 [p.byte] hok1 (by simp [maxLen]) 1 rfl _ rfl _ rfl
              clear hok1
              have dkeep2 := dpb_5
              have b6 := bL
              have HB6 := Lib.hid (HB5.out.trans (b6.mono HB5.out.size))
              have Fv_6 := Lib.hid ((Fv_5.out.below_ b6 (Nat.le_refl _)).mono_ b6.size)
              have Fbox_6 := Lib.hid ((Fbox_5.out.below_ b6 (Nat.le_refl _)).mono_ b6.size)
              have Fb_6 := Lib.hid ((Fb_5.out.below_ b6 (Nat.le_refl _)).mono_ b6.size)
              have Fp_6 := Lib.hid ((Fp_5.out.below_ b6 (Nat.le_refl _)).mono_ b6.size)
              have dbox_6 := Fbox_6.out.2
              have dp_6 := Fp_6.out.2 0 _ rfl
              have dpb_6 := Fp_6.out.2 1 _ rfl
              have dpc_6 := Fp_6.out.2 2 _ rfl
              have dpd_6 := Fp_6.out.2 3 _ rfl
              clear b6 HB5 Fv_5 Fbox_5 Fb_5 Fp_5 dbox_5 dp_5 dpb_5 dpc_5 dpd_5
              have Flit_6 := Lib.hid (oL.mono_ (show w5.heap.size + 1 ≤ (w5.alloc (.cells #[.int .u8 (p.byte : Nat)] 5)).heap.size by simp))
              clear bL oL
              have C7 := Lib.hid (octs_lv _ _ _ _ _ _ (w5.alloc (.cells #[.int .u8 (p.byte : Nat)] 5)) Fb_6.out Flit_6.out)
              rw [HXB.out] at C7
              go_wp2_with (fail)
              refine (C7.out).mono ?_
              rintro e w7 ⟨rfl, b7⟩
              have HB7 := Lib.hid (HB6.out.trans (b7.mono HB6.out.size))
              have Fv_7 := Lib.hid ((Fv_6.out.below_ b7 (Nat.le_refl _)).mono_ b7.size)
              have Fbox_7 := Lib.hid ((Fbox_6.out.below_ b7 (Nat.le_refl _)).mono_ b7.size)
              have Fb_7 := Lib.hid ((Fb_6.out.below_ b7 (Nat.le_refl _)).mono_ b7.size)
              have Fp_7 := Lib.hid ((Fp_6.out.below_ b7 (Nat.le_refl _)).mono_ b7.size)
              have Flit_7 := Lib.hid ((Flit_6.out.below_ b7 (Nat.le_refl _)).mono_ b7.size)
              have dbox_7 := Fbox_7.out.2
              have dp_7 := Fp_7.out.2 0 _ rfl
              have dpb_7 := Fp_7.out.2 1 _ rfl
              have dpc_7 := Fp_7.out.2 2 _ rfl
              have dpd_7 := Fp_7.out.2 3 _ rfl
              clear C7 b7 HB6 Fv_6 Fbox_6 Fb_6 Fp_6 Flit_6 dbox_6 dp_6 dpb_6 dpc_6 dpd_6
              clear Fb_7
              clear Flit_7
              have C8 := Lib.hid (copyvoc_any l0 _ _ w7 Fv_7.out (Nat.le_refl _) HP2.out)
              go_wp2_with (fail)
              refine (C8.out).mono ?_
              rintro e w8 ⟨A8, c8, rfl, o8, b8⟩
              have HB8 := Lib.hid (HB7.out.trans (b8.mono HB7.out.size))
              have Fv_8 := Lib.hid ((Fv_7.out.below_ b8 (Nat.le_refl _)).mono_ b8.size)
              have Fbox_8 := Lib.hid ((Fbox_7.out.below_ b8 (Nat.le_refl _)).mono_ b8.size)
              have Fp_8 := Lib.hid ((Fp_7.out.below_ b8 (Nat.le_refl _)).mono_ b8.size)
              have dbox_8 := Fbox_8.out.2
              have dp_8 := Fp_8.out.2 0 _ rfl
              have dpb_8 := Fp_8.out.2 1 _ rfl
              have dpc_8 := Fp_8.out.2 2 _ rfl
              have dpd_8 := Fp_8.out.2 3 _ rfl
              have Fown_8 := Lib.hid (o8.form_)
              clear C8 b8 HB7 Fv_7 Fbox_7 Fp_7 dbox_7 dp_7 dpb_7 dpc_7 dpd_7 o8
              have hfld := fun w => pieces_field (.slice A8 l0.length c8) w
              have hcut := fun w => cut_to pK (by kernel_rfl) A8 l0.length c8 S (Nat.le_trans HS.out (Fown_8.out.len_.2.1)) w
              have hcutA := fun w => cutAt_to pK (by kernel_rfl) A8 l0.length c8 S (Nat.le_trans HS.out (Fown_8.out.len_.2.1)) w
              change ∀ w, (Instr.slice 22 (.slice A8 l0.length c8) none (some (.int .i64 (S : Nat))) none).run Try.prog w = _ at hcut
              change ∀ w, (Instr.sliceAt 22 (.slice A8 l0.length c8) none (some (.int .i64 (S : Nat))) none).run Try.prog w = _ at hcutA
              have Ffirst_8 := Lib.hid (Fown_8.out.take_ HS.out)
              clear Fown_8
              obtain ⟨Y8, hY8⟩ : ∃ X, w8.alloc (.cells #[.slice A8 S c8] 24) = X := ⟨_, rfl⟩
              obtain ⟨db8, hsz8, hbb8⟩ := boxed hY8
              have b9 := hbb8
              have HB9 := Lib.hid (HB8.out.trans (b9.mono HB8.out.size))
              have Fv_9 := Lib.hid ((Fv_8.out.below_ b9 (Nat.le_refl _)).mono_ b9.size)
              have Fbox_9 := Lib.hid ((Fbox_8.out.below_ b9 (Nat.le_refl _)).mono_ b9.size)
              have Fp_9 := Lib.hid ((Fp_8.out.below_ b9 (Nat.le_refl _)).mono_ b9.size)
              have Ffirst_9 := Lib.hid ((Ffirst_8.out.below_ b9 (Nat.le_refl _)).mono_ b9.size)
              have dbox_9 := Fbox_9.out.2
              have dp_9 := Fp_9.out.2 0 _ rfl
              have dpb_9 := Fp_9.out.2 1 _ rfl
              have dpc_9 := Fp_9.out.2 2 _ rfl
              have dpd_9 := Fp_9.out.2 3 _ rfl
              clear b9 HB8 Fv_8 Fbox_8 Fp_8 Ffirst_8 dbox_8 dp_8 dpb_8 dpc_8 dpd_8
              have Fb2_9 : Hid (BoxAt Y8 Y8.heap.size w8.heap.size (.slice A8 S c8)) := ⟨by omega, db8⟩
              have db2_9 := Fb2_9.out.2
              clear hbb8 hsz8 db8
              have C10 := Lib.hid (pcheck_any _ _ _ Y8 Ffirst_9.out (Nat.le_refl _))
              rw [HF.out] at C10
              go_wp2_with (fail)
              refine (C10.out).mono ?_
              rintro e w10 ⟨rfl, b10⟩
              have HB10 := Lib.hid (HB9.out.trans (b10.mono HB9.out.size))
              have Fv_10 := Lib.hid ((Fv_9.out.below_ b10 (Nat.le_refl _)).mono_ b10.size)
              have Fbox_10 := Lib.hid ((Fbox_9.out.below_ b10 (Nat.le_refl _)).mono_ b10.size)
              have Fp_10 := Lib.hid ((Fp_9.out.below_ b10 (Nat.le_refl _)).mono_ b10.size)
              have Ffirst_10 := Lib.hid ((Ffirst_9.out.below_ b10 (Nat.le_refl _)).mono_ b10.size)
              have Fb2_10 := Lib.hid ((Fb2_9.out.below_ b10 (Nat.le_refl _)).mono_ b10.size)
              have dbox_10 := Fbox_10.out.2
              have dp_10 := Fp_10.out.2 0 _ rfl
              have dpb_10 := Fp_10.out.2 1 _ rfl
              have dpc_10 := Fp_10.out.2 2 _ rfl
              have dpd_10 := Fp_10.out.2 3 _ rfl
              have db2_10 := Fb2_10.out.2
              clear C10 b10 HB9 Fv_9 Fbox_9 Fp_9 Ffirst_9 Fb2_9 dbox_9 dp_9 dpb_9 dpc_9 dpd_9 db2_9
              clear Fv_10
              clear Ffirst_10
              have C11 := Lib.hid (works_voc w10)
              go_wp2_with (fail)
              refine (C11.out).mono ?_
              rintro e w11 ⟨rfl, b11⟩
              have HB11 := Lib.hid (HB10.out.trans (b11.mono HB10.out.size))
              have Fbox_11 := Lib.hid ((Fbox_10.out.below_ b11 (Nat.le_refl _)).mono_ b11.size)
              have Fp_11 := Lib.hid ((Fp_10.out.below_ b11 (Nat.le_refl _)).mono_ b11.size)
              have Fb2_11 := Lib.hid ((Fb2_10.out.below_ b11 (Nat.le_refl _)).mono_ b11.size)
              have dbox_11 := Fbox_11.out.2
              have dp_11 := Fp_11.out.2 0 _ rfl
              have dpb_11 := Fp_11.out.2 1 _ rfl
              have dpc_11 := Fp_11.out.2 2 _ rfl
              have dpd_11 := Fp_11.out.2 3 _ rfl
              have db2_11 := Fb2_11.out.2
              clear C11 b11 HB10 Fbox_10 Fp_10 Fb2_10 dbox_10 dp_10 dpb_10 dpc_10 dpd_10 db2_10
              go_wp2
              go_ret
              exact ⟨rfl, HB11.out⟩
            · skip
              have HF := Lib.hid hf
              clear hf
              obtain ⟨W, hW⟩ : ∃ X, w.alloc (.cells #[v0] 24) = X := ⟨_, rfl⟩
              obtain ⟨db, hsz, hbb⟩ := boxed hW
              have HB0 := Lib.hid hbb
              have Fv_0 := Lib.hid ((h0.below_ hbb (Nat.le_refl _)).mono_ hbb.size)
              have Fbox_0 : Hid (BoxAt W W.heap.size w.heap.size v0) := ⟨by omega, db⟩
              obtain ⟨A, c, rfl, hc1, hc2, _, _⟩ := h0
              have hl0 : l0.length ≤ 9223372036854775807 := by simp only [maxLen] at hc2; omega
              have dbox_0 := Fbox_0.out.2
              clear hc1 hc2 hbb hsz db
              go_enter Try.func8, Try.ntmps8
              have C1 := Lib.hid (many_any l0 _ _ W Fv_0.out)
              rw [HM.out] at C1
              go_wp2_with (fail)
              refine (C1.out).mono ?_
              rintro e w1 ⟨rfl, b1⟩
              have HB1 := Lib.hid (HB0.out.trans (b1.mono HB0.out.size))
              have Fv_1 := Lib.hid ((Fv_0.out.below_ b1 (Nat.le_refl _)).mono_ b1.size)
              have Fbox_1 := Lib.hid ((Fbox_0.out.below_ b1 (Nat.le_refl _)).mono_ b1.size)
              have dbox_1 := Fbox_1.out.2
              clear C1 b1 HB0 Fv_0 Fbox_0 dbox_0
              have C2 := Lib.hid (pcheck_any l0 _ _ w1 Fv_1.out (Nat.le_refl _))
              rw [HC.out] at C2
              go_wp2_with (fail)
              refine (C2.out).mono ?_
              rintro e w2 ⟨rfl, b2⟩
              have HB2 := Lib.hid (HB1.out.trans (b2.mono HB1.out.size))
              have Fv_2 := Lib.hid ((Fv_1.out.below_ b2 (Nat.le_refl _)).mono_ b2.size)
              have Fbox_2 := Lib.hid ((Fbox_1.out.below_ b2 (Nat.le_refl _)).mono_ b2.size)
              have dbox_2 := Fbox_2.out.2
              clear C2 b2 HB1 Fv_1 Fbox_1 dbox_1
              have C3 := Lib.hid (pexpand_any l0 _ t _ w2 Fv_2.out (Nat.le_refl _) HI.out HP.out)
              rw [HX.out] at C3
              go_wp2_with (fail)
              refine (C3.out).mono ?_
              rintro e w3 ⟨A3, c3, rfl, o3, b3⟩
              have HB3 := Lib.hid (HB2.out.trans (b3.mono HB2.out.size))
              have Fv_3 := Lib.hid ((Fv_2.out.below_ b3 (Nat.le_refl _)).mono_ b3.size)
              have Fbox_3 := Lib.hid ((Fbox_2.out.below_ b3 (Nat.le_refl _)).mono_ b3.size)
              have dbox_3 := Fbox_3.out.2
              have Fb_3 := Lib.hid (o3.form_)
              clear C3 b3 HB2 Fv_2 Fbox_2 dbox_2 o3
              obtain ⟨pb, po, p', e, hbp, hpok, hq, c0, c1, c2, c3, c4⟩ := Fv_3.out.piece_ HT.out
              rw [HPP.out] at hq
              obtain rfl := Option.some.inj hq
              subst e
              have hpbl : pb < w3.heap.size := hbp
              obtain ⟨Z, hZ⟩ : ∃ X, w3.alloc (.cells #[.bool p.join, .int .u8 (p.byte : Nat), .int .i64 p.left, .int .i64 p.right, .int .u32 (p.rank : Nat)] 33) = X := ⟨_, rfl⟩
              obtain ⟨pz, bZ⟩ := pboxed hZ
              have HPOK := Lib.hid hpok
              rw [hj] at hZ
              clear hpok
              have dkeep := dbox_3
              have b4 := bZ
              have HB4 := Lib.hid (HB3.out.trans (b4.mono HB3.out.size))
              have Fv_4 := Lib.hid ((Fv_3.out.below_ b4 (Nat.le_refl _)).mono_ b4.size)
              have Fbox_4 := Lib.hid ((Fbox_3.out.below_ b4 (Nat.le_refl _)).mono_ b4.size)
              have Fb_4 := Lib.hid ((Fb_3.out.below_ b4 (Nat.le_refl _)).mono_ b4.size)
              have dbox_4 := Fbox_4.out.2
              clear b4 HB3 Fv_3 Fbox_3 Fb_3 dbox_3
              have Fp_4 := Lib.hid pz
              clear bZ pz
              have dp_4 := Fp_4.out.2 0 _ rfl
              have dpb_4 := Fp_4.out.2 1 _ rfl
              have dpc_4 := Fp_4.out.2 2 _ rfl
              have dpd_4 := Fp_4.out.2 3 _ rfl
              have C5 := Lib.hid (pbyte_any l0 _ p.byte _ Z Fv_4.out (Nat.le_refl _) HPOK.out.1 HP.out)
              rw [HFB.out] at C5
              go_wp2_with (fail)
              refine (C5.out).mono ?_
              rintro e w5 ⟨rfl, b5⟩
              have HB5 := Lib.hid (HB4.out.trans (b5.mono HB4.out.size))
              have Fv_5 := Lib.hid ((Fv_4.out.below_ b5 (Nat.le_refl _)).mono_ b5.size)
              have Fbox_5 := Lib.hid ((Fbox_4.out.below_ b5 (Nat.le_refl _)).mono_ b5.size)
              have Fb_5 := Lib.hid ((Fb_4.out.below_ b5 (Nat.le_refl _)).mono_ b5.size)
              have Fp_5 := Lib.hid ((Fp_4.out.below_ b5 (Nat.le_refl _)).mono_ b5.size)
              have dbox_5 := Fbox_5.out.2
              have dp_5 := Fp_5.out.2 0 _ rfl
              have dpb_5 := Fp_5.out.2 1 _ rfl
              have dpc_5 := Fp_5.out.2 2 _ rfl
              have dpd_5 := Fp_5.out.2 3 _ rfl
              clear C5 b5 HB4 Fv_4 Fbox_4 Fb_4 Fp_4 dbox_4 dp_4 dpb_4 dpc_4 dpd_4
              have hok1 : ∀ y ∈ [p.byte], yK.ok y := fun y hy => by simp at hy; subst hy; exact HPOK.out.1
              have bL : Below w5.heap.size w5 (w5.alloc (.cells #[.int .u8 (p.byte : Nat)] 5)) := (Below.refl _ _).alloc (Nat.le_refl _) _
              have oL := Lv.build_ yK w5 [p.byte] hok1 (by simp [maxLen]) 1 rfl _ rfl _ rfl
              clear hok1
              have dkeep2 := dpb_5
              have b6 := bL
              have HB6 := Lib.hid (HB5.out.trans (b6.mono HB5.out.size))
              have Fv_6 := Lib.hid ((Fv_5.out.below_ b6 (Nat.le_refl _)).mono_ b6.size)
              have Fbox_6 := Lib.hid ((Fbox_5.out.below_ b6 (Nat.le_refl _)).mono_ b6.size)
              have Fb_6 := Lib.hid ((Fb_5.out.below_ b6 (Nat.le_refl _)).mono_ b6.size)
              have Fp_6 := Lib.hid ((Fp_5.out.below_ b6 (Nat.le_refl _)).mono_ b6.size)
              have dbox_6 := Fbox_6.out.2
              have dp_6 := Fp_6.out.2 0 _ rfl
              have dpb_6 := Fp_6.out.2 1 _ rfl
              have dpc_6 := Fp_6.out.2 2 _ rfl
              have dpd_6 := Fp_6.out.2 3 _ rfl
              clear b6 HB5 Fv_5 Fbox_5 Fb_5 Fp_5 dbox_5 dp_5 dpb_5 dpc_5 dpd_5
              have Flit_6 := Lib.hid (oL.mono_ (show w5.heap.size + 1 ≤ (w5.alloc (.cells #[.int .u8 (p.byte : Nat)] 5)).heap.size by simp))
              clear bL oL
              have C7 := Lib.hid (octs_lv _ _ _ _ _ _ (w5.alloc (.cells #[.int .u8 (p.byte : Nat)] 5)) Fb_6.out Flit_6.out)
              rw [HXB.out] at C7
              go_wp2_with (fail)
              refine (C7.out).mono ?_
              rintro e w7 ⟨rfl, b7⟩
              have HB7 := Lib.hid (HB6.out.trans (b7.mono HB6.out.size))
              have Fv_7 := Lib.hid ((Fv_6.out.below_ b7 (Nat.le_refl _)).mono_ b7.size)
              have Fbox_7 := Lib.hid ((Fbox_6.out.below_ b7 (Nat.le_refl _)).mono_ b7.size)
              have Fb_7 := Lib.hid ((Fb_6.out.below_ b7 (Nat.le_refl _)).mono_ b7.size)
              have Fp_7 := Lib.hid ((Fp_6.out.below_ b7 (Nat.le_refl _)).mono_ b7.size)
              have Flit_7 := Lib.hid ((Flit_6.out.below_ b7 (Nat.le_refl _)).mono_ b7.size)
              have dbox_7 := Fbox_7.out.2
              have dp_7 := Fp_7.out.2 0 _ rfl
              have dpb_7 := Fp_7.out.2 1 _ rfl
              have dpc_7 := Fp_7.out.2 2 _ rfl
              have dpd_7 := Fp_7.out.2 3 _ rfl
              clear C7 b7 HB6 Fv_6 Fbox_6 Fb_6 Fp_6 Flit_6 dbox_6 dp_6 dpb_6 dpc_6 dpd_6
              clear Fb_7
              clear Flit_7
              have C8 := Lib.hid (copyvoc_any l0 _ _ w7 Fv_7.out (Nat.le_refl _) HP2.out)
              go_wp2_with (fail)
              refine (C8.out).mono ?_
              rintro e w8 ⟨A8, c8, rfl, o8, b8⟩
              have HB8 := Lib.hid (HB7.out.trans (b8.mono HB7.out.size))
              have Fv_8 := Lib.hid ((Fv_7.out.below_ b8 (Nat.le_refl _)).mono_ b8.size)
              have Fbox_8 := Lib.hid ((Fbox_7.out.below_ b8 (Nat.le_refl _)).mono_ b8.size)
              have Fp_8 := Lib.hid ((Fp_7.out.below_ b8 (Nat.le_refl _)).mono_ b8.size)
              have dbox_8 := Fbox_8.out.2
              have dp_8 := Fp_8.out.2 0 _ rfl
              have dpb_8 := Fp_8.out.2 1 _ rfl
              have dpc_8 := Fp_8.out.2 2 _ rfl
              have dpd_8 := Fp_8.out.2 3 _ rfl
              have Fown_8 := Lib.hid (o8.form_)
              clear C8 b8 HB7 Fv_7 Fbox_7 Fp_7 dbox_7 dp_7 dpb_7 dpc_7 dpd_7 o8
              have hfld := fun w => pieces_field (.slice A8 l0.length c8) w
              have hcut := fun w => cut_to pK (by kernel_rfl) A8 l0.length c8 S (Nat.le_trans HS.out (Fown_8.out.len_.2.1)) w
              have hcutA := fun w => cutAt_to pK (by kernel_rfl) A8 l0.length c8 S (Nat.le_trans HS.out (Fown_8.out.len_.2.1)) w
              change ∀ w, (Instr.slice 22 (.slice A8 l0.length c8) none (some (.int .i64 (S : Nat))) none).run Try.prog w = _ at hcut
              change ∀ w, (Instr.sliceAt 22 (.slice A8 l0.length c8) none (some (.int .i64 (S : Nat))) none).run Try.prog w = _ at hcutA
              have Ffirst_8 := Lib.hid (Fown_8.out.take_ HS.out)
              clear Fown_8
              obtain ⟨Y8, hY8⟩ : ∃ X, w8.alloc (.cells #[.slice A8 S c8] 24) = X := ⟨_, rfl⟩
              obtain ⟨db8, hsz8, hbb8⟩ := boxed hY8
              have b9 := hbb8
              have HB9 := Lib.hid (HB8.out.trans (b9.mono HB8.out.size))
              have Fv_9 := Lib.hid ((Fv_8.out.below_ b9 (Nat.le_refl _)).mono_ b9.size)
              have Fbox_9 := Lib.hid ((Fbox_8.out.below_ b9 (Nat.le_refl _)).mono_ b9.size)
              have Fp_9 := Lib.hid ((Fp_8.out.below_ b9 (Nat.le_refl _)).mono_ b9.size)
              have Ffirst_9 := Lib.hid ((Ffirst_8.out.below_ b9 (Nat.le_refl _)).mono_ b9.size)
              have dbox_9 := Fbox_9.out.2
              have dp_9 := Fp_9.out.2 0 _ rfl
              have dpb_9 := Fp_9.out.2 1 _ rfl
              have dpc_9 := Fp_9.out.2 2 _ rfl
              have dpd_9 := Fp_9.out.2 3 _ rfl
              clear b9 HB8 Fv_8 Fbox_8 Fp_8 Ffirst_8 dbox_8 dp_8 dpb_8 dpc_8 dpd_8
              have Fb2_9 : Hid (BoxAt Y8 Y8.heap.size w8.heap.size (.slice A8 S c8)) := ⟨by omega, db8⟩
              have db2_9 := Fb2_9.out.2
              clear hbb8 hsz8 db8
              have C10 := Lib.hid (pcheck_any _ _ _ Y8 Ffirst_9.out (Nat.le_refl _))
              rw [HF.out] at C10
              go_wp2_with (fail)
              refine (C10.out).mono ?_
              rintro e w10 ⟨rfl, b10⟩
              have HB10 := Lib.hid (HB9.out.trans (b10.mono HB9.out.size))
              have Fv_10 := Lib.hid ((Fv_9.out.below_ b10 (Nat.le_refl _)).mono_ b10.size)
              have Fbox_10 := Lib.hid ((Fbox_9.out.below_ b10 (Nat.le_refl _)).mono_ b10.size)
              have Fp_10 := Lib.hid ((Fp_9.out.below_ b10 (Nat.le_refl _)).mono_ b10.size)
              have Ffirst_10 := Lib.hid ((Ffirst_9.out.below_ b10 (Nat.le_refl _)).mono_ b10.size)
              have Fb2_10 := Lib.hid ((Fb2_9.out.below_ b10 (Nat.le_refl _)).mono_ b10.size)
              have dbox_10 := Fbox_10.out.2
              have dp_10 := Fp_10.out.2 0 _ rfl
              have dpb_10 := Fp_10.out.2 1 _ rfl
              have dpc_10 := Fp_10.out.2 2 _ rfl
              have dpd_10 := Fp_10.out.2 3 _ rfl
              have db2_10 := Fb2_10.out.2
              clear C10 b10 HB9 Fv_9 Fbox_9 Fp_9 Ffirst_9 Fb2_9 dbox_9 dp_9 dpb_9 dpc_9 dpd_9 db2_9
              clear Fv_10
              clear Ffirst_10
              have C11 := Lib.hid (works_voc w10)
              go_wp2_with (fail)
              refine (C11.out).mono ?_
              rintro e w11 ⟨rfl, b11⟩
              have HB11 := Lib.hid (HB10.out.trans (b11.mono HB10.out.size))
              have Fbox_11 := Lib.hid ((Fbox_10.out.below_ b11 (Nat.le_refl _)).mono_ b11.size)
              have Fp_11 := Lib.hid ((Fp_10.out.below_ b11 (Nat.le_refl _)).mono_ b11.size)
              have Fb2_11 := Lib.hid ((Fb2_10.out.below_ b11 (Nat.le_refl _)).mono_ b11.size)
              have dbox_11 := Fbox_11.out.2
              have dp_11 := Fp_11.out.2 0 _ rfl
              have dpb_11 := Fp_11.out.2 1 _ rfl
              have dpc_11 := Fp_11.out.2 2 _ rfl
              have dpd_11 := Fp_11.out.2 3 _ rfl
              have db2_11 := Fb2_11.out.2
              clear C11 b11 HB10 Fbox_10 Fp_10 Fb2_10 dbox_10 dp_10 dpb_10 dpc_10 dpd_10 db2_10
              go_wp2
              go_ret
              exact ⟨rfl, HB11.out⟩
        | true =>
          obtain ⟨e1, hl1, hr1, hl0, hr0⟩ := Vo.text_join HG.out HPP.out hj
          have htl := HT.out
          have hzl := Vo.text_size HG.out (t := p.left.toNat) (by omega)
          have hzr := Vo.text_size HG.out (t := p.right.toNat) (by omega)
          obtain ⟨xl, hxl⟩ : ∃ z, Vo.text l0 p.left.toNat = z := ⟨_, rfl⟩
          obtain ⟨xr, hxr⟩ : ∃ z, Vo.text l0 p.right.toNat = z := ⟨_, rfl⟩
          rw [hxl] at hzl e1
          rw [hxr] at hzr e1
          have HXL : Hid (Vo.expandE l0 p.left = (xl, 0)) := by
            have h := Vo.expand_in HMAY.out (k := p.left.toNat) (by omega)
            rw [hxl, show ((p.left.toNat : Nat) : Int) = p.left by omega] at h
            exact h
          have HXR : Hid (Vo.expandE l0 p.right = (xr, 0)) := by
            have h := Vo.expand_in HMAY.out (k := p.right.toNat) (by omega)
            rw [hxr, show ((p.right.toNat : Nat) : Int) = p.right by omega] at h
            exact h
          have HZZ : Hid (xl.length ≤ 256 ∧ xr.length ≤ 256) := ⟨hzl.2, hzr.2⟩
          have HFJ : Hid (Vo.foundE l0 p.left p.right = (t, true)) := Vo.found_self HMAY.out HPP.out hj
          have HXJ : Hid (decide (x = xl ++ xr) = true) := by unfold Hid; rw [← HXT.out, e1]; simp
          clear e1 hl1 hr1 hl0 hr0 htl hzl hzr hxl hxr
          rcases (show a2 < 0 ∨ (l0.length : Int) < a2 ∨ (0 ≤ a2 ∧ a2 ≤ l0.length) by omega) with hs | hs | hs
          · skip
            have hs1 : a2 < 0 := hs
            clear hs
            obtain ⟨W, hW⟩ : ∃ X, w.alloc (.cells #[v0] 24) = X := ⟨_, rfl⟩
            obtain ⟨db, hsz, hbb⟩ := boxed hW
            have HB0 := Lib.hid hbb
            have Fv_0 := Lib.hid ((h0.below_ hbb (Nat.le_refl _)).mono_ hbb.size)
            have Fbox_0 : Hid (BoxAt W W.heap.size w.heap.size v0) := ⟨by omega, db⟩
            obtain ⟨A, c, rfl, hc1, hc2, _, _⟩ := h0
            have hl0 : l0.length ≤ 9223372036854775807 := by simp only [maxLen] at hc2; omega
            have dbox_0 := Fbox_0.out.2
            clear hc1 hc2 hbb hsz db
            go_enter Try.func8, Try.ntmps8
            have C1 := Lib.hid (many_any l0 _ _ W Fv_0.out)
            rw [HM.out] at C1
            go_wp2_with (fail)
            refine (C1.out).mono ?_
            rintro e w1 ⟨rfl, b1⟩
            have HB1 := Lib.hid (HB0.out.trans (b1.mono HB0.out.size))
            have Fv_1 := Lib.hid ((Fv_0.out.below_ b1 (Nat.le_refl _)).mono_ b1.size)
            have Fbox_1 := Lib.hid ((Fbox_0.out.below_ b1 (Nat.le_refl _)).mono_ b1.size)
            have dbox_1 := Fbox_1.out.2
            clear C1 b1 HB0 Fv_0 Fbox_0 dbox_0
            have C2 := Lib.hid (pcheck_any l0 _ _ w1 Fv_1.out (Nat.le_refl _))
            rw [HC.out] at C2
            go_wp2_with (fail)
            refine (C2.out).mono ?_
            rintro e w2 ⟨rfl, b2⟩
            have HB2 := Lib.hid (HB1.out.trans (b2.mono HB1.out.size))
            have Fv_2 := Lib.hid ((Fv_1.out.below_ b2 (Nat.le_refl _)).mono_ b2.size)
            have Fbox_2 := Lib.hid ((Fbox_1.out.below_ b2 (Nat.le_refl _)).mono_ b2.size)
            have dbox_2 := Fbox_2.out.2
            clear C2 b2 HB1 Fv_1 Fbox_1 dbox_1
            have C3 := Lib.hid (pexpand_any l0 _ t _ w2 Fv_2.out (Nat.le_refl _) HI.out HP.out)
            rw [HX.out] at C3
            go_wp2_with (fail)
            refine (C3.out).mono ?_
            rintro e w3 ⟨A3, c3, rfl, o3, b3⟩
            have HB3 := Lib.hid (HB2.out.trans (b3.mono HB2.out.size))
            have Fv_3 := Lib.hid ((Fv_2.out.below_ b3 (Nat.le_refl _)).mono_ b3.size)
            have Fbox_3 := Lib.hid ((Fbox_2.out.below_ b3 (Nat.le_refl _)).mono_ b3.size)
            have dbox_3 := Fbox_3.out.2
            have Fb_3 := Lib.hid (o3.form_)
            clear C3 b3 HB2 Fv_2 Fbox_2 dbox_2 o3
            obtain ⟨pb, po, p', e, hbp, hpok, hq, c0, c1, c2, c3, c4⟩ := Fv_3.out.piece_ HT.out
            rw [HPP.out] at hq
            obtain rfl := Option.some.inj hq
            subst e
            have hpbl : pb < w3.heap.size := hbp
            obtain ⟨Z, hZ⟩ : ∃ X, w3.alloc (.cells #[.bool p.join, .int .u8 (p.byte : Nat), .int .i64 p.left, .int .i64 p.right, .int .u32 (p.rank : Nat)] 33) = X := ⟨_, rfl⟩
            obtain ⟨pz, bZ⟩ := pboxed hZ
            have HPOK := Lib.hid hpok
            rw [hj] at hZ
            clear hpok
            have dkeep := dbox_3
            have b4 := bZ
            have HB4 := Lib.hid (HB3.out.trans (b4.mono HB3.out.size))
            have Fv_4 := Lib.hid ((Fv_3.out.below_ b4 (Nat.le_refl _)).mono_ b4.size)
            have Fbox_4 := Lib.hid ((Fbox_3.out.below_ b4 (Nat.le_refl _)).mono_ b4.size)
            have Fb_4 := Lib.hid ((Fb_3.out.below_ b4 (Nat.le_refl _)).mono_ b4.size)
            have dbox_4 := Fbox_4.out.2
            clear b4 HB3 Fv_3 Fbox_3 Fb_3 dbox_3
            have Fp_4 := Lib.hid pz
            clear bZ pz
            have dp_4 := Fp_4.out.2 0 _ rfl
            have dpb_4 := Fp_4.out.2 1 _ rfl
            have dpc_4 := Fp_4.out.2 2 _ rfl
            have dpd_4 := Fp_4.out.2 3 _ rfl
            have C5 := Lib.hid (pexpand_any l0 _ p.left _ Z Fv_4.out (Nat.le_refl _) HPOK.out.2.1 HP.out)
            rw [HXL.out] at C5
            go_wp2_with (fail)
            refine (C5.out).mono ?_
            rintro e w5 ⟨A5, c5, rfl, o5, b5⟩
            have HB5 := Lib.hid (HB4.out.trans (b5.mono HB4.out.size))
            have Fv_5 := Lib.hid ((Fv_4.out.below_ b5 (Nat.le_refl _)).mono_ b5.size)
            have Fbox_5 := Lib.hid ((Fbox_4.out.below_ b5 (Nat.le_refl _)).mono_ b5.size)
            have Fb_5 := Lib.hid ((Fb_4.out.below_ b5 (Nat.le_refl _)).mono_ b5.size)
            have Fp_5 := Lib.hid ((Fp_4.out.below_ b5 (Nat.le_refl _)).mono_ b5.size)
            have dbox_5 := Fbox_5.out.2
            have dp_5 := Fp_5.out.2 0 _ rfl
            have dpb_5 := Fp_5.out.2 1 _ rfl
            have dpc_5 := Fp_5.out.2 2 _ rfl
            have dpd_5 := Fp_5.out.2 3 _ rfl
            have Fl_5 := Lib.hid (o5.form_)
            clear C5 b5 HB4 Fv_4 Fbox_4 Fb_4 Fp_4 dbox_4 dp_4 dpb_4 dpc_4 dpd_4 o5
            have C6 := Lib.hid (pexpand_any l0 _ p.right _ w5 Fv_5.out (Nat.le_refl _) HPOK.out.2.2.1 HP.out)
            rw [HXR.out] at C6
            go_wp2_with (fail)
            refine (C6.out).mono ?_
            rintro e w6 ⟨A6, c6, rfl, o6, b6⟩
            have HB6 := Lib.hid (HB5.out.trans (b6.mono HB5.out.size))
            have Fv_6 := Lib.hid ((Fv_5.out.below_ b6 (Nat.le_refl _)).mono_ b6.size)
            have Fbox_6 := Lib.hid ((Fbox_5.out.below_ b6 (Nat.le_refl _)).mono_ b6.size)
            have Fb_6 := Lib.hid ((Fb_5.out.below_ b6 (Nat.le_refl _)).mono_ b6.size)
            have Fp_6 := Lib.hid ((Fp_5.out.below_ b6 (Nat.le_refl _)).mono_ b6.size)
            have Fl_6 := Lib.hid ((Fl_5.out.below_ b6 (Nat.le_refl _)).mono_ b6.size)
            have dbox_6 := Fbox_6.out.2
            have dp_6 := Fp_6.out.2 0 _ rfl
            have dpb_6 := Fp_6.out.2 1 _ rfl
            have dpc_6 := Fp_6.out.2 2 _ rfl
            have dpd_6 := Fp_6.out.2 3 _ rfl
            have Fr_6 := Lib.hid (o6.form_)
            clear C6 b6 HB5 Fv_5 Fbox_5 Fb_5 Fp_5 Fl_5 dbox_5 dp_5 dpb_5 dpc_5 dpd_5 o6
            go_wp2_with (at_builtin; go_must (refine wpList_append_l _ yK rfl _ _ rfl w6.heap.size (.slice none 0 0) rfl [] (OwnL.nil_ _ _ _) _ rfl w6.heap.size xl Fl_6.out (by have := HZZ.out; show (_ + _) * 1 ≤ _; simp only [List.length_nil]; omega) (by have := HZZ.out; simp only [List.length_nil, maxLen]; omega) (Nat.le_refl _) ?_))
            intro AL cL y1 hA hG
            have bY1 := Lib.hid ((Below.refl w6.heap.size w6).grown hG (Nat.le_refl _) (by intro k hk; cases hk))
            have oY1 := Lib.hid hA
            have fR := Lib.hid ((Fr_6.out.below_ bY1.out (Nat.le_refl _)))
            clear hA hG
            go_wp2_with (at_builtin; go_must (refine wpList_append_l _ yK rfl _ _ rfl w6.heap.size (.slice AL xl.length cL) rfl xl oY1.out _ rfl w6.heap.size xr fR.out (by have := HZZ.out; show (_ + _) * 1 ≤ _; omega) (by have := HZZ.out; simp only [maxLen]; omega) bY1.out.size ?_))
            intro AM cM y2 hA hG
            have bY2 := bY1.out.grown hG bY1.out.size (fun k hk => (oY1.out.lt_ k hk).1)
            have oY2 := Lib.hid hA
            clear hA hG oY1 fR bY1
            have b7 := bY2
            have HB7 := Lib.hid (HB6.out.trans (b7.mono HB6.out.size))
            have Fv_7 := Lib.hid ((Fv_6.out.below_ b7 (Nat.le_refl _)).mono_ b7.size)
            have Fbox_7 := Lib.hid ((Fbox_6.out.below_ b7 (Nat.le_refl _)).mono_ b7.size)
            have Fb_7 := Lib.hid ((Fb_6.out.below_ b7 (Nat.le_refl _)).mono_ b7.size)
            have Fp_7 := Lib.hid ((Fp_6.out.below_ b7 (Nat.le_refl _)).mono_ b7.size)
            have Fl_7 := Lib.hid ((Fl_6.out.below_ b7 (Nat.le_refl _)).mono_ b7.size)
            have Fr_7 := Lib.hid ((Fr_6.out.below_ b7 (Nat.le_refl _)).mono_ b7.size)
            have dbox_7 := Fbox_7.out.2
            have dp_7 := Fp_7.out.2 0 _ rfl
            have dpb_7 := Fp_7.out.2 1 _ rfl
            have dpc_7 := Fp_7.out.2 2 _ rfl
            have dpd_7 := Fp_7.out.2 3 _ rfl
            clear b7 HB6 Fv_6 Fbox_6 Fb_6 Fp_6 Fl_6 Fr_6 dbox_6 dp_6 dpb_6 dpc_6 dpd_6
            have Fall_7 := Lib.hid oY2.out.form_
            clear bY2 oY2
            clear Fl_7
            clear Fr_7
            have C8 := Lib.hid (pfind_any l0 _ p.left p.right _ y2 Fv_7.out (Nat.le_refl _) HPOK.out.2.1 HPOK.out.2.2.1 HP.out)
            rw [HFJ.out] at C8
            go_wp2_with (fail)
            refine (C8.out).mono ?_
            rintro e w8 ⟨rfl, b8⟩
            have HB8 := Lib.hid (HB7.out.trans (b8.mono HB7.out.size))
            have Fv_8 := Lib.hid ((Fv_7.out.below_ b8 (Nat.le_refl _)).mono_ b8.size)
            have Fbox_8 := Lib.hid ((Fbox_7.out.below_ b8 (Nat.le_refl _)).mono_ b8.size)
            have Fb_8 := Lib.hid ((Fb_7.out.below_ b8 (Nat.le_refl _)).mono_ b8.size)
            have Fp_8 := Lib.hid ((Fp_7.out.below_ b8 (Nat.le_refl _)).mono_ b8.size)
            have Fall_8 := Lib.hid ((Fall_7.out.below_ b8 (Nat.le_refl _)).mono_ b8.size)
            have dbox_8 := Fbox_8.out.2
            have dp_8 := Fp_8.out.2 0 _ rfl
            have dpb_8 := Fp_8.out.2 1 _ rfl
            have dpc_8 := Fp_8.out.2 2 _ rfl
            have dpd_8 := Fp_8.out.2 3 _ rfl
            clear C8 b8 HB7 Fv_7 Fbox_7 Fb_7 Fp_7 Fall_7 dbox_7 dp_7 dpb_7 dpc_7 dpd_7
            have C9 := Lib.hid (octs_lv _ _ _ _ _ _ w8 Fb_8.out Fall_8.out)
            rw [HXJ.out] at C9
            go_wp2_with (fail)
            refine (C9.out).mono ?_
            rintro e w9 ⟨rfl, b9⟩
            have HB9 := Lib.hid (HB8.out.trans (b9.mono HB8.out.size))
            have Fv_9 := Lib.hid ((Fv_8.out.below_ b9 (Nat.le_refl _)).mono_ b9.size)
            have Fbox_9 := Lib.hid ((Fbox_8.out.below_ b9 (Nat.le_refl _)).mono_ b9.size)
            have Fb_9 := Lib.hid ((Fb_8.out.below_ b9 (Nat.le_refl _)).mono_ b9.size)
            have Fp_9 := Lib.hid ((Fp_8.out.below_ b9 (Nat.le_refl _)).mono_ b9.size)
            have Fall_9 := Lib.hid ((Fall_8.out.below_ b9 (Nat.le_refl _)).mono_ b9.size)
            have dbox_9 := Fbox_9.out.2
            have dp_9 := Fp_9.out.2 0 _ rfl
            have dpb_9 := Fp_9.out.2 1 _ rfl
            have dpc_9 := Fp_9.out.2 2 _ rfl
            have dpd_9 := Fp_9.out.2 3 _ rfl
            clear C9 b9 HB8 Fv_8 Fbox_8 Fb_8 Fp_8 Fall_8 dbox_8 dp_8 dpb_8 dpc_8 dpd_8
            clear Fb_9
            clear Fall_9
            clear Fv_9
            have C10 := Lib.hid (works_voc w9)
            go_wp2_with (fail)
            refine (C10.out).mono ?_
            rintro e w10 ⟨rfl, b10⟩
            have HB10 := Lib.hid (HB9.out.trans (b10.mono HB9.out.size))
            have Fbox_10 := Lib.hid ((Fbox_9.out.below_ b10 (Nat.le_refl _)).mono_ b10.size)
            have Fp_10 := Lib.hid ((Fp_9.out.below_ b10 (Nat.le_refl _)).mono_ b10.size)
            have dbox_10 := Fbox_10.out.2
            have dp_10 := Fp_10.out.2 0 _ rfl
            have dpb_10 := Fp_10.out.2 1 _ rfl
            have dpc_10 := Fp_10.out.2 2 _ rfl
            have dpd_10 := Fp_10.out.2 3 _ rfl
            clear C10 b10 HB9 Fbox_9 Fp_9 dbox_9 dp_9 dpb_9 dpc_9 dpd_9
            go_wp2
            go_ret
            exact ⟨rfl, HB10.out⟩
          · skip
            have hs1 : ¬ a2 < 0 := by omega
            have hs2 : (l0.length : Int) < a2 := hs
            clear hs
            obtain ⟨W, hW⟩ : ∃ X, w.alloc (.cells #[v0] 24) = X := ⟨_, rfl⟩
            obtain ⟨db, hsz, hbb⟩ := boxed hW
            have HB0 := Lib.hid hbb
            have Fv_0 := Lib.hid ((h0.below_ hbb (Nat.le_refl _)).mono_ hbb.size)
            have Fbox_0 : Hid (BoxAt W W.heap.size w.heap.size v0) := ⟨by omega, db⟩
            obtain ⟨A, c, rfl, hc1, hc2, _, _⟩ := h0
            have hl0 : l0.length ≤ 9223372036854775807 := by simp only [maxLen] at hc2; omega
            have dbox_0 := Fbox_0.out.2
            clear hc1 hc2 hbb hsz db
            go_enter Try.func8, Try.ntmps8
            have C1 := Lib.hid (many_any l0 _ _ W Fv_0.out)
            rw [HM.out] at C1
            go_wp2_with (fail)
            refine (C1.out).mono ?_
            rintro e w1 ⟨rfl, b1⟩
            have HB1 := Lib.hid (HB0.out.trans (b1.mono HB0.out.size))
            have Fv_1 := Lib.hid ((Fv_0.out.below_ b1 (Nat.le_refl _)).mono_ b1.size)
            have Fbox_1 := Lib.hid ((Fbox_0.out.below_ b1 (Nat.le_refl _)).mono_ b1.size)
            have dbox_1 := Fbox_1.out.2
            clear C1 b1 HB0 Fv_0 Fbox_0 dbox_0
            have C2 := Lib.hid (pcheck_any l0 _ _ w1 Fv_1.out (Nat.le_refl _))
            rw [HC.out] at C2
            go_wp2_with (fail)
            refine (C2.out).mono ?_
            rintro e w2 ⟨rfl, b2⟩
            have HB2 := Lib.hid (HB1.out.trans (b2.mono HB1.out.size))
            have Fv_2 := Lib.hid ((Fv_1.out.below_ b2 (Nat.le_refl _)).mono_ b2.size)
            have Fbox_2 := Lib.hid ((Fbox_1.out.below_ b2 (Nat.le_refl _)).mono_ b2.size)
            have dbox_2 := Fbox_2.out.2
            clear C2 b2 HB1 Fv_1 Fbox_1 dbox_1
            have C3 := Lib.hid (pexpand_any l0 _ t _ w2 Fv_2.out (Nat.le_refl _) HI.out HP.out)
            rw [HX.out] at C3
            go_wp2_with (fail)
            refine (C3.out).mono ?_
            rintro e w3 ⟨A3, c3, rfl, o3, b3⟩
            have HB3 := Lib.hid (HB2.out.trans (b3.mono HB2.out.size))
            have Fv_3 := Lib.hid ((Fv_2.out.below_ b3 (Nat.le_refl _)).mono_ b3.size)
            have Fbox_3 := Lib.hid ((Fbox_2.out.below_ b3 (Nat.le_refl _)).mono_ b3.size)
            have dbox_3 := Fbox_3.out.2
            have Fb_3 := Lib.hid (o3.form_)
            clear C3 b3 HB2 Fv_2 Fbox_2 dbox_2 o3
            obtain ⟨pb, po, p', e, hbp, hpok, hq, c0, c1, c2, c3, c4⟩ := Fv_3.out.piece_ HT.out
            rw [HPP.out] at hq
            obtain rfl := Option.some.inj hq
            subst e
            have hpbl : pb < w3.heap.size := hbp
            obtain ⟨Z, hZ⟩ : ∃ X, w3.alloc (.cells #[.bool p.join, .int .u8 (p.byte : Nat), .int .i64 p.left, .int .i64 p.right, .int .u32 (p.rank : Nat)] 33) = X := ⟨_, rfl⟩
            obtain ⟨pz, bZ⟩ := pboxed hZ
            have HPOK := Lib.hid hpok
            rw [hj] at hZ
            clear hpok
            have dkeep := dbox_3
            have b4 := bZ
            have HB4 := Lib.hid (HB3.out.trans (b4.mono HB3.out.size))
            have Fv_4 := Lib.hid ((Fv_3.out.below_ b4 (Nat.le_refl _)).mono_ b4.size)
            have Fbox_4 := Lib.hid ((Fbox_3.out.below_ b4 (Nat.le_refl _)).mono_ b4.size)
            have Fb_4 := Lib.hid ((Fb_3.out.below_ b4 (Nat.le_refl _)).mono_ b4.size)
            have dbox_4 := Fbox_4.out.2
            clear b4 HB3 Fv_3 Fbox_3 Fb_3 dbox_3
            have Fp_4 := Lib.hid pz
            clear bZ pz
            have dp_4 := Fp_4.out.2 0 _ rfl
            have dpb_4 := Fp_4.out.2 1 _ rfl
            have dpc_4 := Fp_4.out.2 2 _ rfl
            have dpd_4 := Fp_4.out.2 3 _ rfl
            have C5 := Lib.hid (pexpand_any l0 _ p.left _ Z Fv_4.out (Nat.le_refl _) HPOK.out.2.1 HP.out)
            rw [HXL.out] at C5
            go_wp2_with (fail)
            refine (C5.out).mono ?_
            rintro e w5 ⟨A5, c5, rfl, o5, b5⟩
            have HB5 := Lib.hid (HB4.out.trans (b5.mono HB4.out.size))
            have Fv_5 := Lib.hid ((Fv_4.out.below_ b5 (Nat.le_refl _)).mono_ b5.size)
            have Fbox_5 := Lib.hid ((Fbox_4.out.below_ b5 (Nat.le_refl _)).mono_ b5.size)
            have Fb_5 := Lib.hid ((Fb_4.out.below_ b5 (Nat.le_refl _)).mono_ b5.size)
            have Fp_5 := Lib.hid ((Fp_4.out.below_ b5 (Nat.le_refl _)).mono_ b5.size)
            have dbox_5 := Fbox_5.out.2
            have dp_5 := Fp_5.out.2 0 _ rfl
            have dpb_5 := Fp_5.out.2 1 _ rfl
            have dpc_5 := Fp_5.out.2 2 _ rfl
            have dpd_5 := Fp_5.out.2 3 _ rfl
            have Fl_5 := Lib.hid (o5.form_)
            clear C5 b5 HB4 Fv_4 Fbox_4 Fb_4 Fp_4 dbox_4 dp_4 dpb_4 dpc_4 dpd_4 o5
            have C6 := Lib.hid (pexpand_any l0 _ p.right _ w5 Fv_5.out (Nat.le_refl _) HPOK.out.2.2.1 HP.out)
            rw [HXR.out] at C6
            go_wp2_with (fail)
            refine (C6.out).mono ?_
            rintro e w6 ⟨A6, c6, rfl, o6, b6⟩
            have HB6 := Lib.hid (HB5.out.trans (b6.mono HB5.out.size))
            have Fv_6 := Lib.hid ((Fv_5.out.below_ b6 (Nat.le_refl _)).mono_ b6.size)
            have Fbox_6 := Lib.hid ((Fbox_5.out.below_ b6 (Nat.le_refl _)).mono_ b6.size)
            have Fb_6 := Lib.hid ((Fb_5.out.below_ b6 (Nat.le_refl _)).mono_ b6.size)
            have Fp_6 := Lib.hid ((Fp_5.out.below_ b6 (Nat.le_refl _)).mono_ b6.size)
            have Fl_6 := Lib.hid ((Fl_5.out.below_ b6 (Nat.le_refl _)).mono_ b6.size)
            have dbox_6 := Fbox_6.out.2
            have dp_6 := Fp_6.out.2 0 _ rfl
            have dpb_6 := Fp_6.out.2 1 _ rfl
            have dpc_6 := Fp_6.out.2 2 _ rfl
            have dpd_6 := Fp_6.out.2 3 _ rfl
            have Fr_6 := Lib.hid (o6.form_)
            clear C6 b6 HB5 Fv_5 Fbox_5 Fb_5 Fp_5 Fl_5 dbox_5 dp_5 dpb_5 dpc_5 dpd_5 o6
            go_wp2_with (at_builtin; go_must (refine wpList_append_l _ yK rfl _ _ rfl w6.heap.size (.slice none 0 0) rfl [] (OwnL.nil_ _ _ _) _ rfl w6.heap.size xl Fl_6.out (by have := HZZ.out; show (_ + _) * 1 ≤ _; simp only [List.length_nil]; omega) (by have := HZZ.out; simp only [List.length_nil, maxLen]; omega) (Nat.le_refl _) ?_))
            intro AL cL y1 hA hG
            have bY1 := Lib.hid ((Below.refl w6.heap.size w6).grown hG (Nat.le_refl _) (by intro k hk; cases hk))
            have oY1 := Lib.hid hA
            have fR := Lib.hid ((Fr_6.out.below_ bY1.out (Nat.le_refl _)))
            clear hA hG
            go_wp2_with (at_builtin; go_must (refine wpList_append_l _ yK rfl _ _ rfl w6.heap.size (.slice AL xl.length cL) rfl xl oY1.out _ rfl w6.heap.size xr fR.out (by have := HZZ.out; show (_ + _) * 1 ≤ _; omega) (by have := HZZ.out; simp only [maxLen]; omega) bY1.out.size ?_))
            intro AM cM y2 hA hG
            have bY2 := bY1.out.grown hG bY1.out.size (fun k hk => (oY1.out.lt_ k hk).1)
            have oY2 := Lib.hid hA
            clear hA hG oY1 fR bY1
            have b7 := bY2
            have HB7 := Lib.hid (HB6.out.trans (b7.mono HB6.out.size))
            have Fv_7 := Lib.hid ((Fv_6.out.below_ b7 (Nat.le_refl _)).mono_ b7.size)
            have Fbox_7 := Lib.hid ((Fbox_6.out.below_ b7 (Nat.le_refl _)).mono_ b7.size)
            have Fb_7 := Lib.hid ((Fb_6.out.below_ b7 (Nat.le_refl _)).mono_ b7.size)
            have Fp_7 := Lib.hid ((Fp_6.out.below_ b7 (Nat.le_refl _)).mono_ b7.size)
            have Fl_7 := Lib.hid ((Fl_6.out.below_ b7 (Nat.le_refl _)).mono_ b7.size)
            have Fr_7 := Lib.hid ((Fr_6.out.below_ b7 (Nat.le_refl _)).mono_ b7.size)
            have dbox_7 := Fbox_7.out.2
            have dp_7 := Fp_7.out.2 0 _ rfl
            have dpb_7 := Fp_7.out.2 1 _ rfl
            have dpc_7 := Fp_7.out.2 2 _ rfl
            have dpd_7 := Fp_7.out.2 3 _ rfl
            clear b7 HB6 Fv_6 Fbox_6 Fb_6 Fp_6 Fl_6 Fr_6 dbox_6 dp_6 dpb_6 dpc_6 dpd_6
            have Fall_7 := Lib.hid oY2.out.form_
            clear bY2 oY2
            clear Fl_7
            clear Fr_7
            have C8 := Lib.hid (pfind_any l0 _ p.left p.right _ y2 Fv_7.out (Nat.le_refl _) HPOK.out.2.1 HPOK.out.2.2.1 HP.out)
            rw [HFJ.out] at C8
            go_wp2_with (fail)
            refine (C8.out).mono ?_
            rintro e w8 ⟨rfl, b8⟩
            have HB8 := Lib.hid (HB7.out.trans (b8.mono HB7.out.size))
            have Fv_8 := Lib.hid ((Fv_7.out.below_ b8 (Nat.le_refl _)).mono_ b8.size)
            have Fbox_8 := Lib.hid ((Fbox_7.out.below_ b8 (Nat.le_refl _)).mono_ b8.size)
            have Fb_8 := Lib.hid ((Fb_7.out.below_ b8 (Nat.le_refl _)).mono_ b8.size)
            have Fp_8 := Lib.hid ((Fp_7.out.below_ b8 (Nat.le_refl _)).mono_ b8.size)
            have Fall_8 := Lib.hid ((Fall_7.out.below_ b8 (Nat.le_refl _)).mono_ b8.size)
            have dbox_8 := Fbox_8.out.2
            have dp_8 := Fp_8.out.2 0 _ rfl
            have dpb_8 := Fp_8.out.2 1 _ rfl
            have dpc_8 := Fp_8.out.2 2 _ rfl
            have dpd_8 := Fp_8.out.2 3 _ rfl
            clear C8 b8 HB7 Fv_7 Fbox_7 Fb_7 Fp_7 Fall_7 dbox_7 dp_7 dpb_7 dpc_7 dpd_7
            have C9 := Lib.hid (octs_lv _ _ _ _ _ _ w8 Fb_8.out Fall_8.out)
            rw [HXJ.out] at C9
            go_wp2_with (fail)
            refine (C9.out).mono ?_
            rintro e w9 ⟨rfl, b9⟩
            have HB9 := Lib.hid (HB8.out.trans (b9.mono HB8.out.size))
            have Fv_9 := Lib.hid ((Fv_8.out.below_ b9 (Nat.le_refl _)).mono_ b9.size)
            have Fbox_9 := Lib.hid ((Fbox_8.out.below_ b9 (Nat.le_refl _)).mono_ b9.size)
            have Fb_9 := Lib.hid ((Fb_8.out.below_ b9 (Nat.le_refl _)).mono_ b9.size)
            have Fp_9 := Lib.hid ((Fp_8.out.below_ b9 (Nat.le_refl _)).mono_ b9.size)
            have Fall_9 := Lib.hid ((Fall_8.out.below_ b9 (Nat.le_refl _)).mono_ b9.size)
            have dbox_9 := Fbox_9.out.2
            have dp_9 := Fp_9.out.2 0 _ rfl
            have dpb_9 := Fp_9.out.2 1 _ rfl
            have dpc_9 := Fp_9.out.2 2 _ rfl
            have dpd_9 := Fp_9.out.2 3 _ rfl
            clear C9 b9 HB8 Fv_8 Fbox_8 Fb_8 Fp_8 Fall_8 dbox_8 dp_8 dpb_8 dpc_8 dpd_8
            clear Fb_9
            clear Fall_9
            clear Fv_9
            have C10 := Lib.hid (works_voc w9)
            go_wp2_with (fail)
            refine (C10.out).mono ?_
            rintro e w10 ⟨rfl, b10⟩
            have HB10 := Lib.hid (HB9.out.trans (b10.mono HB9.out.size))
            have Fbox_10 := Lib.hid ((Fbox_9.out.below_ b10 (Nat.le_refl _)).mono_ b10.size)
            have Fp_10 := Lib.hid ((Fp_9.out.below_ b10 (Nat.le_refl _)).mono_ b10.size)
            have dbox_10 := Fbox_10.out.2
            have dp_10 := Fp_10.out.2 0 _ rfl
            have dpb_10 := Fp_10.out.2 1 _ rfl
            have dpc_10 := Fp_10.out.2 2 _ rfl
            have dpd_10 := Fp_10.out.2 3 _ rfl
            clear C10 b10 HB9 Fbox_9 Fp_9 dbox_9 dp_9 dpb_9 dpc_9 dpd_9
            go_wp2
            go_ret
            exact ⟨rfl, HB10.out⟩
          · skip
            obtain ⟨S, rfl⟩ := Int.eq_ofNat_of_zero_le hs.1
            have HS : Hid (S ≤ l0.length) := by unfold Hid; omega
            have hs2 : ¬ (l0.length : Int) < (S : Int) := by omega
            clear hs
            rcases Vo.check_first HMAY.out HS.out with hf | hf
            · skip
              have HF := Lib.hid hf
              clear hf
              obtain ⟨W, hW⟩ : ∃ X, w.alloc (.cells #[v0] 24) = X := ⟨_, rfl⟩
              obtain ⟨db, hsz, hbb⟩ := boxed hW
              have HB0 := Lib.hid hbb
              have Fv_0 := Lib.hid ((h0.below_ hbb (Nat.le_refl _)).mono_ hbb.size)
              have Fbox_0 : Hid (BoxAt W W.heap.size w.heap.size v0) := ⟨by omega, db⟩
              obtain ⟨A, c, rfl, hc1, hc2, _, _⟩ := h0
              have hl0 : l0.length ≤ 9223372036854775807 := by simp only [maxLen] at hc2; omega
              have dbox_0 := Fbox_0.out.2
              clear hc1 hc2 hbb hsz db
              go_enter Try.func8, Try.ntmps8
              have C1 := Lib.hid (many_any l0 _ _ W Fv_0.out)
              rw [HM.out] at C1
              go_wp2_with (fail)
              refine (C1.out).mono ?_
              rintro e w1 ⟨rfl, b1⟩
              have HB1 := Lib.hid (HB0.out.trans (b1.mono HB0.out.size))
              have Fv_1 := Lib.hid ((Fv_0.out.below_ b1 (Nat.le_refl _)).mono_ b1.size)
              have Fbox_1 := Lib.hid ((Fbox_0.out.below_ b1 (Nat.le_refl _)).mono_ b1.size)
              have dbox_1 := Fbox_1.out.2
              clear C1 b1 HB0 Fv_0 Fbox_0 dbox_0
              have C2 := Lib.hid (pcheck_any l0 _ _ w1 Fv_1.out (Nat.le_refl _))
              rw [HC.out] at C2
              go_wp2_with (fail)
              refine (C2.out).mono ?_
              rintro e w2 ⟨rfl, b2⟩
              have HB2 := Lib.hid (HB1.out.trans (b2.mono HB1.out.size))
              have Fv_2 := Lib.hid ((Fv_1.out.below_ b2 (Nat.le_refl _)).mono_ b2.size)
              have Fbox_2 := Lib.hid ((Fbox_1.out.below_ b2 (Nat.le_refl _)).mono_ b2.size)
              have dbox_2 := Fbox_2.out.2
              clear C2 b2 HB1 Fv_1 Fbox_1 dbox_1
              have C3 := Lib.hid (pexpand_any l0 _ t _ w2 Fv_2.out (Nat.le_refl _) HI.out HP.out)
              rw [HX.out] at C3
              go_wp2_with (fail)
              refine (C3.out).mono ?_
              rintro e w3 ⟨A3, c3, rfl, o3, b3⟩
              have HB3 := Lib.hid (HB2.out.trans (b3.mono HB2.out.size))
              have Fv_3 := Lib.hid ((Fv_2.out.below_ b3 (Nat.le_refl _)).mono_ b3.size)
              have Fbox_3 := Lib.hid ((Fbox_2.out.below_ b3 (Nat.le_refl _)).mono_ b3.size)
              have dbox_3 := Fbox_3.out.2
              have Fb_3 := Lib.hid (o3.form_)
              clear C3 b3 HB2 Fv_2 Fbox_2 dbox_2 o3
              obtain ⟨pb, po, p', e, hbp, hpok, hq, c0, c1, c2, c3, c4⟩ := Fv_3.out.piece_ HT.out
              rw [HPP.out] at hq
              obtain rfl := Option.some.inj hq
              subst e
              have hpbl : pb < w3.heap.size := hbp
              obtain ⟨Z, hZ⟩ : ∃ X, w3.alloc (.cells #[.bool p.join, .int .u8 (p.byte : Nat), .int .i64 p.left, .int .i64 p.right, .int .u32 (p.rank : Nat)] 33) = X := ⟨_, rfl⟩
              obtain ⟨pz, bZ⟩ := pboxed hZ
              have HPOK := Lib.hid hpok
              rw [hj] at hZ
              clear hpok
              have dkeep := dbox_3
              have b4 := bZ
              have HB4 := Lib.hid (HB3.out.trans (b4.mono HB3.out.size))
              have Fv_4 := Lib.hid ((Fv_3.out.below_ b4 (Nat.le_refl _)).mono_ b4.size)
              have Fbox_4 := Lib.hid ((Fbox_3.out.below_ b4 (Nat.le_refl _)).mono_ b4.size)
              have Fb_4 := Lib.hid ((Fb_3.out.below_ b4 (Nat.le_refl _)).mono_ b4.size)
              have dbox_4 := Fbox_4.out.2
              clear b4 HB3 Fv_3 Fbox_3 Fb_3 dbox_3
              have Fp_4 := Lib.hid pz
              clear bZ pz
              have dp_4 := Fp_4.out.2 0 _ rfl
              have dpb_4 := Fp_4.out.2 1 _ rfl
              have dpc_4 := Fp_4.out.2 2 _ rfl
              have dpd_4 := Fp_4.out.2 3 _ rfl
              have C5 := Lib.hid (pexpand_any l0 _ p.left _ Z Fv_4.out (Nat.le_refl _) HPOK.out.2.1 HP.out)
              rw [HXL.out] at C5
              go_wp2_with (fail)
              refine (C5.out).mono ?_
              rintro e w5 ⟨A5, c5, rfl, o5, b5⟩
              have HB5 := Lib.hid (HB4.out.trans (b5.mono HB4.out.size))
              have Fv_5 := Lib.hid ((Fv_4.out.below_ b5 (Nat.le_refl _)).mono_ b5.size)
              have Fbox_5 := Lib.hid ((Fbox_4.out.below_ b5 (Nat.le_refl _)).mono_ b5.size)
              have Fb_5 := Lib.hid ((Fb_4.out.below_ b5 (Nat.le_refl _)).mono_ b5.size)
              have Fp_5 := Lib.hid ((Fp_4.out.below_ b5 (Nat.le_refl _)).mono_ b5.size)
              have dbox_5 := Fbox_5.out.2
              have dp_5 := Fp_5.out.2 0 _ rfl
              have dpb_5 := Fp_5.out.2 1 _ rfl
              have dpc_5 := Fp_5.out.2 2 _ rfl
              have dpd_5 := Fp_5.out.2 3 _ rfl
              have Fl_5 := Lib.hid (o5.form_)
              clear C5 b5 HB4 Fv_4 Fbox_4 Fb_4 Fp_4 dbox_4 dp_4 dpb_4 dpc_4 dpd_4 o5
              have C6 := Lib.hid (pexpand_any l0 _ p.right _ w5 Fv_5.out (Nat.le_refl _) HPOK.out.2.2.1 HP.out)
              rw [HXR.out] at C6
              go_wp2_with (fail)
              refine (C6.out).mono ?_
              rintro e w6 ⟨A6, c6, rfl, o6, b6⟩
              have HB6 := Lib.hid (HB5.out.trans (b6.mono HB5.out.size))
              have Fv_6 := Lib.hid ((Fv_5.out.below_ b6 (Nat.le_refl _)).mono_ b6.size)
              have Fbox_6 := Lib.hid ((Fbox_5.out.below_ b6 (Nat.le_refl _)).mono_ b6.size)
              have Fb_6 := Lib.hid ((Fb_5.out.below_ b6 (Nat.le_refl _)).mono_ b6.size)
              have Fp_6 := Lib.hid ((Fp_5.out.below_ b6 (Nat.le_refl _)).mono_ b6.size)
              have Fl_6 := Lib.hid ((Fl_5.out.below_ b6 (Nat.le_refl _)).mono_ b6.size)
              have dbox_6 := Fbox_6.out.2
              have dp_6 := Fp_6.out.2 0 _ rfl
              have dpb_6 := Fp_6.out.2 1 _ rfl
              have dpc_6 := Fp_6.out.2 2 _ rfl
              have dpd_6 := Fp_6.out.2 3 _ rfl
              have Fr_6 := Lib.hid (o6.form_)
              clear C6 b6 HB5 Fv_5 Fbox_5 Fb_5 Fp_5 Fl_5 dbox_5 dp_5 dpb_5 dpc_5 dpd_5 o6
              go_wp2_with (at_builtin; go_must (refine wpList_append_l _ yK rfl _ _ rfl w6.heap.size (.slice none 0 0) rfl [] (OwnL.nil_ _ _ _) _ rfl w6.heap.size xl Fl_6.out (by have := HZZ.out; show (_ + _) * 1 ≤ _; simp only [List.length_nil]; omega) (by have := HZZ.out; simp only [List.length_nil, maxLen]; omega) (Nat.le_refl _) ?_))
              intro AL cL y1 hA hG
              have bY1 := Lib.hid ((Below.refl w6.heap.size w6).grown hG (Nat.le_refl _) (by intro k hk; cases hk))
              have oY1 := Lib.hid hA
              have fR := Lib.hid ((Fr_6.out.below_ bY1.out (Nat.le_refl _)))
              clear hA hG
              go_wp2_with (at_builtin; go_must (refine wpList_append_l _ yK rfl _ _ rfl w6.heap.size (.slice AL xl.length cL) rfl xl oY1.out _ rfl w6.heap.size xr fR.out (by have := HZZ.out; show (_ + _) * 1 ≤ _; omega) (by have := HZZ.out; simp only [maxLen]; omega) bY1.out.size ?_))
              intro AM cM y2 hA hG
              have bY2 := bY1.out.grown hG bY1.out.size (fun k hk => (oY1.out.lt_ k hk).1)
              have oY2 := Lib.hid hA
              clear hA hG oY1 fR bY1
              have b7 := bY2
              have HB7 := Lib.hid (HB6.out.trans (b7.mono HB6.out.size))
              have Fv_7 := Lib.hid ((Fv_6.out.below_ b7 (Nat.le_refl _)).mono_ b7.size)
              have Fbox_7 := Lib.hid ((Fbox_6.out.below_ b7 (Nat.le_refl _)).mono_ b7.size)
              have Fb_7 := Lib.hid ((Fb_6.out.below_ b7 (Nat.le_refl _)).mono_ b7.size)
              have Fp_7 := Lib.hid ((Fp_6.out.below_ b7 (Nat.le_refl _)).mono_ b7.size)
              have Fl_7 := Lib.hid ((Fl_6.out.below_ b7 (Nat.le_refl _)).mono_ b7.size)
              have Fr_7 := Lib.hid ((Fr_6.out.below_ b7 (Nat.le_refl _)).mono_ b7.size)
              have dbox_7 := Fbox_7.out.2
              have dp_7 := Fp_7.out.2 0 _ rfl
              have dpb_7 := Fp_7.out.2 1 _ rfl
              have dpc_7 := Fp_7.out.2 2 _ rfl
              have dpd_7 := Fp_7.out.2 3 _ rfl
              clear b7 HB6 Fv_6 Fbox_6 Fb_6 Fp_6 Fl_6 Fr_6 dbox_6 dp_6 dpb_6 dpc_6 dpd_6
              have Fall_7 := Lib.hid oY2.out.form_
              clear bY2 oY2
              clear Fl_7
              clear Fr_7
              have C8 := Lib.hid (pfind_any l0 _ p.left p.right _ y2 Fv_7.out (Nat.le_refl _) HPOK.out.2.1 HPOK.out.2.2.1 HP.out)
              rw [HFJ.out] at C8
              go_wp2_with (fail)
              refine (C8.out).mono ?_
              rintro e w8 ⟨rfl, b8⟩
              have HB8 := Lib.hid (HB7.out.trans (b8.mono HB7.out.size))
              have Fv_8 := Lib.hid ((Fv_7.out.below_ b8 (Nat.le_refl _)).mono_ b8.size)
              have Fbox_8 := Lib.hid ((Fbox_7.out.below_ b8 (Nat.le_refl _)).mono_ b8.size)
              have Fb_8 := Lib.hid ((Fb_7.out.below_ b8 (Nat.le_refl _)).mono_ b8.size)
              have Fp_8 := Lib.hid ((Fp_7.out.below_ b8 (Nat.le_refl _)).mono_ b8.size)
              have Fall_8 := Lib.hid ((Fall_7.out.below_ b8 (Nat.le_refl _)).mono_ b8.size)
              have dbox_8 := Fbox_8.out.2
              have dp_8 := Fp_8.out.2 0 _ rfl
              have dpb_8 := Fp_8.out.2 1 _ rfl
              have dpc_8 := Fp_8.out.2 2 _ rfl
              have dpd_8 := Fp_8.out.2 3 _ rfl
              clear C8 b8 HB7 Fv_7 Fbox_7 Fb_7 Fp_7 Fall_7 dbox_7 dp_7 dpb_7 dpc_7 dpd_7
              have C9 := Lib.hid (octs_lv _ _ _ _ _ _ w8 Fb_8.out Fall_8.out)
              rw [HXJ.out] at C9
              go_wp2_with (fail)
              refine (C9.out).mono ?_
              rintro e w9 ⟨rfl, b9⟩
              have HB9 := Lib.hid (HB8.out.trans (b9.mono HB8.out.size))
              have Fv_9 := Lib.hid ((Fv_8.out.below_ b9 (Nat.le_refl _)).mono_ b9.size)
              have Fbox_9 := Lib.hid ((Fbox_8.out.below_ b9 (Nat.le_refl _)).mono_ b9.size)
              have Fb_9 := Lib.hid ((Fb_8.out.below_ b9 (Nat.le_refl _)).mono_ b9.size)
              have Fp_9 := Lib.hid ((Fp_8.out.below_ b9 (Nat.le_refl _)).mono_ b9.size)
              have Fall_9 := Lib.hid ((Fall_8.out.below_ b9 (Nat.le_refl _)).mono_ b9.size)
              have dbox_9 := Fbox_9.out.2
              have dp_9 := Fp_9.out.2 0 _ rfl
              have dpb_9 := Fp_9.out.2 1 _ rfl
              have dpc_9 := Fp_9.out.2 2 _ rfl
              have dpd_9 := Fp_9.out.2 3 _ rfl
              clear C9 b9 HB8 Fv_8 Fbox_8 Fb_8 Fp_8 Fall_8 dbox_8 dp_8 dpb_8 dpc_8 dpd_8
              clear Fb_9
              clear Fall_9
              have C10 := Lib.hid (copyvoc_any l0 _ _ w9 Fv_9.out (Nat.le_refl _) HP2.out)
              go_wp2_with (fail)
              refine (C10.out).mono ?_
              rintro e w10 ⟨A10, c10, rfl, o10, b10⟩
              have HB10 := Lib.hid (HB9.out.trans (b10.mono HB9.out.size))
              have Fv_10 := Lib.hid ((Fv_9.out.below_ b10 (Nat.le_refl _)).mono_ b10.size)
              have Fbox_10 := Lib.hid ((Fbox_9.out.below_ b10 (Nat.le_refl _)).mono_ b10.size)
              have Fp_10 := Lib.hid ((Fp_9.out.below_ b10 (Nat.le_refl _)).mono_ b10.size)
              have dbox_10 := Fbox_10.out.2
              have dp_10 := Fp_10.out.2 0 _ rfl
              have dpb_10 := Fp_10.out.2 1 _ rfl
              have dpc_10 := Fp_10.out.2 2 _ rfl
              have dpd_10 := Fp_10.out.2 3 _ rfl
              have Fown_10 := Lib.hid (o10.form_)
              clear C10 b10 HB9 Fv_9 Fbox_9 Fp_9 dbox_9 dp_9 dpb_9 dpc_9 dpd_9 o10
              have hfld := fun w => pieces_field (.slice A10 l0.length c10) w
              have hcut := fun w => cut_to pK (by kernel_rfl) A10 l0.length c10 S (Nat.le_trans HS.out (Fown_10.out.len_.2.1)) w
              have hcutA := fun w => cutAt_to pK (by kernel_rfl) A10 l0.length c10 S (Nat.le_trans HS.out (Fown_10.out.len_.2.1)) w
              change ∀ w, (Instr.slice 22 (.slice A10 l0.length c10) none (some (.int .i64 (S : Nat))) none).run Try.prog w = _ at hcut
              change ∀ w, (Instr.sliceAt 22 (.slice A10 l0.length c10) none (some (.int .i64 (S : Nat))) none).run Try.prog w = _ at hcutA
              have Ffirst_10 := Lib.hid (Fown_10.out.take_ HS.out)
              clear Fown_10
              obtain ⟨Y10, hY10⟩ : ∃ X, w10.alloc (.cells #[.slice A10 S c10] 24) = X := ⟨_, rfl⟩
              obtain ⟨db10, hsz10, hbb10⟩ := boxed hY10
              have b11 := hbb10
              have HB11 := Lib.hid (HB10.out.trans (b11.mono HB10.out.size))
              have Fv_11 := Lib.hid ((Fv_10.out.below_ b11 (Nat.le_refl _)).mono_ b11.size)
              have Fbox_11 := Lib.hid ((Fbox_10.out.below_ b11 (Nat.le_refl _)).mono_ b11.size)
              have Fp_11 := Lib.hid ((Fp_10.out.below_ b11 (Nat.le_refl _)).mono_ b11.size)
              have Ffirst_11 := Lib.hid ((Ffirst_10.out.below_ b11 (Nat.le_refl _)).mono_ b11.size)
              have dbox_11 := Fbox_11.out.2
              have dp_11 := Fp_11.out.2 0 _ rfl
              have dpb_11 := Fp_11.out.2 1 _ rfl
              have dpc_11 := Fp_11.out.2 2 _ rfl
              have dpd_11 := Fp_11.out.2 3 _ rfl
              clear b11 HB10 Fv_10 Fbox_10 Fp_10 Ffirst_10 dbox_10 dp_10 dpb_10 dpc_10 dpd_10
              have Fb2_11 : Hid (BoxAt Y10 Y10.heap.size w10.heap.size (.slice A10 S c10)) := ⟨by omega, db10⟩
              have db2_11 := Fb2_11.out.2
              clear hbb10 hsz10 db10
              have C12 := Lib.hid (pcheck_any _ _ _ Y10 Ffirst_11.out (Nat.le_refl _))
              rw [HF.out] at C12
              go_wp2_with (fail)
              refine (C12.out).mono ?_
              rintro e w12 ⟨rfl, b12⟩
              have HB12 := Lib.hid (HB11.out.trans (b12.mono HB11.out.size))
              have Fv_12 := Lib.hid ((Fv_11.out.below_ b12 (Nat.le_refl _)).mono_ b12.size)
              have Fbox_12 := Lib.hid ((Fbox_11.out.below_ b12 (Nat.le_refl _)).mono_ b12.size)
              have Fp_12 := Lib.hid ((Fp_11.out.below_ b12 (Nat.le_refl _)).mono_ b12.size)
              have Ffirst_12 := Lib.hid ((Ffirst_11.out.below_ b12 (Nat.le_refl _)).mono_ b12.size)
              have Fb2_12 := Lib.hid ((Fb2_11.out.below_ b12 (Nat.le_refl _)).mono_ b12.size)
              have dbox_12 := Fbox_12.out.2
              have dp_12 := Fp_12.out.2 0 _ rfl
              have dpb_12 := Fp_12.out.2 1 _ rfl
              have dpc_12 := Fp_12.out.2 2 _ rfl
              have dpd_12 := Fp_12.out.2 3 _ rfl
              have db2_12 := Fb2_12.out.2
              clear C12 b12 HB11 Fv_11 Fbox_11 Fp_11 Ffirst_11 Fb2_11 dbox_11 dp_11 dpb_11 dpc_11 dpd_11 db2_11
              clear Fv_12
              clear Ffirst_12
              have C13 := Lib.hid (works_voc w12)
              go_wp2_with (fail)
              refine (C13.out).mono ?_
              rintro e w13 ⟨rfl, b13⟩
              have HB13 := Lib.hid (HB12.out.trans (b13.mono HB12.out.size))
              have Fbox_13 := Lib.hid ((Fbox_12.out.below_ b13 (Nat.le_refl _)).mono_ b13.size)
              have Fp_13 := Lib.hid ((Fp_12.out.below_ b13 (Nat.le_refl _)).mono_ b13.size)
              have Fb2_13 := Lib.hid ((Fb2_12.out.below_ b13 (Nat.le_refl _)).mono_ b13.size)
              have dbox_13 := Fbox_13.out.2
              have dp_13 := Fp_13.out.2 0 _ rfl
              have dpb_13 := Fp_13.out.2 1 _ rfl
              have dpc_13 := Fp_13.out.2 2 _ rfl
              have dpd_13 := Fp_13.out.2 3 _ rfl
              have db2_13 := Fb2_13.out.2
              clear C13 b13 HB12 Fbox_12 Fp_12 Fb2_12 dbox_12 dp_12 dpb_12 dpc_12 dpd_12 db2_12
              go_wp2
              go_ret
              exact ⟨rfl, HB13.out⟩
            · skip
              have HF := Lib.hid hf
              clear hf
              obtain ⟨W, hW⟩ : ∃ X, w.alloc (.cells #[v0] 24) = X := ⟨_, rfl⟩
              obtain ⟨db, hsz, hbb⟩ := boxed hW
              have HB0 := Lib.hid hbb
              have Fv_0 := Lib.hid ((h0.below_ hbb (Nat.le_refl _)).mono_ hbb.size)
              have Fbox_0 : Hid (BoxAt W W.heap.size w.heap.size v0) := ⟨by omega, db⟩
              obtain ⟨A, c, rfl, hc1, hc2, _, _⟩ := h0
              have hl0 : l0.length ≤ 9223372036854775807 := by simp only [maxLen] at hc2; omega
              have dbox_0 := Fbox_0.out.2
              clear hc1 hc2 hbb hsz db
              go_enter Try.func8, Try.ntmps8
              have C1 := Lib.hid (many_any l0 _ _ W Fv_0.out)
              rw [HM.out] at C1
              go_wp2_with (fail)
              refine (C1.out).mono ?_
              rintro e w1 ⟨rfl, b1⟩
              have HB1 := Lib.hid (HB0.out.trans (b1.mono HB0.out.size))
              have Fv_1 := Lib.hid ((Fv_0.out.below_ b1 (Nat.le_refl _)).mono_ b1.size)
              have Fbox_1 := Lib.hid ((Fbox_0.out.below_ b1 (Nat.le_refl _)).mono_ b1.size)
              have dbox_1 := Fbox_1.out.2
              clear C1 b1 HB0 Fv_0 Fbox_0 dbox_0
              have C2 := Lib.hid (pcheck_any l0 _ _ w1 Fv_1.out (Nat.le_refl _))
              rw [HC.out] at C2
              go_wp2_with (fail)
              refine (C2.out).mono ?_
              rintro e w2 ⟨rfl, b2⟩
              have HB2 := Lib.hid (HB1.out.trans (b2.mono HB1.out.size))
              have Fv_2 := Lib.hid ((Fv_1.out.below_ b2 (Nat.le_refl _)).mono_ b2.size)
              have Fbox_2 := Lib.hid ((Fbox_1.out.below_ b2 (Nat.le_refl _)).mono_ b2.size)
              have dbox_2 := Fbox_2.out.2
              clear C2 b2 HB1 Fv_1 Fbox_1 dbox_1
              have C3 := Lib.hid (pexpand_any l0 _ t _ w2 Fv_2.out (Nat.le_refl _) HI.out HP.out)
              rw [HX.out] at C3
              go_wp2_with (fail)
              refine (C3.out).mono ?_
              rintro e w3 ⟨A3, c3, rfl, o3, b3⟩
              have HB3 := Lib.hid (HB2.out.trans (b3.mono HB2.out.size))
              have Fv_3 := Lib.hid ((Fv_2.out.below_ b3 (Nat.le_refl _)).mono_ b3.size)
              have Fbox_3 := Lib.hid ((Fbox_2.out.below_ b3 (Nat.le_refl _)).mono_ b3.size)
              have dbox_3 := Fbox_3.out.2
              have Fb_3 := Lib.hid (o3.form_)
              clear C3 b3 HB2 Fv_2 Fbox_2 dbox_2 o3
              obtain ⟨pb, po, p', e, hbp, hpok, hq, c0, c1, c2, c3, c4⟩ := Fv_3.out.piece_ HT.out
              rw [HPP.out] at hq
              obtain rfl := Option.some.inj hq
              subst e
              have hpbl : pb < w3.heap.size := hbp
              obtain ⟨Z, hZ⟩ : ∃ X, w3.alloc (.cells #[.bool p.join, .int .u8 (p.byte : Nat), .int .i64 p.left, .int .i64 p.right, .int .u32 (p.rank : Nat)] 33) = X := ⟨_, rfl⟩
              obtain ⟨pz, bZ⟩ := pboxed hZ
              have HPOK := Lib.hid hpok
              rw [hj] at hZ
              clear hpok
              have dkeep := dbox_3
              have b4 := bZ
              have HB4 := Lib.hid (HB3.out.trans (b4.mono HB3.out.size))
              have Fv_4 := Lib.hid ((Fv_3.out.below_ b4 (Nat.le_refl _)).mono_ b4.size)
              have Fbox_4 := Lib.hid ((Fbox_3.out.below_ b4 (Nat.le_refl _)).mono_ b4.size)
              have Fb_4 := Lib.hid ((Fb_3.out.below_ b4 (Nat.le_refl _)).mono_ b4.size)
              have dbox_4 := Fbox_4.out.2
              clear b4 HB3 Fv_3 Fbox_3 Fb_3 dbox_3
              have Fp_4 := Lib.hid pz
              clear bZ pz
              have dp_4 := Fp_4.out.2 0 _ rfl
              have dpb_4 := Fp_4.out.2 1 _ rfl
              have dpc_4 := Fp_4.out.2 2 _ rfl
              have dpd_4 := Fp_4.out.2 3 _ rfl
              have C5 := Lib.hid (pexpand_any l0 _ p.left _ Z Fv_4.out (Nat.le_refl _) HPOK.out.2.1 HP.out)
              rw [HXL.out] at C5
              go_wp2_with (fail)
              refine (C5.out).mono ?_
              rintro e w5 ⟨A5, c5, rfl, o5, b5⟩
              have HB5 := Lib.hid (HB4.out.trans (b5.mono HB4.out.size))
              have Fv_5 := Lib.hid ((Fv_4.out.below_ b5 (Nat.le_refl _)).mono_ b5.size)
              have Fbox_5 := Lib.hid ((Fbox_4.out.below_ b5 (Nat.le_refl _)).mono_ b5.size)
              have Fb_5 := Lib.hid ((Fb_4.out.below_ b5 (Nat.le_refl _)).mono_ b5.size)
              have Fp_5 := Lib.hid ((Fp_4.out.below_ b5 (Nat.le_refl _)).mono_ b5.size)
              have dbox_5 := Fbox_5.out.2
              have dp_5 := Fp_5.out.2 0 _ rfl
              have dpb_5 := Fp_5.out.2 1 _ rfl
              have dpc_5 := Fp_5.out.2 2 _ rfl
              have dpd_5 := Fp_5.out.2 3 _ rfl
              have Fl_5 := Lib.hid (o5.form_)
              clear C5 b5 HB4 Fv_4 Fbox_4 Fb_4 Fp_4 dbox_4 dp_4 dpb_4 dpc_4 dpd_4 o5
              have C6 := Lib.hid (pexpand_any l0 _ p.right _ w5 Fv_5.out (Nat.le_refl _) HPOK.out.2.2.1 HP.out)
              rw [HXR.out] at C6
              go_wp2_with (fail)
              refine (C6.out).mono ?_
              rintro e w6 ⟨A6, c6, rfl, o6, b6⟩
              have HB6 := Lib.hid (HB5.out.trans (b6.mono HB5.out.size))
              have Fv_6 := Lib.hid ((Fv_5.out.below_ b6 (Nat.le_refl _)).mono_ b6.size)
              have Fbox_6 := Lib.hid ((Fbox_5.out.below_ b6 (Nat.le_refl _)).mono_ b6.size)
              have Fb_6 := Lib.hid ((Fb_5.out.below_ b6 (Nat.le_refl _)).mono_ b6.size)
              have Fp_6 := Lib.hid ((Fp_5.out.below_ b6 (Nat.le_refl _)).mono_ b6.size)
              have Fl_6 := Lib.hid ((Fl_5.out.below_ b6 (Nat.le_refl _)).mono_ b6.size)
              have dbox_6 := Fbox_6.out.2
              have dp_6 := Fp_6.out.2 0 _ rfl
              have dpb_6 := Fp_6.out.2 1 _ rfl
              have dpc_6 := Fp_6.out.2 2 _ rfl
              have dpd_6 := Fp_6.out.2 3 _ rfl
              have Fr_6 := Lib.hid (o6.form_)
              clear C6 b6 HB5 Fv_5 Fbox_5 Fb_5 Fp_5 Fl_5 dbox_5 dp_5 dpb_5 dpc_5 dpd_5 o6
              go_wp2_with (at_builtin; go_must (refine wpList_append_l _ yK rfl _ _ rfl w6.heap.size (.slice none 0 0) rfl [] (OwnL.nil_ _ _ _) _ rfl w6.heap.size xl Fl_6.out (by have := HZZ.out; show (_ + _) * 1 ≤ _; simp only [List.length_nil]; omega) (by have := HZZ.out; simp only [List.length_nil, maxLen]; omega) (Nat.le_refl _) ?_))
              intro AL cL y1 hA hG
              have bY1 := Lib.hid ((Below.refl w6.heap.size w6).grown hG (Nat.le_refl _) (by intro k hk; cases hk))
              have oY1 := Lib.hid hA
              have fR := Lib.hid ((Fr_6.out.below_ bY1.out (Nat.le_refl _)))
              clear hA hG
              go_wp2_with (at_builtin; go_must (refine wpList_append_l _ yK rfl _ _ rfl w6.heap.size (.slice AL xl.length cL) rfl xl oY1.out _ rfl w6.heap.size xr fR.out (by have := HZZ.out; show (_ + _) * 1 ≤ _; omega) (by have := HZZ.out; simp only [maxLen]; omega) bY1.out.size ?_))
              intro AM cM y2 hA hG
              have bY2 := bY1.out.grown hG bY1.out.size (fun k hk => (oY1.out.lt_ k hk).1)
              have oY2 := Lib.hid hA
              clear hA hG oY1 fR bY1
              have b7 := bY2
              have HB7 := Lib.hid (HB6.out.trans (b7.mono HB6.out.size))
              have Fv_7 := Lib.hid ((Fv_6.out.below_ b7 (Nat.le_refl _)).mono_ b7.size)
              have Fbox_7 := Lib.hid ((Fbox_6.out.below_ b7 (Nat.le_refl _)).mono_ b7.size)
              have Fb_7 := Lib.hid ((Fb_6.out.below_ b7 (Nat.le_refl _)).mono_ b7.size)
              have Fp_7 := Lib.hid ((Fp_6.out.below_ b7 (Nat.le_refl _)).mono_ b7.size)
              have Fl_7 := Lib.hid ((Fl_6.out.below_ b7 (Nat.le_refl _)).mono_ b7.size)
              have Fr_7 := Lib.hid ((Fr_6.out.below_ b7 (Nat.le_refl _)).mono_ b7.size)
              have dbox_7 := Fbox_7.out.2
              have dp_7 := Fp_7.out.2 0 _ rfl
              have dpb_7 := Fp_7.out.2 1 _ rfl
              have dpc_7 := Fp_7.out.2 2 _ rfl
              have dpd_7 := Fp_7.out.2 3 _ rfl
              clear b7 HB6 Fv_6 Fbox_6 Fb_6 Fp_6 Fl_6 Fr_6 dbox_6 dp_6 dpb_6 dpc_6 dpd_6
              have Fall_7 := Lib.hid oY2.out.form_
              clear bY2 oY2
              clear Fl_7
              clear Fr_7
              have C8 := Lib.hid (pfind_any l0 _ p.left p.right _ y2 Fv_7.out (Nat.le_refl _) HPOK.out.2.1 HPOK.out.2.2.1 HP.out)
              rw [HFJ.out] at C8
              go_wp2_with (fail)
              refine (C8.out).mono ?_
              rintro e w8 ⟨rfl, b8⟩
              have HB8 := Lib.hid (HB7.out.trans (b8.mono HB7.out.size))
              have Fv_8 := Lib.hid ((Fv_7.out.below_ b8 (Nat.le_refl _)).mono_ b8.size)
              have Fbox_8 := Lib.hid ((Fbox_7.out.below_ b8 (Nat.le_refl _)).mono_ b8.size)
              have Fb_8 := Lib.hid ((Fb_7.out.below_ b8 (Nat.le_refl _)).mono_ b8.size)
              have Fp_8 := Lib.hid ((Fp_7.out.below_ b8 (Nat.le_refl _)).mono_ b8.size)
              have Fall_8 := Lib.hid ((Fall_7.out.below_ b8 (Nat.le_refl _)).mono_ b8.size)
              have dbox_8 := Fbox_8.out.2
              have dp_8 := Fp_8.out.2 0 _ rfl
              have dpb_8 := Fp_8.out.2 1 _ rfl
              have dpc_8 := Fp_8.out.2 2 _ rfl
              have dpd_8 := Fp_8.out.2 3 _ rfl
              clear C8 b8 HB7 Fv_7 Fbox_7 Fb_7 Fp_7 Fall_7 dbox_7 dp_7 dpb_7 dpc_7 dpd_7
              have C9 := Lib.hid (octs_lv _ _ _ _ _ _ w8 Fb_8.out Fall_8.out)
              rw [HXJ.out] at C9
              go_wp2_with (fail)
              refine (C9.out).mono ?_
              rintro e w9 ⟨rfl, b9⟩
              have HB9 := Lib.hid (HB8.out.trans (b9.mono HB8.out.size))
              have Fv_9 := Lib.hid ((Fv_8.out.below_ b9 (Nat.le_refl _)).mono_ b9.size)
              have Fbox_9 := Lib.hid ((Fbox_8.out.below_ b9 (Nat.le_refl _)).mono_ b9.size)
              have Fb_9 := Lib.hid ((Fb_8.out.below_ b9 (Nat.le_refl _)).mono_ b9.size)
              have Fp_9 := Lib.hid ((Fp_8.out.below_ b9 (Nat.le_refl _)).mono_ b9.size)
              have Fall_9 := Lib.hid ((Fall_8.out.below_ b9 (Nat.le_refl _)).mono_ b9.size)
              have dbox_9 := Fbox_9.out.2
              have dp_9 := Fp_9.out.2 0 _ rfl
              have dpb_9 := Fp_9.out.2 1 _ rfl
              have dpc_9 := Fp_9.out.2 2 _ rfl
              have dpd_9 := Fp_9.out.2 3 _ rfl
              clear C9 b9 HB8 Fv_8 Fbox_8 Fb_8 Fp_8 Fall_8 dbox_8 dp_8 dpb_8 dpc_8 dpd_8
              clear Fb_9
              clear Fall_9
              have C10 := Lib.hid (copyvoc_any l0 _ _ w9 Fv_9.out (Nat.le_refl _) HP2.out)
              go_wp2_with (fail)
              refine (C10.out).mono ?_
              rintro e w10 ⟨A10, c10, rfl, o10, b10⟩
              have HB10 := Lib.hid (HB9.out.trans (b10.mono HB9.out.size))
              have Fv_10 := Lib.hid ((Fv_9.out.below_ b10 (Nat.le_refl _)).mono_ b10.size)
              have Fbox_10 := Lib.hid ((Fbox_9.out.below_ b10 (Nat.le_refl _)).mono_ b10.size)
              have Fp_10 := Lib.hid ((Fp_9.out.below_ b10 (Nat.le_refl _)).mono_ b10.size)
              have dbox_10 := Fbox_10.out.2
              have dp_10 := Fp_10.out.2 0 _ rfl
              have dpb_10 := Fp_10.out.2 1 _ rfl
              have dpc_10 := Fp_10.out.2 2 _ rfl
              have dpd_10 := Fp_10.out.2 3 _ rfl
              have Fown_10 := Lib.hid (o10.form_)
              clear C10 b10 HB9 Fv_9 Fbox_9 Fp_9 dbox_9 dp_9 dpb_9 dpc_9 dpd_9 o10
              have hfld := fun w => pieces_field (.slice A10 l0.length c10) w
              have hcut := fun w => cut_to pK (by kernel_rfl) A10 l0.length c10 S (Nat.le_trans HS.out (Fown_10.out.len_.2.1)) w
              have hcutA := fun w => cutAt_to pK (by kernel_rfl) A10 l0.length c10 S (Nat.le_trans HS.out (Fown_10.out.len_.2.1)) w
              change ∀ w, (Instr.slice 22 (.slice A10 l0.length c10) none (some (.int .i64 (S : Nat))) none).run Try.prog w = _ at hcut
              change ∀ w, (Instr.sliceAt 22 (.slice A10 l0.length c10) none (some (.int .i64 (S : Nat))) none).run Try.prog w = _ at hcutA
              have Ffirst_10 := Lib.hid (Fown_10.out.take_ HS.out)
              clear Fown_10
              obtain ⟨Y10, hY10⟩ : ∃ X, w10.alloc (.cells #[.slice A10 S c10] 24) = X := ⟨_, rfl⟩
              obtain ⟨db10, hsz10, hbb10⟩ := boxed hY10
              have b11 := hbb10
              have HB11 := Lib.hid (HB10.out.trans (b11.mono HB10.out.size))
              have Fv_11 := Lib.hid ((Fv_10.out.below_ b11 (Nat.le_refl _)).mono_ b11.size)
              have Fbox_11 := Lib.hid ((Fbox_10.out.below_ b11 (Nat.le_refl _)).mono_ b11.size)
              have Fp_11 := Lib.hid ((Fp_10.out.below_ b11 (Nat.le_refl _)).mono_ b11.size)
              have Ffirst_11 := Lib.hid ((Ffirst_10.out.below_ b11 (Nat.le_refl _)).mono_ b11.size)
              have dbox_11 := Fbox_11.out.2
              have dp_11 := Fp_11.out.2 0 _ rfl
              have dpb_11 := Fp_11.out.2 1 _ rfl
              have dpc_11 := Fp_11.out.2 2 _ rfl
              have dpd_11 := Fp_11.out.2 3 _ rfl
              clear b11 HB10 Fv_10 Fbox_10 Fp_10 Ffirst_10 dbox_10 dp_10 dpb_10 dpc_10 dpd_10
              have Fb2_11 : Hid (BoxAt Y10 Y10.heap.size w10.heap.size (.slice A10 S c10)) := ⟨by omega, db10⟩
              have db2_11 := Fb2_11.out.2
              clear hbb10 hsz10 db10
              have C12 := Lib.hid (pcheck_any _ _ _ Y10 Ffirst_11.out (Nat.le_refl _))
              rw [HF.out] at C12
              go_wp2_with (fail)
              refine (C12.out).mono ?_
              rintro e w12 ⟨rfl, b12⟩
              have HB12 := Lib.hid (HB11.out.trans (b12.mono HB11.out.size))
              have Fv_12 := Lib.hid ((Fv_11.out.below_ b12 (Nat.le_refl _)).mono_ b12.size)
              have Fbox_12 := Lib.hid ((Fbox_11.out.below_ b12 (Nat.le_refl _)).mono_ b12.size)
              have Fp_12 := Lib.hid ((Fp_11.out.below_ b12 (Nat.le_refl _)).mono_ b12.size)
              have Ffirst_12 := Lib.hid ((Ffirst_11.out.below_ b12 (Nat.le_refl _)).mono_ b12.size)
              have Fb2_12 := Lib.hid ((Fb2_11.out.below_ b12 (Nat.le_refl _)).mono_ b12.size)
              have dbox_12 := Fbox_12.out.2
              have dp_12 := Fp_12.out.2 0 _ rfl
              have dpb_12 := Fp_12.out.2 1 _ rfl
              have dpc_12 := Fp_12.out.2 2 _ rfl
              have dpd_12 := Fp_12.out.2 3 _ rfl
              have db2_12 := Fb2_12.out.2
              clear C12 b12 HB11 Fv_11 Fbox_11 Fp_11 Ffirst_11 Fb2_11 dbox_11 dp_11 dpb_11 dpc_11 dpd_11 db2_11
              clear Fv_12
              clear Ffirst_12
              have C13 := Lib.hid (works_voc w12)
              go_wp2_with (fail)
              refine (C13.out).mono ?_
              rintro e w13 ⟨rfl, b13⟩
              have HB13 := Lib.hid (HB12.out.trans (b13.mono HB12.out.size))
              have Fbox_13 := Lib.hid ((Fbox_12.out.below_ b13 (Nat.le_refl _)).mono_ b13.size)
              have Fp_13 := Lib.hid ((Fp_12.out.below_ b13 (Nat.le_refl _)).mono_ b13.size)
              have Fb2_13 := Lib.hid ((Fb2_12.out.below_ b13 (Nat.le_refl _)).mono_ b13.size)
              have dbox_13 := Fbox_13.out.2
              have dp_13 := Fp_13.out.2 0 _ rfl
              have dpb_13 := Fp_13.out.2 1 _ rfl
              have dpc_13 := Fp_13.out.2 2 _ rfl
              have dpd_13 := Fp_13.out.2 3 _ rfl
              have db2_13 := Fb2_13.out.2
              clear C13 b13 HB12 Fbox_12 Fp_12 Fb2_12 dbox_12 dp_12 dpb_12 dpc_12 dpd_12 db2_12
              go_wp2
              go_ret
              exact ⟨rfl, HB13.out⟩
      · skip
        rcases (show a1 < 0 ∨ (0 ≤ a1 ∧ (l0.length : Int) ≤ a1) by omega) with hn | hn
        · skip
          clear hin hmay
          obtain ⟨W, hW⟩ : ∃ X, w.alloc (.cells #[v0] 24) = X := ⟨_, rfl⟩
          obtain ⟨db, hsz, hbb⟩ := boxed hW
          have HB0 := Lib.hid hbb
          have Fv_0 := Lib.hid ((h0.below_ hbb (Nat.le_refl _)).mono_ hbb.size)
          have Fbox_0 : Hid (BoxAt W W.heap.size w.heap.size v0) := ⟨by omega, db⟩
          obtain ⟨A, c, rfl, hc1, hc2, _, _⟩ := h0
          have hl0 : l0.length ≤ 9223372036854775807 := by simp only [maxLen] at hc2; omega
          have dbox_0 := Fbox_0.out.2
          clear hc1 hc2 hbb hsz db
          go_enter Try.func8, Try.ntmps8
          have C1 := Lib.hid (many_any l0 _ _ W Fv_0.out)
          rw [HM.out] at C1
          go_wp2_with (fail)
          refine (C1.out).mono ?_
          rintro e w1 ⟨rfl, b1⟩
          have HB1 := Lib.hid (HB0.out.trans (b1.mono HB0.out.size))
          have Fv_1 := Lib.hid ((Fv_0.out.below_ b1 (Nat.le_refl _)).mono_ b1.size)
          have Fbox_1 := Lib.hid ((Fbox_0.out.below_ b1 (Nat.le_refl _)).mono_ b1.size)
          have dbox_1 := Fbox_1.out.2
          clear C1 b1 HB0 Fv_0 Fbox_0 dbox_0
          have C2 := Lib.hid (pcheck_any l0 _ _ w1 Fv_1.out (Nat.le_refl _))
          rw [HC.out] at C2
          go_wp2_with (fail)
          refine (C2.out).mono ?_
          rintro e w2 ⟨rfl, b2⟩
          have HB2 := Lib.hid (HB1.out.trans (b2.mono HB1.out.size))
          have Fv_2 := Lib.hid ((Fv_1.out.below_ b2 (Nat.le_refl _)).mono_ b2.size)
          have Fbox_2 := Lib.hid ((Fbox_1.out.below_ b2 (Nat.le_refl _)).mono_ b2.size)
          have dbox_2 := Fbox_2.out.2
          clear C2 b2 HB1 Fv_1 Fbox_1 dbox_1
          clear Fv_2
          have C3 := Lib.hid (works_voc w2)
          go_wp2_with (fail)
          refine (C3.out).mono ?_
          rintro e w3 ⟨rfl, b3⟩
          have HB3 := Lib.hid (HB2.out.trans (b3.mono HB2.out.size))
          have Fbox_3 := Lib.hid ((Fbox_2.out.below_ b3 (Nat.le_refl _)).mono_ b3.size)
          have dbox_3 := Fbox_3.out.2
          clear C3 b3 HB2 Fbox_2 dbox_2
          go_wp2
          go_ret
          exact ⟨rfl, HB3.out⟩
        · skip
          have hn1 : ¬ a1 < 0 := by omega
          have hn2 := hn.2
          clear hin hmay hn
          obtain ⟨W, hW⟩ : ∃ X, w.alloc (.cells #[v0] 24) = X := ⟨_, rfl⟩
          obtain ⟨db, hsz, hbb⟩ := boxed hW
          have HB0 := Lib.hid hbb
          have Fv_0 := Lib.hid ((h0.below_ hbb (Nat.le_refl _)).mono_ hbb.size)
          have Fbox_0 : Hid (BoxAt W W.heap.size w.heap.size v0) := ⟨by omega, db⟩
          obtain ⟨A, c, rfl, hc1, hc2, _, _⟩ := h0
          have hl0 : l0.length ≤ 9223372036854775807 := by simp only [maxLen] at hc2; omega
          have dbox_0 := Fbox_0.out.2
          clear hc1 hc2 hbb hsz db
          go_enter Try.func8, Try.ntmps8
          have C1 := Lib.hid (many_any l0 _ _ W Fv_0.out)
          rw [HM.out] at C1
          go_wp2_with (fail)
          refine (C1.out).mono ?_
          rintro e w1 ⟨rfl, b1⟩
          have HB1 := Lib.hid (HB0.out.trans (b1.mono HB0.out.size))
          have Fv_1 := Lib.hid ((Fv_0.out.below_ b1 (Nat.le_refl _)).mono_ b1.size)
          have Fbox_1 := Lib.hid ((Fbox_0.out.below_ b1 (Nat.le_refl _)).mono_ b1.size)
          have dbox_1 := Fbox_1.out.2
          clear C1 b1 HB0 Fv_0 Fbox_0 dbox_0
          have C2 := Lib.hid (pcheck_any l0 _ _ w1 Fv_1.out (Nat.le_refl _))
          rw [HC.out] at C2
          go_wp2_with (fail)
          refine (C2.out).mono ?_
          rintro e w2 ⟨rfl, b2⟩
          have HB2 := Lib.hid (HB1.out.trans (b2.mono HB1.out.size))
          have Fv_2 := Lib.hid ((Fv_1.out.below_ b2 (Nat.le_refl _)).mono_ b2.size)
          have Fbox_2 := Lib.hid ((Fbox_1.out.below_ b2 (Nat.le_refl _)).mono_ b2.size)
          have dbox_2 := Fbox_2.out.2
          clear C2 b2 HB1 Fv_1 Fbox_1 dbox_1
          clear Fv_2
          have C3 := Lib.hid (works_voc w2)
          go_wp2_with (fail)
          refine (C3.out).mono ?_
          rintro e w3 ⟨rfl, b3⟩
          have HB3 := Lib.hid (HB2.out.trans (b3.mono HB2.out.size))
          have Fbox_3 := Lib.hid ((Fbox_2.out.below_ b3 (Nat.le_refl _)).mono_ b3.size)
          have dbox_3 := Fbox_3.out.2
          clear C3 b3 HB2 Fbox_2 dbox_2
          go_wp2
          go_ret
          exact ⟨rfl, HB3.out⟩
    · skip
      obtain ⟨E, T, hc, hE⟩ := Vo.check_bad hmay
      have HC := Lib.hid hc
      have heb : ((E : Int) != 0) = true := by rw [bne_iff_ne]; omega
      clear hmay hc hE
      obtain ⟨W, hW⟩ : ∃ X, w.alloc (.cells #[v0] 24) = X := ⟨_, rfl⟩
      obtain ⟨db, hsz, hbb⟩ := boxed hW
      have HB0 := Lib.hid hbb
      have Fv_0 := Lib.hid ((h0.below_ hbb (Nat.le_refl _)).mono_ hbb.size)
      have Fbox_0 : Hid (BoxAt W W.heap.size w.heap.size v0) := ⟨by omega, db⟩
      obtain ⟨A, c, rfl, hc1, hc2, _, _⟩ := h0
      have hl0 : l0.length ≤ 9223372036854775807 := by simp only [maxLen] at hc2; omega
      have dbox_0 := Fbox_0.out.2
      clear hc1 hc2 hbb hsz db
      go_enter Try.func8, Try.ntmps8
      have C1 := Lib.hid (many_any l0 _ _ W Fv_0.out)
      rw [HM.out] at C1
      go_wp2_with (fail)
      refine (C1.out).mono ?_
      rintro e w1 ⟨rfl, b1⟩
      have HB1 := Lib.hid (HB0.out.trans (b1.mono HB0.out.size))
      have Fv_1 := Lib.hid ((Fv_0.out.below_ b1 (Nat.le_refl _)).mono_ b1.size)
      have Fbox_1 := Lib.hid ((Fbox_0.out.below_ b1 (Nat.le_refl _)).mono_ b1.size)
      have dbox_1 := Fbox_1.out.2
      clear C1 b1 HB0 Fv_0 Fbox_0 dbox_0
      have C2 := Lib.hid (pcheck_any l0 _ _ w1 Fv_1.out (Nat.le_refl _))
      rw [HC.out] at C2
      go_wp2_with (fail)
      refine (C2.out).mono ?_
      rintro e w2 ⟨rfl, b2⟩
      have HB2 := Lib.hid (HB1.out.trans (b2.mono HB1.out.size))
      have Fv_2 := Lib.hid ((Fv_1.out.below_ b2 (Nat.le_refl _)).mono_ b2.size)
      have Fbox_2 := Lib.hid ((Fbox_1.out.below_ b2 (Nat.le_refl _)).mono_ b2.size)
      have dbox_2 := Fbox_2.out.2
      clear C2 b2 HB1 Fv_1 Fbox_1 dbox_1
      clear Fv_2
      have C3 := Lib.hid (works_voc w2)
      go_wp2_with (fail)
      refine (C3.out).mono ?_
      rintro e w3 ⟨rfl, b3⟩
      have HB3 := Lib.hid (HB2.out.trans (b3.mono HB2.out.size))
      have Fbox_3 := Lib.hid ((Fbox_2.out.below_ b3 (Nat.le_refl _)).mono_ b3.size)
      have dbox_3 := Fbox_3.out.2
      clear C3 b3 HB2 Fbox_2 dbox_2
      go_wp2
      go_ret
      exact ⟨rfl, HB3.out⟩

/-! ### From the walk to the row -/
set_option maxRecDepth 100000 in
theorem lifted (os : Os) (started : os.Started) (H : Type) (enc : TypeId × Value → H) :
    ReturnsInHanded {} Try.checked os 8 .any (Rows.vocabStaysSpec.pre6 enc Try.prog Try.f8 Rows.vocabStaysRow.domain false) (Rows.vocabStaysSpec.post enc Try.prog Try.f8 false true false false) := by
  refine returnsInHanded_of_change (C := Try.checked) own started (by kernel_rfl) Try.func8
    (ChangeSpec.witness6 (enc := enc) (C := Try.checked) false ⟨#[], #[.agg #[.slice none 0 0], .int .i64 0, .int .i64 0], []⟩ 8 (by kernel_rfl) (by kernel_rfl) (by kernel_rfl) (by kernel_rfl)) ?_
  intro W base args ds gs before hval0 hW hcnd _
  have hval : ∀ (j : Nat) t v, Try.f8.params[j]? = some t → args[j]? = some v → Value.okWide Try.prog W .any base t v := hval0
  have hW' := hW
  obtain ⟨p, q, hA0, hV, rfl, hfz, hnd⟩ := hW
  have hA : DataW.TrodAll enc Try.prog W 0 (fun _ => true) true Try.f8.params.toList args.toList ds p := hA0
  rw [Try.params8] at hA hval
  obtain ⟨v0, vs0, d0, ds0, p0, q0, hargs, rfl, rfl, h0, r0⟩ := trodAll_cons hA
  obtain ⟨v1, vs1, d1, ds1, p1, q1, rfl, rfl, rfl, h1, r1⟩ := trodAll_cons r0
  obtain ⟨v2, vs2, d2, ds2, p2, q2, rfl, rfl, rfl, h2, r2⟩ := trodAll_cons r1
  obtain ⟨rfl, rfl, rfl⟩ := trodAll_nil r2
  obtain rfl : args = #[v0, v1, v2] := by cases args; simp_all
  obtain ⟨rfl, rfl⟩ := trodVars_none hV
  have k0 := h0
  have lt0 : ∀ x ∈ p0, x.block < W.heap.size := by obtain ⟨m, hm⟩ := k0; exact DataW.trod_lt m _ _ _ hm
  obtain ⟨u0, l0, rfl, hb0⟩ := voc_in (hval 0 24 v0 rfl rfl) h0
  obtain ⟨a1, rfl, rfl, rfl, w1⟩ := open_int Try.underlying3 (hval 1 3 v1 rfl rfl) h1
  obtain ⟨a2, rfl, rfl, rfl, w2⟩ := open_int Try.underlying3 (hval 2 3 v2 rfl rfl) h2
  clear hA0 hval0
  refine (walk W u0 l0 hb0 a1 w1 a2 w2).mono fun e W' ⟨he, bel⟩ => ?_
  subst he
  exact ⟨_, rfl, _, _, _, [], _, [], hW', trodAll_mk1 (shut_bool Try.underlying4 _), (trodAll_cons_mk (Below.trod laidOut (by kernel_rfl) (of_decide_eq_true (by kernel_rfl)) k0 bel lt0) (trodAll_cons_mk (shut_int Try.underlying3 w1) (trodAll_cons_mk (shut_int Try.underlying3 w2) trodAll_mk0))), rfl, bel.frame _, fun h => by cases h⟩

theorem proved : Rows.VocabStaysSaid :=
  OpenClaim.holds_of_wide 8 Try.f8 rfl rfl rfl rfl rfl rfl rfl ⟨rfl, rfl, rfl, rfl, rfl⟩ rfl rfl rfl rfl rfl (by kernel_rfl) Try.func8 (by kernel_rfl)
    (of_decide_eq_true (by kernel_rfl)) (by unfold Func.isWrapper; first | (rw [if_pos (by decide +kernel)]; kernel_rfl) | (rw [if_neg (by decide +kernel)]; exact ⟨rfl, rfl⟩))
    (fun os started H enc _ => lifted os started H enc)

end Go.Proofs.Ytgkmlcghkkpgpaa.vocabStays
