/-
  BpeLeast: tokens are what steps from the row that one begins with come to. No condition.
-/
import Derived.Test.YtaedhccmdbodlaaPk29
import Derived.Test.YtaedhccmdbodlaaPk30
import Derived.Test.YtaedhccmdbodlaaPk31
namespace Go.Proofs.Ytaedhccmdbodlaa.bpeLeast
open Go.ChangeShapes Go.WideShapes Go.ChangeAt Go.RowKit
open Go.ChangeMaps (open_string shut_string)
set_option linter.unusedVariables false

set_option maxHeartbeats 8000000 in
set_option maxRecDepth 100000 in
theorem walk (w : World) (v0 : Value) (l0 : List Vo.Pc) (h0 : Lv pK w w.heap.size v0 l0) (v1 : Value) (l1 : List Nat) (h1 : Lv yK w w.heap.size v1 l1) :
    Calls Try.prog 8 #[.agg #[v0], v1] w (IsBool true w) := by
  obtain ⟨A1, c1', rfl, hd1, hd2, _, _⟩ := id h1
  have hl1 : l1.length ≤ 9223372036854775807 := by simp only [maxLen] at hd2; omega
  have H1 := Lib.hid h1
  have HI1 : I64 ((l1.length : Nat) : Int) := by unfold I64; omega
  clear hd1 hd2 h1
  by_cases hm : 500 < l0.length ∨ (300 < ((l1.length : Nat) : Int) ∧ ((l1.length : Nat) : Int) ≤ 4096)
  · skip
    have HM : Hid (decide (500 < l0.length ∨ (300 < ((l1.length : Nat) : Int) ∧ ((l1.length : Nat) : Int) ≤ 4096)) = true) := decide_eq_true hm
    clear hm
    obtain ⟨W, hW⟩ : ∃ X, w.alloc (.cells #[v0] 24) = X := ⟨_, rfl⟩
    obtain ⟨db, hsz, hbb⟩ := boxed hW
    have HB0 := Lib.hid hbb
    have Fv_0 := Lib.hid ((h0.below_ hbb (Nat.le_refl _)).mono_ hbb.size)
    have Fbox_0 : Hid (BoxAt W W.heap.size w.heap.size v0) := ⟨by omega, db⟩
    obtain ⟨A, c, rfl, hc1, hc2, _, _⟩ := h0
    have hl0 : l0.length ≤ 9223372036854775807 := by simp only [maxLen] at hc2; omega
    have dbox_0 := Fbox_0.out.2
    clear hc1 hc2 hbb hsz db
    go_enter Try.func8, Try.ntmps8
    have C1 := Lib.hid (rlong_any l0 _ ((l1.length : Nat) : Int) HI1 _ W Fv_0.out)
    rw [HM.out] at C1
    go_wp2_with (fail)
    refine (C1.out).mono ?_
    rintro e w1 ⟨rfl, b1⟩
    have HB1 := Lib.hid (HB0.out.trans (b1.mono HB0.out.size))
    have Fv_1 := Lib.hid ((Fv_0.out.below_ b1 (Nat.le_refl _)).mono_ b1.size)
    have Fbox_1 := Lib.hid ((Fbox_0.out.below_ b1 (Nat.le_refl _)).mono_ b1.size)
    have dbox_1 := Fbox_1.out.2
    clear C1 b1 HB0 Fv_0 Fbox_0 dbox_0
    clear Fv_1
    have C2 := Lib.hid (works_bp w1)
    go_wp2_with (fail)
    refine (C2.out).mono ?_
    rintro e w2 ⟨rfl, b2⟩
    have HB2 := Lib.hid (HB1.out.trans (b2.mono HB1.out.size))
    have Fbox_2 := Lib.hid ((Fbox_1.out.below_ b2 (Nat.le_refl _)).mono_ b2.size)
    have dbox_2 := Fbox_2.out.2
    clear C2 b2 HB1 Fbox_1 dbox_1
    go_wp2
    go_ret
    exact ⟨rfl, HB2.out⟩
  · skip
    have HM : Hid (decide (500 < l0.length ∨ (300 < ((l1.length : Nat) : Int) ∧ ((l1.length : Nat) : Int) ≤ 4096)) = false) := decide_eq_false hm
    have HP : Hid (l0.length ≤ 501) := by unfold Hid; omega
    have HFW : Hid (Bp.Few l1.length) := by unfold Hid Bp.Few; omega
    clear hm
    by_cases h60 : 60 < l1.length
    · skip
      have h6i : (60 : Int) < (l1.length : Int) := by omega
      clear h60
      obtain ⟨W, hW⟩ : ∃ X, w.alloc (.cells #[v0] 24) = X := ⟨_, rfl⟩
      obtain ⟨db, hsz, hbb⟩ := boxed hW
      have HB0 := Lib.hid hbb
      have Fv_0 := Lib.hid ((h0.below_ hbb (Nat.le_refl _)).mono_ hbb.size)
      have Fbox_0 : Hid (BoxAt W W.heap.size w.heap.size v0) := ⟨by omega, db⟩
      obtain ⟨A, c, rfl, hc1, hc2, _, _⟩ := h0
      have hl0 : l0.length ≤ 9223372036854775807 := by simp only [maxLen] at hc2; omega
      have dbox_0 := Fbox_0.out.2
      clear hc1 hc2 hbb hsz db
      go_enter Try.func8, Try.ntmps8
      have C1 := Lib.hid (rlong_any l0 _ ((l1.length : Nat) : Int) HI1 _ W Fv_0.out)
      rw [HM.out] at C1
      go_wp2_with (fail)
      refine (C1.out).mono ?_
      rintro e w1 ⟨rfl, b1⟩
      have HB1 := Lib.hid (HB0.out.trans (b1.mono HB0.out.size))
      have Fv_1 := Lib.hid ((Fv_0.out.below_ b1 (Nat.le_refl _)).mono_ b1.size)
      have Fbox_1 := Lib.hid ((Fbox_0.out.below_ b1 (Nat.le_refl _)).mono_ b1.size)
      have dbox_1 := Fbox_1.out.2
      clear C1 b1 HB0 Fv_0 Fbox_0 dbox_0
      clear Fv_1
      have C2 := Lib.hid (works_bp w1)
      go_wp2_with (fail)
      refine (C2.out).mono ?_
      rintro e w2 ⟨rfl, b2⟩
      have HB2 := Lib.hid (HB1.out.trans (b2.mono HB1.out.size))
      have Fbox_2 := Lib.hid ((Fbox_1.out.below_ b2 (Nat.le_refl _)).mono_ b2.size)
      have dbox_2 := Fbox_2.out.2
      clear C2 b2 HB1 Fbox_1 dbox_1
      go_wp2
      go_ret
      exact ⟨rfl, HB2.out⟩
    · skip
      have h6i : ¬ (60 : Int) < (l1.length : Int) := by omega
      have HL6 : Hid (l1.length ≤ 60) := by unfold Hid; omega
      have hok : ∀ q ∈ l0, q.byte < 256 := fun q hq => (h0.ok_ q hq).1
      have hb1 : ∀ c ∈ l1, c < 256 := fun c hc => H1.out.ok_ c hc
      clear h60
      by_cases hmay : Vo.May l0
      · skip
        have hln : l1.length ≤ 4096 := by have := HL6.out; omega
        have HR0 : Hid (Bp.Run l0 l1 0 (Bp.beginL l0 l1)) := Bp.Run.begin hmay hok hb1
        have HNX : Hid (∀ (k : Nat) (m : List Int), Bp.Run l0 l1 k m → (Bp.stepE l0 m = (m, false, 0) ∧ Bp.decE l0 m = (l1, 0) ∧ m = Bp.enc l0 l1) ∨ (∃ m', Bp.stepE l0 m = (m', true, 0) ∧ Bp.decE l0 m' = (l1, 0) ∧ Bp.Run l0 l1 (k + 1) m' ∧ m'.length + 1 = m.length)) := fun k m h => h.next hmay hln
        have HDN : Hid (∀ m, Bp.Run l0 l1 l1.length m → m = Bp.enc l0 l1) := fun m h => h.done
        have HSE : Hid (Bp.stepE l0 (Bp.enc l0 l1) = (Bp.enc l0 l1, false, 0)) := Bp.step_enc hmay hok hb1 hln
        have HBE : Hid (Bp.beginE l0 l1 = (Bp.beginL l0 l1, 0)) := (if_pos hmay).trans (if_neg (by omega))
        have HEE : Hid (Bp.encE l0 l1 = (Bp.enc l0 l1, 0)) := (if_pos hmay).trans (if_neg (by omega))
        have HLE : Hid ((Bp.enc l0 l1).length ≤ l1.length) := Bp.enc_len
        obtain ⟨x, hxe⟩ : ∃ x, Bp.enc l0 l1 = x := ⟨_, rfl⟩
        obtain ⟨m0, hme⟩ : ∃ x, Bp.beginL l0 l1 = x := ⟨_, rfl⟩
        rw [hxe] at HNX HDN HSE HEE HLE
        rw [hme] at HR0 HBE
        have HFX : Hid (Bp.Few x.length) := by have h := HL6.out; have h2 := HLE.out; unfold Hid Bp.Few; omega
        clear hmay hok hb1 hln hxe hme
        obtain ⟨W, hW⟩ : ∃ X, w.alloc (.cells #[v0] 24) = X := ⟨_, rfl⟩
        obtain ⟨db, hsz, hbb⟩ := boxed hW
        have HB0 := Lib.hid hbb
        have Fv_0 := Lib.hid ((h0.below_ hbb (Nat.le_refl _)).mono_ hbb.size)
        have Fbox_0 : Hid (BoxAt W W.heap.size w.heap.size v0) := ⟨by omega, db⟩
        obtain ⟨A, c, rfl, hc1, hc2, _, _⟩ := h0
        have hl0 : l0.length ≤ 9223372036854775807 := by simp only [maxLen] at hc2; omega
        have dbox_0 := Fbox_0.out.2
        clear hc1 hc2 hbb hsz db
        go_enter Try.func8, Try.ntmps8
        have Fb_0 := Lib.hid ((H1.out.below_ HB0.out (Nat.le_refl _)).mono_ HB0.out.size)
        have C1 := Lib.hid (rlong_any l0 _ ((l1.length : Nat) : Int) HI1 _ W Fv_0.out)
        rw [HM.out] at C1
        go_wp2_with (fail)
        refine (C1.out).mono ?_
        rintro e w1 ⟨rfl, b1⟩
        have HB1 := Lib.hid (HB0.out.trans (b1.mono HB0.out.size))
        have Fv_1 := Lib.hid ((Fv_0.out.below_ b1 (Nat.le_refl _)).mono_ b1.size)
        have Fbox_1 := Lib.hid ((Fbox_0.out.below_ b1 (Nat.le_refl _)).mono_ b1.size)
        have Fb_1 := Lib.hid ((Fb_0.out.below_ b1 (Nat.le_refl _)).mono_ b1.size)
        have dbox_1 := Fbox_1.out.2
        clear C1 b1 HB0 Fv_0 Fbox_0 Fb_0 dbox_0
        have C2 := Lib.hid (pbegin_any l0 _ l1 _ _ w1 Fv_1.out Fb_1.out (Nat.le_refl _) HP.out HFW.out)
        rw [HBE.out] at C2
        go_wp2_with (fail)
        refine (C2.out).mono ?_
        rintro e w2 ⟨A2, c2, rfl, o2, b2⟩
        have HB2 := Lib.hid (HB1.out.trans (b2.mono HB1.out.size))
        have Fv_2 := Lib.hid ((Fv_1.out.below_ b2 (Nat.le_refl _)).mono_ b2.size)
        have Fbox_2 := Lib.hid ((Fbox_1.out.below_ b2 (Nat.le_refl _)).mono_ b2.size)
        have Fb_2 := Lib.hid ((Fb_1.out.below_ b2 (Nat.le_refl _)).mono_ b2.size)
        have dbox_2 := Fbox_2.out.2
        have Fl_2 := Lib.hid (o2.form_)
        clear C2 b2 HB1 Fv_1 Fbox_1 Fb_1 dbox_1 o2
        have C3 := Lib.hid (pencode_any l0 _ l1 _ _ w2 Fv_2.out Fb_2.out (Nat.le_refl _) HP.out HFW.out)
        rw [HEE.out] at C3
        go_wp2_with (fail)
        refine (C3.out).mono ?_
        rintro e w3 ⟨A3, c3, rfl, o3, b3⟩
        have HB3 := Lib.hid (HB2.out.trans (b3.mono HB2.out.size))
        have Fv_3 := Lib.hid ((Fv_2.out.below_ b3 (Nat.le_refl _)).mono_ b3.size)
        have Fbox_3 := Lib.hid ((Fbox_2.out.below_ b3 (Nat.le_refl _)).mono_ b3.size)
        have Fb_3 := Lib.hid ((Fb_2.out.below_ b3 (Nat.le_refl _)).mono_ b3.size)
        have Fl_3 := Lib.hid ((Fl_2.out.below_ b3 (Nat.le_refl _)).mono_ b3.size)
        have dbox_3 := Fbox_3.out.2
        have Fwant_3 := Lib.hid (o3.form_)
        clear C3 b3 HB2 Fv_2 Fbox_2 Fb_2 Fl_2 dbox_2 o3
        have Mz_3 := Lib.hid (Below.refl w3.heap.size w3)
        simp only [Int.natCast_zero]
        have HL0 : Hid (∃ A c, Value.slice A2 m0.length c2 = .slice A m0.length c ∧ Lv iK w3 w3.heap.size (.slice A m0.length c) m0) := ⟨_, _, rfl, Fl_3.out⟩
        go_wp2
        go_loopw [5, 9, 10, 11, 12, 13, 14] (fun vl i _ _ _ _ _ wr => ∃ (k : Nat) (m : List Int) (Al : Option Addr) (cl : Nat), vl = .slice Al m.length cl ∧ i = .int .i64 (k : Nat) ∧ Hid (Bp.Run l0 l1 k m) ∧ Hid (Lv iK wr wr.heap.size (.slice Al m.length cl) m) ∧ Hid (Below w3.heap.size w3 wr)) (fun _ i _ _ _ _ _ _ => l1.length - (intOf i).toNat)
        case atStart => exact ⟨0, m0, _, _, rfl, rfl, HR0.out, Fl_3.out, Below.refl _ _⟩
        case round =>
          obtain ⟨k, m, Al, cl, rfl, rfl, HRM, HLM, hbr⟩ := hrel
          have hkm := HRM.out.2.2.2
          have h60 := HL6.out
          clear Fl_3
          have b4 := hbr.out
          have HB4 := Lib.hid (HB3.out.trans (b4.mono HB3.out.size))
          have Fv_4 := Lib.hid ((Fv_3.out.below_ b4 (Nat.le_refl _)).mono_ b4.size)
          have Fbox_4 := Lib.hid ((Fbox_3.out.below_ b4 (Nat.le_refl _)).mono_ b4.size)
          have Fb_4 := Lib.hid ((Fb_3.out.below_ b4 (Nat.le_refl _)).mono_ b4.size)
          have Fwant_4 := Lib.hid ((Fwant_3.out.below_ b4 (Nat.le_refl _)).mono_ b4.size)
          have dbox_4 := Fbox_4.out.2
          have Mz_4 := Lib.hid (Mz_3.out.trans (b4.mono Mz_3.out.size))
          clear b4 HB3 Fv_3 Fbox_3 Fb_3 Fwant_3 dbox_3 Mz_3
          have Fl_4 := HLM
          clear HLM hbr HL0 HR0
          by_cases hlt : k < l1.length
          · skip
            have hki : (k : Int) < (l1.length : Int) := by omega
            have wk : IntKind.i64.wrap ((k : Int) + 1) = (k : Int) + 1 := by rw [IntKind.wrap_i64]; omega
            have HFm : Hid (Bp.Few m.length) := by unfold Hid Bp.Few; omega
            rcases HNX.out k m HRM.out with ⟨hs, hd, rfl⟩ | ⟨m', hs, hd, hr, hlen⟩
            · skip
              have HS1 := Lib.hid hs
              have HD1 := Lib.hid hd
              clear hs hd HNX HDN HRM hkm h60
              have C5 := Lib.hid (pstep_any l0 _ m _ _ wr Fv_4.out Fl_4.out (Nat.le_refl _) HP.out HFm.out)
              rw [HS1.out] at C5
              go_wp2_with (fail)
              refine (C5.out).mono ?_
              rintro e w5 ⟨A5, c5, rfl, o5, b5⟩
              have HB5 := Lib.hid (HB4.out.trans (b5.mono HB4.out.size))
              have Fv_5 := Lib.hid ((Fv_4.out.below_ b5 (Nat.le_refl _)).mono_ b5.size)
              have Fbox_5 := Lib.hid ((Fbox_4.out.below_ b5 (Nat.le_refl _)).mono_ b5.size)
              have Fb_5 := Lib.hid ((Fb_4.out.below_ b5 (Nat.le_refl _)).mono_ b5.size)
              have Fwant_5 := Lib.hid ((Fwant_4.out.below_ b5 (Nat.le_refl _)).mono_ b5.size)
              have Fl_5 := Lib.hid ((Fl_4.out.below_ b5 (Nat.le_refl _)).mono_ b5.size)
              have dbox_5 := Fbox_5.out.2
              have Mz_5 := Lib.hid (Mz_4.out.trans (b5.mono Mz_4.out.size))
              have Fm_5 := Lib.hid (o5.form_)
              clear C5 b5 HB4 Fv_4 Fbox_4 Fb_4 Fwant_4 Fl_4 dbox_4 Mz_4 o5
              have C6 := Lib.hid (pdecode_any l0 _ m _ _ w5 Fv_5.out Fm_5.out (Nat.le_refl _) HP.out HFm.out)
              rw [HD1.out] at C6
              go_wp2_with (fail)
              refine (C6.out).mono ?_
              rintro e w6 ⟨A6, c6, rfl, o6, b6⟩
              have HB6 := Lib.hid (HB5.out.trans (b6.mono HB5.out.size))
              have Fv_6 := Lib.hid ((Fv_5.out.below_ b6 (Nat.le_refl _)).mono_ b6.size)
              have Fbox_6 := Lib.hid ((Fbox_5.out.below_ b6 (Nat.le_refl _)).mono_ b6.size)
              have Fb_6 := Lib.hid ((Fb_5.out.below_ b6 (Nat.le_refl _)).mono_ b6.size)
              have Fwant_6 := Lib.hid ((Fwant_5.out.below_ b6 (Nat.le_refl _)).mono_ b6.size)
              have Fl_6 := Lib.hid ((Fl_5.out.below_ b6 (Nat.le_refl _)).mono_ b6.size)
              have Fm_6 := Lib.hid ((Fm_5.out.below_ b6 (Nat.le_refl _)).mono_ b6.size)
              have dbox_6 := Fbox_6.out.2
              have Mz_6 := Lib.hid (Mz_5.out.trans (b6.mono Mz_5.out.size))
              have Fc_6 := Lib.hid (o6.form_)
              clear C6 b6 HB5 Fv_5 Fbox_5 Fb_5 Fwant_5 Fl_5 Fm_5 dbox_5 Mz_5 o6
              have C7 := Lib.hid (octs_lv _ _ _ _ _ _ w6 Fc_6.out Fb_6.out)
              simp only [decide_true] at C7
              go_wp2_with (fail)
              refine (C7.out).mono ?_
              rintro e w7 ⟨rfl, b7⟩
              have HB7 := Lib.hid (HB6.out.trans (b7.mono HB6.out.size))
              have Fv_7 := Lib.hid ((Fv_6.out.below_ b7 (Nat.le_refl _)).mono_ b7.size)
              have Fbox_7 := Lib.hid ((Fbox_6.out.below_ b7 (Nat.le_refl _)).mono_ b7.size)
              have Fb_7 := Lib.hid ((Fb_6.out.below_ b7 (Nat.le_refl _)).mono_ b7.size)
              have Fwant_7 := Lib.hid ((Fwant_6.out.below_ b7 (Nat.le_refl _)).mono_ b7.size)
              have Fl_7 := Lib.hid ((Fl_6.out.below_ b7 (Nat.le_refl _)).mono_ b7.size)
              have Fm_7 := Lib.hid ((Fm_6.out.below_ b7 (Nat.le_refl _)).mono_ b7.size)
              have Fc_7 := Lib.hid ((Fc_6.out.below_ b7 (Nat.le_refl _)).mono_ b7.size)
              have dbox_7 := Fbox_7.out.2
              have Mz_7 := Lib.hid (Mz_6.out.trans (b7.mono Mz_6.out.size))
              clear C7 b7 HB6 Fv_6 Fbox_6 Fb_6 Fwant_6 Fl_6 Fm_6 Fc_6 dbox_6 Mz_6
              have C8 := Lib.hid (ints_lv _ _ _ _ _ _ w7 Fm_7.out Fl_7.out)
              simp only [decide_true] at C8
              go_wp2_with (fail)
              refine (C8.out).mono ?_
              rintro e w8 ⟨rfl, b8⟩
              have HB8 := Lib.hid (HB7.out.trans (b8.mono HB7.out.size))
              have Fv_8 := Lib.hid ((Fv_7.out.below_ b8 (Nat.le_refl _)).mono_ b8.size)
              have Fbox_8 := Lib.hid ((Fbox_7.out.below_ b8 (Nat.le_refl _)).mono_ b8.size)
              have Fb_8 := Lib.hid ((Fb_7.out.below_ b8 (Nat.le_refl _)).mono_ b8.size)
              have Fwant_8 := Lib.hid ((Fwant_7.out.below_ b8 (Nat.le_refl _)).mono_ b8.size)
              have Fl_8 := Lib.hid ((Fl_7.out.below_ b8 (Nat.le_refl _)).mono_ b8.size)
              have Fm_8 := Lib.hid ((Fm_7.out.below_ b8 (Nat.le_refl _)).mono_ b8.size)
              have Fc_8 := Lib.hid ((Fc_7.out.below_ b8 (Nat.le_refl _)).mono_ b8.size)
              have dbox_8 := Fbox_8.out.2
              have Mz_8 := Lib.hid (Mz_7.out.trans (b8.mono Mz_7.out.size))
              clear C8 b8 HB7 Fv_7 Fbox_7 Fb_7 Fwant_7 Fl_7 Fm_7 Fc_7 dbox_7 Mz_7
              clear Fc_8
              clear Fm_8
              have C9 := Lib.hid (pstep_any l0 _ m _ _ w8 Fv_8.out Fwant_8.out (Nat.le_refl _) HP.out HFX.out)
              rw [HSE.out] at C9
              go_wp2_with (fail)
              refine (C9.out).mono ?_
              rintro e w9 ⟨A9, c9, rfl, o9, b9⟩
              have HB9 := Lib.hid (HB8.out.trans (b9.mono HB8.out.size))
              have Fv_9 := Lib.hid ((Fv_8.out.below_ b9 (Nat.le_refl _)).mono_ b9.size)
              have Fbox_9 := Lib.hid ((Fbox_8.out.below_ b9 (Nat.le_refl _)).mono_ b9.size)
              have Fb_9 := Lib.hid ((Fb_8.out.below_ b9 (Nat.le_refl _)).mono_ b9.size)
              have Fwant_9 := Lib.hid ((Fwant_8.out.below_ b9 (Nat.le_refl _)).mono_ b9.size)
              have Fl_9 := Lib.hid ((Fl_8.out.below_ b9 (Nat.le_refl _)).mono_ b9.size)
              have dbox_9 := Fbox_9.out.2
              have Mz_9 := Lib.hid (Mz_8.out.trans (b9.mono Mz_8.out.size))
              have Fs_9 := Lib.hid (o9.form_)
              clear C9 b9 HB8 Fv_8 Fbox_8 Fb_8 Fwant_8 Fl_8 dbox_8 Mz_8 o9
              clear Fv_9
              clear Fb_9
              have C10 := Lib.hid (ints_lv _ _ _ _ _ _ w9 Fs_9.out Fwant_9.out)
              simp only [decide_true] at C10
              go_wp2_with (fail)
              refine (C10.out).mono ?_
              rintro e w10 ⟨rfl, b10⟩
              have HB10 := Lib.hid (HB9.out.trans (b10.mono HB9.out.size))
              have Fbox_10 := Lib.hid ((Fbox_9.out.below_ b10 (Nat.le_refl _)).mono_ b10.size)
              have Fwant_10 := Lib.hid ((Fwant_9.out.below_ b10 (Nat.le_refl _)).mono_ b10.size)
              have Fl_10 := Lib.hid ((Fl_9.out.below_ b10 (Nat.le_refl _)).mono_ b10.size)
              have Fs_10 := Lib.hid ((Fs_9.out.below_ b10 (Nat.le_refl _)).mono_ b10.size)
              have dbox_10 := Fbox_10.out.2
              have Mz_10 := Lib.hid (Mz_9.out.trans (b10.mono Mz_9.out.size))
              clear C10 b10 HB9 Fbox_9 Fwant_9 Fl_9 Fs_9 dbox_9 Mz_9
              have C11 := Lib.hid (ints_lv _ _ _ _ _ _ w10 Fl_10.out Fwant_10.out)
              simp only [decide_true] at C11
              go_wp2_with (fail)
              refine (C11.out).mono ?_
              rintro e w11 ⟨rfl, b11⟩
              have HB11 := Lib.hid (HB10.out.trans (b11.mono HB10.out.size))
              have Fbox_11 := Lib.hid ((Fbox_10.out.below_ b11 (Nat.le_refl _)).mono_ b11.size)
              have Fwant_11 := Lib.hid ((Fwant_10.out.below_ b11 (Nat.le_refl _)).mono_ b11.size)
              have Fl_11 := Lib.hid ((Fl_10.out.below_ b11 (Nat.le_refl _)).mono_ b11.size)
              have Fs_11 := Lib.hid ((Fs_10.out.below_ b11 (Nat.le_refl _)).mono_ b11.size)
              have dbox_11 := Fbox_11.out.2
              have Mz_11 := Lib.hid (Mz_10.out.trans (b11.mono Mz_10.out.size))
              clear C11 b11 HB10 Fbox_10 Fwant_10 Fl_10 Fs_10 dbox_10 Mz_10
              clear Fs_11
              clear Fwant_11
              clear Fl_11
              have C12 := Lib.hid (works_bp w11)
              go_wp2_with (fail)
              refine (C12.out).mono ?_
              rintro e w12 ⟨rfl, b12⟩
              have HB12 := Lib.hid (HB11.out.trans (b12.mono HB11.out.size))
              have Fbox_12 := Lib.hid ((Fbox_11.out.below_ b12 (Nat.le_refl _)).mono_ b12.size)
              have dbox_12 := Fbox_12.out.2
              have Mz_12 := Lib.hid (Mz_11.out.trans (b12.mono Mz_11.out.size))
              clear C12 b12 HB11 Fbox_11 dbox_11 Mz_11
              go_wp2
              go_ret
              exact ⟨rfl, HB12.out⟩
            · skip
              have HFn : Hid (Bp.Few m'.length) := by unfold Hid Bp.Few; omega
              have wm : IntKind.i64.wrap ((m.length : Int) - 1) = (m'.length : Int) := by rw [IntKind.wrap_i64]; omega
              have HS1 := Lib.hid hs
              have HD1 := Lib.hid hd
              have HR1 := Lib.hid hr
              have HLT := Lib.hid hlt
              clear hs hd hr hlen HNX HDN HRM hkm h60 hlt
              have C5 := Lib.hid (pstep_any l0 _ m _ _ wr Fv_4.out Fl_4.out (Nat.le_refl _) HP.out HFm.out)
              rw [HS1.out] at C5
              go_wp2_with (fail)
              refine (C5.out).mono ?_
              rintro e w5 ⟨A5, c5, rfl, o5, b5⟩
              have HB5 := Lib.hid (HB4.out.trans (b5.mono HB4.out.size))
              have Fv_5 := Lib.hid ((Fv_4.out.below_ b5 (Nat.le_refl _)).mono_ b5.size)
              have Fbox_5 := Lib.hid ((Fbox_4.out.below_ b5 (Nat.le_refl _)).mono_ b5.size)
              have Fb_5 := Lib.hid ((Fb_4.out.below_ b5 (Nat.le_refl _)).mono_ b5.size)
              have Fwant_5 := Lib.hid ((Fwant_4.out.below_ b5 (Nat.le_refl _)).mono_ b5.size)
              have Fl_5 := Lib.hid ((Fl_4.out.below_ b5 (Nat.le_refl _)).mono_ b5.size)
              have dbox_5 := Fbox_5.out.2
              have Mz_5 := Lib.hid (Mz_4.out.trans (b5.mono Mz_4.out.size))
              have Fm_5 := Lib.hid (o5.form_)
              clear C5 b5 HB4 Fv_4 Fbox_4 Fb_4 Fwant_4 Fl_4 dbox_4 Mz_4 o5
              have C6 := Lib.hid (pdecode_any l0 _ m' _ _ w5 Fv_5.out Fm_5.out (Nat.le_refl _) HP.out HFn.out)
              rw [HD1.out] at C6
              go_wp2_with (fail)
              refine (C6.out).mono ?_
              rintro e w6 ⟨A6, c6, rfl, o6, b6⟩
              have HB6 := Lib.hid (HB5.out.trans (b6.mono HB5.out.size))
              have Fv_6 := Lib.hid ((Fv_5.out.below_ b6 (Nat.le_refl _)).mono_ b6.size)
              have Fbox_6 := Lib.hid ((Fbox_5.out.below_ b6 (Nat.le_refl _)).mono_ b6.size)
              have Fb_6 := Lib.hid ((Fb_5.out.below_ b6 (Nat.le_refl _)).mono_ b6.size)
              have Fwant_6 := Lib.hid ((Fwant_5.out.below_ b6 (Nat.le_refl _)).mono_ b6.size)
              have Fl_6 := Lib.hid ((Fl_5.out.below_ b6 (Nat.le_refl _)).mono_ b6.size)
              have Fm_6 := Lib.hid ((Fm_5.out.below_ b6 (Nat.le_refl _)).mono_ b6.size)
              have dbox_6 := Fbox_6.out.2
              have Mz_6 := Lib.hid (Mz_5.out.trans (b6.mono Mz_5.out.size))
              have Fc_6 := Lib.hid (o6.form_)
              clear C6 b6 HB5 Fv_5 Fbox_5 Fb_5 Fwant_5 Fl_5 Fm_5 dbox_5 Mz_5 o6
              have C7 := Lib.hid (octs_lv _ _ _ _ _ _ w6 Fc_6.out Fb_6.out)
              simp only [decide_true] at C7
              go_wp2_with (fail)
              refine (C7.out).mono ?_
              rintro e w7 ⟨rfl, b7⟩
              have HB7 := Lib.hid (HB6.out.trans (b7.mono HB6.out.size))
              have Fv_7 := Lib.hid ((Fv_6.out.below_ b7 (Nat.le_refl _)).mono_ b7.size)
              have Fbox_7 := Lib.hid ((Fbox_6.out.below_ b7 (Nat.le_refl _)).mono_ b7.size)
              have Fb_7 := Lib.hid ((Fb_6.out.below_ b7 (Nat.le_refl _)).mono_ b7.size)
              have Fwant_7 := Lib.hid ((Fwant_6.out.below_ b7 (Nat.le_refl _)).mono_ b7.size)
              have Fl_7 := Lib.hid ((Fl_6.out.below_ b7 (Nat.le_refl _)).mono_ b7.size)
              have Fm_7 := Lib.hid ((Fm_6.out.below_ b7 (Nat.le_refl _)).mono_ b7.size)
              have Fc_7 := Lib.hid ((Fc_6.out.below_ b7 (Nat.le_refl _)).mono_ b7.size)
              have dbox_7 := Fbox_7.out.2
              have Mz_7 := Lib.hid (Mz_6.out.trans (b7.mono Mz_6.out.size))
              clear C7 b7 HB6 Fv_6 Fbox_6 Fb_6 Fwant_6 Fl_6 Fm_6 Fc_6 dbox_6 Mz_6
              clear Fc_7
              clear Fl_7
              go_wp2
              go_roundw
              case rel => exact ⟨k + 1, m', _, _, rfl, by go_num, HR1.out, Fm_7.out, Mz_7.out⟩
              case measure => simp [intOf]; have := HLT.out; omega
          · skip
            obtain rfl : k = l1.length := by omega
            have hki : ¬ (l1.length : Int) < (l1.length : Int) := by omega
            obtain rfl := HDN.out m HRM.out
            clear HNX HDN HRM hkm h60 hlt
            have C5 := Lib.hid (pstep_any l0 _ m _ _ wr Fv_4.out Fwant_4.out (Nat.le_refl _) HP.out HFX.out)
            rw [HSE.out] at C5
            go_wp2_with (fail)
            refine (C5.out).mono ?_
            rintro e w5 ⟨A5, c5, rfl, o5, b5⟩
            have HB5 := Lib.hid (HB4.out.trans (b5.mono HB4.out.size))
            have Fv_5 := Lib.hid ((Fv_4.out.below_ b5 (Nat.le_refl _)).mono_ b5.size)
            have Fbox_5 := Lib.hid ((Fbox_4.out.below_ b5 (Nat.le_refl _)).mono_ b5.size)
            have Fb_5 := Lib.hid ((Fb_4.out.below_ b5 (Nat.le_refl _)).mono_ b5.size)
            have Fwant_5 := Lib.hid ((Fwant_4.out.below_ b5 (Nat.le_refl _)).mono_ b5.size)
            have Fl_5 := Lib.hid ((Fl_4.out.below_ b5 (Nat.le_refl _)).mono_ b5.size)
            have dbox_5 := Fbox_5.out.2
            have Mz_5 := Lib.hid (Mz_4.out.trans (b5.mono Mz_4.out.size))
            have Fs_5 := Lib.hid (o5.form_)
            clear C5 b5 HB4 Fv_4 Fbox_4 Fb_4 Fwant_4 Fl_4 dbox_4 Mz_4 o5
            clear Fv_5
            clear Fb_5
            have C6 := Lib.hid (ints_lv _ _ _ _ _ _ w5 Fs_5.out Fwant_5.out)
            simp only [decide_true] at C6
            go_wp2_with (fail)
            refine (C6.out).mono ?_
            rintro e w6 ⟨rfl, b6⟩
            have HB6 := Lib.hid (HB5.out.trans (b6.mono HB5.out.size))
            have Fbox_6 := Lib.hid ((Fbox_5.out.below_ b6 (Nat.le_refl _)).mono_ b6.size)
            have Fwant_6 := Lib.hid ((Fwant_5.out.below_ b6 (Nat.le_refl _)).mono_ b6.size)
            have Fl_6 := Lib.hid ((Fl_5.out.below_ b6 (Nat.le_refl _)).mono_ b6.size)
            have Fs_6 := Lib.hid ((Fs_5.out.below_ b6 (Nat.le_refl _)).mono_ b6.size)
            have dbox_6 := Fbox_6.out.2
            have Mz_6 := Lib.hid (Mz_5.out.trans (b6.mono Mz_5.out.size))
            clear C6 b6 HB5 Fbox_5 Fwant_5 Fl_5 Fs_5 dbox_5 Mz_5
            have C7 := Lib.hid (ints_lv _ _ _ _ _ _ w6 Fl_6.out Fwant_6.out)
            simp only [decide_true] at C7
            go_wp2_with (fail)
            refine (C7.out).mono ?_
            rintro e w7 ⟨rfl, b7⟩
            have HB7 := Lib.hid (HB6.out.trans (b7.mono HB6.out.size))
            have Fbox_7 := Lib.hid ((Fbox_6.out.below_ b7 (Nat.le_refl _)).mono_ b7.size)
            have Fwant_7 := Lib.hid ((Fwant_6.out.below_ b7 (Nat.le_refl _)).mono_ b7.size)
            have Fl_7 := Lib.hid ((Fl_6.out.below_ b7 (Nat.le_refl _)).mono_ b7.size)
            have Fs_7 := Lib.hid ((Fs_6.out.below_ b7 (Nat.le_refl _)).mono_ b7.size)
            have dbox_7 := Fbox_7.out.2
            have Mz_7 := Lib.hid (Mz_6.out.trans (b7.mono Mz_6.out.size))
            clear C7 b7 HB6 Fbox_6 Fwant_6 Fl_6 Fs_6 dbox_6 Mz_6
            clear Fs_7
            clear Fwant_7
            clear Fl_7
            have C8 := Lib.hid (works_bp w7)
            go_wp2_with (fail)
            refine (C8.out).mono ?_
            rintro e w8 ⟨rfl, b8⟩
            have HB8 := Lib.hid (HB7.out.trans (b8.mono HB7.out.size))
            have Fbox_8 := Lib.hid ((Fbox_7.out.below_ b8 (Nat.le_refl _)).mono_ b8.size)
            have dbox_8 := Fbox_8.out.2
            have Mz_8 := Lib.hid (Mz_7.out.trans (b8.mono Mz_7.out.size))
            clear C8 b8 HB7 Fbox_7 dbox_7 Mz_7
            go_wp2
            go_ret
            exact ⟨rfl, HB8.out⟩
      · skip
        have HBE : Hid (Bp.beginE l0 l1 = ([], 11)) := if_neg hmay
        have HEE : Hid (Bp.encE l0 l1 = ([], 11)) := if_neg hmay
        clear hmay hok hb1
        obtain ⟨W, hW⟩ : ∃ X, w.alloc (.cells #[v0] 24) = X := ⟨_, rfl⟩
        obtain ⟨db, hsz, hbb⟩ := boxed hW
        have HB0 := Lib.hid hbb
        have Fv_0 := Lib.hid ((h0.below_ hbb (Nat.le_refl _)).mono_ hbb.size)
        have Fbox_0 : Hid (BoxAt W W.heap.size w.heap.size v0) := ⟨by omega, db⟩
        obtain ⟨A, c, rfl, hc1, hc2, _, _⟩ := h0
        have hl0 : l0.length ≤ 9223372036854775807 := by simp only [maxLen] at hc2; omega
        have dbox_0 := Fbox_0.out.2
        clear hc1 hc2 hbb hsz db
        go_enter Try.func8, Try.ntmps8
        have Fb_0 := Lib.hid ((H1.out.below_ HB0.out (Nat.le_refl _)).mono_ HB0.out.size)
        have C1 := Lib.hid (rlong_any l0 _ ((l1.length : Nat) : Int) HI1 _ W Fv_0.out)
        rw [HM.out] at C1
        go_wp2_with (fail)
        refine (C1.out).mono ?_
        rintro e w1 ⟨rfl, b1⟩
        have HB1 := Lib.hid (HB0.out.trans (b1.mono HB0.out.size))
        have Fv_1 := Lib.hid ((Fv_0.out.below_ b1 (Nat.le_refl _)).mono_ b1.size)
        have Fbox_1 := Lib.hid ((Fbox_0.out.below_ b1 (Nat.le_refl _)).mono_ b1.size)
        have Fb_1 := Lib.hid ((Fb_0.out.below_ b1 (Nat.le_refl _)).mono_ b1.size)
        have dbox_1 := Fbox_1.out.2
        clear C1 b1 HB0 Fv_0 Fbox_0 Fb_0 dbox_0
        have C2 := Lib.hid (pbegin_any l0 _ l1 _ _ w1 Fv_1.out Fb_1.out (Nat.le_refl _) HP.out HFW.out)
        rw [HBE.out] at C2
        go_wp2_with (fail)
        refine (C2.out).mono ?_
        rintro e w2 ⟨A2, c2, rfl, o2, b2⟩
        have HB2 := Lib.hid (HB1.out.trans (b2.mono HB1.out.size))
        have Fv_2 := Lib.hid ((Fv_1.out.below_ b2 (Nat.le_refl _)).mono_ b2.size)
        have Fbox_2 := Lib.hid ((Fbox_1.out.below_ b2 (Nat.le_refl _)).mono_ b2.size)
        have Fb_2 := Lib.hid ((Fb_1.out.below_ b2 (Nat.le_refl _)).mono_ b2.size)
        have dbox_2 := Fbox_2.out.2
        have Fx_2 := Lib.hid (o2.form_)
        clear C2 b2 HB1 Fv_1 Fbox_1 Fb_1 dbox_1 o2
        have C3 := Lib.hid (pencode_any l0 _ l1 _ _ w2 Fv_2.out Fb_2.out (Nat.le_refl _) HP.out HFW.out)
        rw [HEE.out] at C3
        go_wp2_with (fail)
        refine (C3.out).mono ?_
        rintro e w3 ⟨A3, c3, rfl, o3, b3⟩
        have HB3 := Lib.hid (HB2.out.trans (b3.mono HB2.out.size))
        have Fv_3 := Lib.hid ((Fv_2.out.below_ b3 (Nat.le_refl _)).mono_ b3.size)
        have Fbox_3 := Lib.hid ((Fbox_2.out.below_ b3 (Nat.le_refl _)).mono_ b3.size)
        have Fb_3 := Lib.hid ((Fb_2.out.below_ b3 (Nat.le_refl _)).mono_ b3.size)
        have Fx_3 := Lib.hid ((Fx_2.out.below_ b3 (Nat.le_refl _)).mono_ b3.size)
        have dbox_3 := Fbox_3.out.2
        have Fy_3 := Lib.hid (o3.form_)
        clear C3 b3 HB2 Fv_2 Fbox_2 Fb_2 Fx_2 dbox_2 o3
        clear Fv_3
        clear Fb_3
        clear Fx_3
        clear Fy_3
        have C4 := Lib.hid (works_bp w3)
        go_wp2_with (fail)
        refine (C4.out).mono ?_
        rintro e w4 ⟨rfl, b4⟩
        have HB4 := Lib.hid (HB3.out.trans (b4.mono HB3.out.size))
        have Fbox_4 := Lib.hid ((Fbox_3.out.below_ b4 (Nat.le_refl _)).mono_ b4.size)
        have dbox_4 := Fbox_4.out.2
        clear C4 b4 HB3 Fbox_3 dbox_3
        go_wp2
        go_ret
        exact ⟨rfl, HB4.out⟩

/-! ### From the walk to the row -/
set_option maxRecDepth 100000 in
theorem lifted (os : Os) (started : os.Started) (H : Type) (enc : TypeId × Value → H) :
    ReturnsInHanded {} Try.checked os 8 .any (Rows.bpeLeastSpec.pre6 enc Try.prog Try.f8 Rows.bpeLeastRow.domain false) (Rows.bpeLeastSpec.post enc Try.prog Try.f8 false true false false) := by
  refine returnsInHanded_of_change (C := Try.checked) own started (by kernel_rfl) Try.func8
    (ChangeSpec.witness6 (enc := enc) (C := Try.checked) false ⟨#[], #[.agg #[.slice none 0 0], .slice none 0 0], []⟩ 8 (by kernel_rfl) (by kernel_rfl) (by kernel_rfl) (by kernel_rfl)) ?_
  intro W base args ds gs before hval0 hW hcnd _
  have hval : ∀ (j : Nat) t v, Try.f8.params[j]? = some t → args[j]? = some v → Value.okWide Try.prog W .any base t v := hval0
  have hW' := hW
  obtain ⟨p, q, hA0, hV, rfl, hfz, hnd⟩ := hW
  have hA : DataW.TrodAll enc Try.prog W 0 (fun _ => true) true Try.f8.params.toList args.toList ds p := hA0
  rw [Try.params8] at hA hval
  obtain ⟨v0, vs0, d0, ds0, p0, q0, hargs, rfl, rfl, h0, r0⟩ := trodAll_cons hA
  obtain ⟨v1, vs1, d1, ds1, p1, q1, rfl, rfl, rfl, h1, r1⟩ := trodAll_cons r0
  obtain ⟨rfl, rfl, rfl⟩ := trodAll_nil r1
  obtain rfl : args = #[v0, v1] := by cases args; simp_all
  obtain ⟨rfl, rfl⟩ := trodVars_none hV
  have k0 := h0
  have lt0 : ∀ x ∈ p0, x.block < W.heap.size := by obtain ⟨m, hm⟩ := k0; exact DataW.trod_lt m _ _ _ hm
  obtain ⟨u0, l0, rfl, hb0⟩ := voc_in (hval 0 24 v0 rfl rfl) h0
  obtain ⟨a1, len1, cap1, rfl⟩ := okWide_slice Try.underlying25 (hval 1 25 v1 rfl rfl)
  have k1 := h1
  have lt1 : ∀ x ∈ p1, x.block < W.heap.size := by obtain ⟨m, hm⟩ := k1; exact DataW.trod_lt m _ _ _ hm
  obtain ⟨l1, len_1, hb1⟩ : ∃ l : List Nat, l.length = len1 ∧ Lv yK W W.heap.size (.slice a1 len1 cap1) l := by
    obtain ⟨fuel, hf⟩ := h1
    exact octs_in hf
  clear hA0 hval0
  refine (walk W u0 l0 hb0 (.slice a1 len1 cap1) l1 hb1).mono fun e W' ⟨he, bel⟩ => ?_
  subst he
  exact ⟨_, rfl, _, _, _, [], _, [], hW', trodAll_mk1 (shut_bool Try.underlying4 _), (trodAll_cons_mk (Below.trod laidOut (by kernel_rfl) (of_decide_eq_true (by kernel_rfl)) k0 bel lt0) (trodAll_cons_mk (Below.trod laidOut (by kernel_rfl) (of_decide_eq_true (by kernel_rfl)) k1 bel lt1) trodAll_mk0)), rfl, bel.frame _, fun h => by cases h⟩

theorem proved : Rows.BpeLeastSaid :=
  OpenClaim.holds_of_wide 8 Try.f8 rfl rfl rfl rfl rfl rfl rfl ⟨rfl, rfl, rfl, rfl, rfl⟩ rfl rfl rfl rfl rfl (by kernel_rfl) Try.func8 (by kernel_rfl)
    (of_decide_eq_true (by kernel_rfl)) (by unfold Func.isWrapper; first | (rw [if_pos (by decide +kernel)]; kernel_rfl) | (rw [if_neg (by decide +kernel)]; exact ⟨rfl, rfl⟩))
    (fun os started H enc _ => lifted os started H enc)

end Go.Proofs.Ytaedhccmdbodlaa.bpeLeast
