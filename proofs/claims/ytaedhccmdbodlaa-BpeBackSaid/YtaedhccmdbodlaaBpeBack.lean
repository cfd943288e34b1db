/-
  BpeBack: the bytes come back of their tokens. No condition.
-/
import Derived.Test.YtaedhccmdbodlaaPk29
import Derived.Test.YtaedhccmdbodlaaPk30
import Derived.Test.YtaedhccmdbodlaaPk31
namespace Go.Proofs.Ytaedhccmdbodlaa.bpeBack
open Go.ChangeShapes Go.WideShapes Go.ChangeAt Go.RowKit
open Go.ChangeMaps (open_string shut_string)
set_option linter.unusedVariables false

set_option maxHeartbeats 2000000 in
set_option maxRecDepth 100000 in
theorem walk (w : World) (v0 : Value) (l0 : List Vo.Pc) (h0 : Lv pK w w.heap.size v0 l0) (v1 : Value) (l1 : List Nat) (h1 : Lv yK w w.heap.size v1 l1) :
    Calls Try.prog 7 #[.agg #[v0], v1] w (IsBool true w) := by
  obtain ⟨A1, c1', rfl, hd1, hd2, _, _⟩ := id h1
  have hl1 : l1.length ≤ 9223372036854775807 := by simp only [maxLen] at hd2; omega
  have H1 := Lib.hid h1
  have HI1 : I64 ((l1.length : Nat) : Int) := by unfold I64; omega
  clear hd1 hd2 h1
  by_cases hm : 500 < l0.length ∨ (300 < ((l1.length : Nat) : Int) ∧ ((l1.length : Nat) : Int) ≤ 4096)
  · skip
    have HM : Hid (decide (500 < l0.length ∨ (300 < ((l1.length : Nat) : Int) ∧ ((l1.length : Nat) : Int) ≤ 4096)) = true) := decide_eq_true hm
    clear hm
    obtain ⟨W, hW⟩ : ∃ X, w.alloc (.cells #[v0] 24) = X := ⟨_, rfl⟩
    obtain ⟨db, hsz, hbb⟩ := boxed hW
    have HB0 := Lib.hid hbb
    have Fv_0 := Lib.hid ((h0.below_ hbb (Nat.le_refl _)).mono_ hbb.size)
    have Fbox_0 : Hid (BoxAt W W.heap.size w.heap.size v0) := ⟨by omega, db⟩
    obtain ⟨A, c, rfl, hc1, hc2, _, _⟩ := h0
    have hl0 : l0.length ≤ 9223372036854775807 := by simp only [maxLen] at hc2; omega
    have dbox_0 := Fbox_0.out.2
    clear hc1 hc2 hbb hsz db
    go_enter Try.func7, Try.ntmps7
    have C1 := Lib.hid (rlong_any l0 _ ((l1.length : Nat) : Int) HI1 _ W Fv_0.out)
    rw [HM.out] at C1
    go_wp2_with (fail)
    refine (C1.out).mono ?_
    rintro e w1 ⟨rfl, b1⟩
    have HB1 := Lib.hid (HB0.out.trans (b1.mono HB0.out.size))
    have Fv_1 := Lib.hid ((Fv_0.out.below_ b1 (Nat.le_refl _)).mono_ b1.size)
    have Fbox_1 := Lib.hid ((Fbox_0.out.below_ b1 (Nat.le_refl _)).mono_ b1.size)
    have dbox_1 := Fbox_1.out.2
    clear C1 b1 HB0 Fv_0 Fbox_0 dbox_0
    clear Fv_1
    have C2 := Lib.hid (works_bp w1)
    go_wp2_with (fail)
    refine (C2.out).mono ?_
    rintro e w2 ⟨rfl, b2⟩
    have HB2 := Lib.hid (HB1.out.trans (b2.mono HB1.out.size))
    have Fbox_2 := Lib.hid ((Fbox_1.out.below_ b2 (Nat.le_refl _)).mono_ b2.size)
    have dbox_2 := Fbox_2.out.2
    clear C2 b2 HB1 Fbox_1 dbox_1
    go_wp2
    go_ret
    exact ⟨rfl, HB2.out⟩
  · skip
    have HM : Hid (decide (500 < l0.length ∨ (300 < ((l1.length : Nat) : Int) ∧ ((l1.length : Nat) : Int) ≤ 4096)) = false) := decide_eq_false hm
    have HP : Hid (l0.length ≤ 501) := by unfold Hid; omega
    have HFW : Hid (Bp.Few l1.length) := by unfold Hid Bp.Few; omega
    clear hm
    rcases Bp.encE_cases l0 l1 with ⟨hmay, hln, hx⟩ | ⟨E, hE, hx⟩
    · skip
      have HD : Hid (Bp.decE l0 (Bp.enc l0 l1) = (l1, 0)) := Bp.dec_enc hmay (fun q hq => (h0.ok_ q hq).1) (fun c hc => H1.out.ok_ c hc) hln
      have hle : (Bp.enc l0 l1).length ≤ l1.length := Bp.enc_len
      have HFX : Hid (Bp.Few (Bp.enc l0 l1).length) := by have h := HFW.out; unfold Bp.Few at h; unfold Hid Bp.Few; omega
      obtain ⟨x, hxe⟩ : ∃ x, Bp.enc l0 l1 = x := ⟨_, rfl⟩
      rw [hxe] at hx hle HD HFX
      have hlei : (x.length : Int) ≤ (l1.length : Int) := by omega
      have HX := Lib.hid hx
      clear hx hxe hmay hln hle
      obtain ⟨W, hW⟩ : ∃ X, w.alloc (.cells #[v0] 24) = X := ⟨_, rfl⟩
      obtain ⟨db, hsz, hbb⟩ := boxed hW
      have HB0 := Lib.hid hbb
      have Fv_0 := Lib.hid ((h0.below_ hbb (Nat.le_refl _)).mono_ hbb.size)
      have Fbox_0 : Hid (BoxAt W W.heap.size w.heap.size v0) := ⟨by omega, db⟩
      obtain ⟨A, c, rfl, hc1, hc2, _, _⟩ := h0
      have hl0 : l0.length ≤ 9223372036854775807 := by simp only [maxLen] at hc2; omega
      have dbox_0 := Fbox_0.out.2
      clear hc1 hc2 hbb hsz db
      go_enter Try.func7, Try.ntmps7
      have Fb_0 := Lib.hid ((H1.out.below_ HB0.out (Nat.le_refl _)).mono_ HB0.out.size)
      have C1 := Lib.hid (rlong_any l0 _ ((l1.length : Nat) : Int) HI1 _ W Fv_0.out)
      rw [HM.out] at C1
      go_wp2_with (fail)
      refine (C1.out).mono ?_
      rintro e w1 ⟨rfl, b1⟩
      have HB1 := Lib.hid (HB0.out.trans (b1.mono HB0.out.size))
      have Fv_1 := Lib.hid ((Fv_0.out.below_ b1 (Nat.le_refl _)).mono_ b1.size)
      have Fbox_1 := Lib.hid ((Fbox_0.out.below_ b1 (Nat.le_refl _)).mono_ b1.size)
      have Fb_1 := Lib.hid ((Fb_0.out.below_ b1 (Nat.le_refl _)).mono_ b1.size)
      have dbox_1 := Fbox_1.out.2
      clear C1 b1 HB0 Fv_0 Fbox_0 Fb_0 dbox_0
      have C2 := Lib.hid (pencode_any l0 _ l1 _ _ w1 Fv_1.out Fb_1.out (Nat.le_refl _) HP.out HFW.out)
      rw [HX.out] at C2
      go_wp2_with (fail)
      refine (C2.out).mono ?_
      rintro e w2 ⟨A2, c2, rfl, o2, b2⟩
      have HB2 := Lib.hid (HB1.out.trans (b2.mono HB1.out.size))
      have Fv_2 := Lib.hid ((Fv_1.out.below_ b2 (Nat.le_refl _)).mono_ b2.size)
      have Fbox_2 := Lib.hid ((Fbox_1.out.below_ b2 (Nat.le_refl _)).mono_ b2.size)
      have Fb_2 := Lib.hid ((Fb_1.out.below_ b2 (Nat.le_refl _)).mono_ b2.size)
      have dbox_2 := Fbox_2.out.2
      have Fx_2 := Lib.hid (o2.form_)
      clear C2 b2 HB1 Fv_1 Fbox_1 Fb_1 dbox_1 o2
      have C3 := Lib.hid (pdecode_any l0 _ x _ _ w2 Fv_2.out Fx_2.out (Nat.le_refl _) HP.out HFX.out)
      rw [HD.out] at C3
      go_wp2_with (fail)
      refine (C3.out).mono ?_
      rintro e w3 ⟨A3, c3, rfl, o3, b3⟩
      have HB3 := Lib.hid (HB2.out.trans (b3.mono HB2.out.size))
      have Fv_3 := Lib.hid ((Fv_2.out.below_ b3 (Nat.le_refl _)).mono_ b3.size)
      have Fbox_3 := Lib.hid ((Fbox_2.out.below_ b3 (Nat.le_refl _)).mono_ b3.size)
      have Fb_3 := Lib.hid ((Fb_2.out.below_ b3 (Nat.le_refl _)).mono_ b3.size)
      have Fx_3 := Lib.hid ((Fx_2.out.below_ b3 (Nat.le_refl _)).mono_ b3.size)
      have dbox_3 := Fbox_3.out.2
      have Fc_3 := Lib.hid (o3.form_)
      clear C3 b3 HB2 Fv_2 Fbox_2 Fb_2 Fx_2 dbox_2 o3
      have C4 := Lib.hid (octs_lv _ _ _ _ _ _ w3 Fb_3.out Fc_3.out)
      simp only [decide_true] at C4
      go_wp2_with (fail)
      refine (C4.out).mono ?_
      rintro e w4 ⟨rfl, b4⟩
      have HB4 := Lib.hid (HB3.out.trans (b4.mono HB3.out.size))
      have Fv_4 := Lib.hid ((Fv_3.out.below_ b4 (Nat.le_refl _)).mono_ b4.size)
      have Fbox_4 := Lib.hid ((Fbox_3.out.below_ b4 (Nat.le_refl _)).mono_ b4.size)
      have Fb_4 := Lib.hid ((Fb_3.out.below_ b4 (Nat.le_refl _)).mono_ b4.size)
      have Fx_4 := Lib.hid ((Fx_3.out.below_ b4 (Nat.le_refl _)).mono_ b4.size)
      have Fc_4 := Lib.hid ((Fc_3.out.below_ b4 (Nat.le_refl _)).mono_ b4.size)
      have dbox_4 := Fbox_4.out.2
      clear C4 b4 HB3 Fv_3 Fbox_3 Fb_3 Fx_3 Fc_3 dbox_3
      clear Fv_4
      clear Fb_4
      clear Fx_4
      clear Fc_4
      have C5 := Lib.hid (works_bp w4)
      go_wp2_with (fail)
      refine (C5.out).mono ?_
      rintro e w5 ⟨rfl, b5⟩
      have HB5 := Lib.hid (HB4.out.trans (b5.mono HB4.out.size))
      have Fbox_5 := Lib.hid ((Fbox_4.out.below_ b5 (Nat.le_refl _)).mono_ b5.size)
      have dbox_5 := Fbox_5.out.2
      clear C5 b5 HB4 Fbox_4 dbox_4
      go_wp2
      go_ret
      exact ⟨rfl, HB5.out⟩
    · skip
      have hEi : ((E : Int) != 0) = true := by rw [bne_iff_ne]; omega
      have HX := Lib.hid hx
      clear hx hE
      obtain ⟨W, hW⟩ : ∃ X, w.alloc (.cells #[v0] 24) = X := ⟨_, rfl⟩
      obtain ⟨db, hsz, hbb⟩ := boxed hW
      have HB0 := Lib.hid hbb
      have Fv_0 := Lib.hid ((h0.below_ hbb (Nat.le_refl _)).mono_ hbb.size)
      have Fbox_0 : Hid (BoxAt W W.heap.size w.heap.size v0) := ⟨by omega, db⟩
      obtain ⟨A, c, rfl, hc1, hc2, _, _⟩ := h0
      have hl0 : l0.length ≤ 9223372036854775807 := by simp only [maxLen] at hc2; omega
      have dbox_0 := Fbox_0.out.2
      clear hc1 hc2 hbb hsz db
      go_enter Try.func7, Try.ntmps7
      have Fb_0 := Lib.hid ((H1.out.below_ HB0.out (Nat.le_refl _)).mono_ HB0.out.size)
      have C1 := Lib.hid (rlong_any l0 _ ((l1.length : Nat) : Int) HI1 _ W Fv_0.out)
      rw [HM.out] at C1
      go_wp2_with (fail)
      refine (C1.out).mono ?_
      rintro e w1 ⟨rfl, b1⟩
      have HB1 := Lib.hid (HB0.out.trans (b1.mono HB0.out.size))
      have Fv_1 := Lib.hid ((Fv_0.out.below_ b1 (Nat.le_refl _)).mono_ b1.size)
      have Fbox_1 := Lib.hid ((Fbox_0.out.below_ b1 (Nat.le_refl _)).mono_ b1.size)
      have Fb_1 := Lib.hid ((Fb_0.out.below_ b1 (Nat.le_refl _)).mono_ b1.size)
      have dbox_1 := Fbox_1.out.2
      clear C1 b1 HB0 Fv_0 Fbox_0 Fb_0 dbox_0
      have C2 := Lib.hid (pencode_any l0 _ l1 _ _ w1 Fv_1.out Fb_1.out (Nat.le_refl _) HP.out HFW.out)
      rw [HX.out] at C2
      go_wp2_with (fail)
      refine (C2.out).mono ?_
      rintro e w2 ⟨A2, c2, rfl, o2, b2⟩
      have HB2 := Lib.hid (HB1.out.trans (b2.mono HB1.out.size))
      have Fv_2 := Lib.hid ((Fv_1.out.below_ b2 (Nat.le_refl _)).mono_ b2.size)
      have Fbox_2 := Lib.hid ((Fbox_1.out.below_ b2 (Nat.le_refl _)).mono_ b2.size)
      have Fb_2 := Lib.hid ((Fb_1.out.below_ b2 (Nat.le_refl _)).mono_ b2.size)
      have dbox_2 := Fbox_2.out.2
      have Fx_2 := Lib.hid (o2.form_)
      clear C2 b2 HB1 Fv_1 Fbox_1 Fb_1 dbox_1 o2
      clear Fv_2
      clear Fb_2
      clear Fx_2
      have C3 := Lib.hid (works_bp w2)
      go_wp2_with (fail)
      refine (C3.out).mono ?_
      rintro e w3 ⟨rfl, b3⟩
      have HB3 := Lib.hid (HB2.out.trans (b3.mono HB2.out.size))
      have Fbox_3 := Lib.hid ((Fbox_2.out.below_ b3 (Nat.le_refl _)).mono_ b3.size)
      have dbox_3 := Fbox_3.out.2
      clear C3 b3 HB2 Fbox_2 dbox_2
      go_wp2
      go_ret
      exact ⟨rfl, HB3.out⟩

/-! ### From the walk to the row -/
set_option maxRecDepth 100000 in
theorem lifted (os : Os) (started : os.Started) (H : Type) (enc : TypeId × Value → H) :
    ReturnsInHanded {} Try.checked os 7 .any (Rows.bpeBackSpec.pre6 enc Try.prog Try.f7 Rows.bpeBackRow.domain false) (Rows.bpeBackSpec.post enc Try.prog Try.f7 false true false false) := by
  refine returnsInHanded_of_change (C := Try.checked) own started (by kernel_rfl) Try.func7
    (ChangeSpec.witness6 (enc := enc) (C := Try.checked) false ⟨#[], #[.agg #[.slice none 0 0], .slice none 0 0], []⟩ 8 (by kernel_rfl) (by kernel_rfl) (by kernel_rfl) (by kernel_rfl)) ?_
  intro W base args ds gs before hval0 hW hcnd _
  have hval : ∀ (j : Nat) t v, Try.f7.params[j]? = some t → args[j]? = some v → Value.okWide Try.prog W .any base t v := hval0
  have hW' := hW
  obtain ⟨p, q, hA0, hV, rfl, hfz, hnd⟩ := hW
  have hA : DataW.TrodAll enc Try.prog W 0 (fun _ => true) true Try.f7.params.toList args.toList ds p := hA0
  rw [Try.params7] at hA hval
  obtain ⟨v0, vs0, d0, ds0, p0, q0, hargs, rfl, rfl, h0, r0⟩ := trodAll_cons hA
  obtain ⟨v1, vs1, d1, ds1, p1, q1, rfl, rfl, rfl, h1, r1⟩ := trodAll_cons r0
  obtain ⟨rfl, rfl, rfl⟩ := trodAll_nil r1
  obtain rfl : args = #[v0, v1] := by cases args; simp_all
  obtain ⟨rfl, rfl⟩ := trodVars_none hV
  have k0 := h0
  have lt0 : ∀ x ∈ p0, x.block < W.heap.size := by obtain ⟨m, hm⟩ := k0; exact DataW.trod_lt m _ _ _ hm
  obtain ⟨u0, l0, rfl, hb0⟩ := voc_in (hval 0 24 v0 rfl rfl) h0
  obtain ⟨a1, len1, cap1, rfl⟩ := okWide_slice Try.underlying25 (hval 1 25 v1 rfl rfl)
  have k1 := h1
  have lt1 : ∀ x ∈ p1, x.block < W.heap.size := by obtain ⟨m, hm⟩ := k1; exact DataW.trod_lt m _ _ _ hm
  obtain ⟨l1, len_1, hb1⟩ : ∃ l : List Nat, l.length = len1 ∧ Lv yK W W.heap.size (.slice a1 len1 cap1) l := by
    obtain ⟨fuel, hf⟩ := h1
    exact octs_in hf
  clear hA0 hval0
  refine (walk W u0 l0 hb0 (.slice a1 len1 cap1) l1 hb1).mono fun e W' ⟨he, bel⟩ => ?_
  subst he
  exact ⟨_, rfl, _, _, _, [], _, [], hW', trodAll_mk1 (shut_bool Try.underlying4 _), (trodAll_cons_mk (Below.trod laidOut (by kernel_rfl) (of_decide_eq_true (by kernel_rfl)) k0 bel lt0) (trodAll_cons_mk (Below.trod laidOut (by kernel_rfl) (of_decide_eq_true (by kernel_rfl)) k1 bel lt1) trodAll_mk0)), rfl, bel.frame _, fun h => by cases h⟩

theorem proved : Rows.BpeBackSaid :=
  OpenClaim.holds_of_wide 7 Try.f7 rfl rfl rfl rfl rfl rfl rfl ⟨rfl, rfl, rfl, rfl, rfl⟩ rfl rfl rfl rfl rfl (by kernel_rfl) Try.func7 (by kernel_rfl)
    (of_decide_eq_true (by kernel_rfl)) (by unfold Func.isWrapper; first | (rw [if_pos (by decide +kernel)]; kernel_rfl) | (rw [if_neg (by decide +kernel)]; exact ⟨rfl, rfl⟩))
    (fun os started H enc _ => lifted os started H enc)

end Go.Proofs.Ytaedhccmdbodlaa.bpeBack
