/-
  DealTwice: a list that is taken by one order, and then by another one, is taken by the order that has at each place what the first one has at the second one's. No condition.
-/
import Derived.Test.YtggpldghdaggfaaFrameI
import Derived.Test.YtggpldghdaggfaaFrameWl
import Derived.Test.YtggpldghdaggfaaDlLaw
import Derived.Test.YtggpldghdaggfaaWrds
import Derived.Test.YtggpldghdaggfaaInts
namespace Go.Proofs.Ytggpldghdaggfaa.dealTwice
open Go.ChangeShapes Go.WideShapes Go.ChangeAt Go.RowKit
open Go.ChangeMaps (open_string shut_string)
set_option linter.unusedVariables false

set_option maxHeartbeats 1000000 in
set_option maxRecDepth 100000 in
theorem walk (w : World) (v0 : Value) (l0 : List Int) (h0 : Lv iK w w.heap.size v0 l0) (v1 : Value) (l1 : List Int) (h1 : Lv iK w w.heap.size v1 l1) (v2 : Value) (l2 : List Nat) (h2 : Lv wK w w.heap.size v2 l2) :
    Calls Try.prog 11 #[v0, v1, v2] w (IsBool true w) := by
  have Fp_0 := Lib.hid (h0)
  have Fq_0 := Lib.hid (h1)
  have Fl_0 := Lib.hid (h2)
  obtain ⟨A, c, rfl, hc1, hc2, _⟩ := h0
  have hl0 : l0.length ≤ 9223372036854775807 := by simp only [maxLen] at hc2; omega
  clear hc1 hc2
  obtain ⟨A', c', rfl, hc1, hc2, _⟩ := h1
  have hl1 : l1.length ≤ 9223372036854775807 := by simp only [maxLen] at hc2; omega
  clear hc1 hc2
  obtain ⟨A'', c'', rfl, hc1, hc2, _⟩ := h2
  have hl2 : l2.length ≤ 9223372036854775807 := by simp only [maxLen] at hc2; omega
  clear hc1 hc2
  by_cases e0 : Dl.why l0 = 0
  rotate_left 1
  · skip
    have hi := (Dl.back_bad e0).2
    have h1 := Dl.take_none (l := l2) e0
    obtain ⟨y, hy⟩ : ∃ y, Dl.why l0 = y := ⟨_, rfl⟩
    rw [hy] at h1 e0
    obtain ⟨x, hx⟩ : ∃ x : List Nat, [] = x := ⟨_, rfl⟩
    rw [hx] at h1
    obtain ⟨r, hr⟩ : ∃ r, Dl.takeE l1 x = r := ⟨_, rfl⟩
    have H1 := Lib.hid h1
    have H2 := Lib.hid hr
    have HI := Lib.hid hi
    have hye : ((y : Int) != 0) = true := by rw [bne_iff_ne]; omega
    clear hi h1 hy hx hr e0
    have HB0 := Lib.hid (Below.refl w.heap.size w)
    go_enter Try.func11, Try.ntmps11
    have C1 := Lib.hid (ptake_any _ _ l0 l2 _ w (Nat.le_refl _) Fp_0.out Fl_0.out)
    rw [H1.out] at C1
    go_wp2_with (fail)
    refine (C1.out).mono ?_
    rintro e w1 ⟨A1, c1, rfl, o1, b1⟩
    have HB1 := Lib.hid (HB0.out.trans (b1.mono HB0.out.size))
    have Fp_1 := Lib.hid ((Fp_0.out.below_ b1 (Nat.le_refl _)).mono_ b1.size)
    have Fq_1 := Lib.hid ((Fq_0.out.below_ b1 (Nat.le_refl _)).mono_ b1.size)
    have Fl_1 := Lib.hid ((Fl_0.out.below_ b1 (Nat.le_refl _)).mono_ b1.size)
    have Fa_1 := Lib.hid (o1.form_)
    clear C1 b1 HB0 Fp_0 Fq_0 Fl_0 o1
    have C2 := Lib.hid (ptake_any _ _ l1 x _ w1 (Nat.le_refl _) Fq_1.out Fa_1.out)
    rw [H2.out] at C2
    go_wp2_with (fail)
    refine (C2.out).mono ?_
    rintro e w2 ⟨A2, c2, rfl, o2, b2⟩
    have HB2 := Lib.hid (HB1.out.trans (b2.mono HB1.out.size))
    have Fp_2 := Lib.hid ((Fp_1.out.below_ b2 (Nat.le_refl _)).mono_ b2.size)
    have Fq_2 := Lib.hid ((Fq_1.out.below_ b2 (Nat.le_refl _)).mono_ b2.size)
    have Fl_2 := Lib.hid ((Fl_1.out.below_ b2 (Nat.le_refl _)).mono_ b2.size)
    have Fa_2 := Lib.hid ((Fa_1.out.below_ b2 (Nat.le_refl _)).mono_ b2.size)
    have Fb_2 := Lib.hid (o2.form_)
    clear C2 b2 HB1 Fp_1 Fq_1 Fl_1 Fa_1 o2
    have C3 := Lib.hid (pis_any _ l0 _ w2 (Nat.le_refl _) Fp_2.out)
    rw [HI.out] at C3
    go_wp2_with (fail)
    refine (C3.out).mono ?_
    rintro e w3 ⟨rfl, b3⟩
    have HB3 := Lib.hid (HB2.out.trans (b3.mono HB2.out.size))
    have Fp_3 := Lib.hid ((Fp_2.out.below_ b3 (Nat.le_refl _)).mono_ b3.size)
    have Fq_3 := Lib.hid ((Fq_2.out.below_ b3 (Nat.le_refl _)).mono_ b3.size)
    have Fl_3 := Lib.hid ((Fl_2.out.below_ b3 (Nat.le_refl _)).mono_ b3.size)
    have Fa_3 := Lib.hid ((Fa_2.out.below_ b3 (Nat.le_refl _)).mono_ b3.size)
    have Fb_3 := Lib.hid ((Fb_2.out.below_ b3 (Nat.le_refl _)).mono_ b3.size)
    clear C3 b3 HB2 Fp_2 Fq_2 Fl_2 Fa_2 Fb_2
    clear Fp_3
    clear Fq_3
    clear Fl_3
    clear Fa_3
    clear Fb_3
    have C4 := Lib.hid (works_any w3)
    go_wp2_with (fail)
    refine (C4.out).mono ?_
    rintro e w4 ⟨rfl, b4⟩
    have HB4 := Lib.hid (HB3.out.trans (b4.mono HB3.out.size))
    clear C4 b4 HB3
    go_wp2
    go_ret
    exact ⟨rfl, HB4.out⟩
  have hi0 := (Dl.back_ok e0).choose_spec.2.2
  have HI0 := Lib.hid hi0
  clear hi0
  by_cases e1 : Dl.why l1 = 0
  rotate_left 1
  · skip
    have hi := (Dl.back_bad e1).2
    obtain ⟨r1, hr1⟩ : ∃ r, Dl.takeE l0 l2 = r := ⟨_, rfl⟩
    obtain ⟨x, y1⟩ := r1
    have h2 := Dl.take_none (l := x) e1
    obtain ⟨y, hy⟩ : ∃ y, Dl.why l1 = y := ⟨_, rfl⟩
    rw [hy] at h2 e1
    have H1 := Lib.hid hr1
    have H2 := Lib.hid h2
    have HI := Lib.hid hi
    have hye : ((y : Int) != 0) = true := by rw [bne_iff_ne]; omega
    have hy1 : ((y1 : Int) != 0) = true ∨ ((y1 : Int) != 0) = false := by cases ((y1 : Int) != 0) <;> simp
    clear hi h2 hy hr1 e0 e1
    rcases hy1 with hy1 | hy1
    · skip
      have HB0 := Lib.hid (Below.refl w.heap.size w)
      go_enter Try.func11, Try.ntmps11
      have C1 := Lib.hid (ptake_any _ _ l0 l2 _ w (Nat.le_refl _) Fp_0.out Fl_0.out)
      rw [H1.out] at C1
      go_wp2_with (fail)
      refine (C1.out).mono ?_
      rintro e w1 ⟨A1, c1, rfl, o1, b1⟩
      have HB1 := Lib.hid (HB0.out.trans (b1.mono HB0.out.size))
      have Fp_1 := Lib.hid ((Fp_0.out.below_ b1 (Nat.le_refl _)).mono_ b1.size)
      have Fq_1 := Lib.hid ((Fq_0.out.below_ b1 (Nat.le_refl _)).mono_ b1.size)
      have Fl_1 := Lib.hid ((Fl_0.out.below_ b1 (Nat.le_refl _)).mono_ b1.size)
      have Fa_1 := Lib.hid (o1.form_)
      clear C1 b1 HB0 Fp_0 Fq_0 Fl_0 o1
      have C2 := Lib.hid (ptake_any _ _ l1 x _ w1 (Nat.le_refl _) Fq_1.out Fa_1.out)
      rw [H2.out] at C2
      go_wp2_with (fail)
      refine (C2.out).mono ?_
      rintro e w2 ⟨A2, c2, rfl, o2, b2⟩
      have HB2 := Lib.hid (HB1.out.trans (b2.mono HB1.out.size))
      have Fp_2 := Lib.hid ((Fp_1.out.below_ b2 (Nat.le_refl _)).mono_ b2.size)
      have Fq_2 := Lib.hid ((Fq_1.out.below_ b2 (Nat.le_refl _)).mono_ b2.size)
      have Fl_2 := Lib.hid ((Fl_1.out.below_ b2 (Nat.le_refl _)).mono_ b2.size)
      have Fa_2 := Lib.hid ((Fa_1.out.below_ b2 (Nat.le_refl _)).mono_ b2.size)
      have Fb_2 := Lib.hid (o2.form_)
      clear C2 b2 HB1 Fp_1 Fq_1 Fl_1 Fa_1 o2
      have C3 := Lib.hid (pis_any _ l0 _ w2 (Nat.le_refl _) Fp_2.out)
      rw [HI0.out] at C3
      go_wp2_with (fail)
      refine (C3.out).mono ?_
      rintro e w3 ⟨rfl, b3⟩
      have HB3 := Lib.hid (HB2.out.trans (b3.mono HB2.out.size))
      have Fp_3 := Lib.hid ((Fp_2.out.below_ b3 (Nat.le_refl _)).mono_ b3.size)
      have Fq_3 := Lib.hid ((Fq_2.out.below_ b3 (Nat.le_refl _)).mono_ b3.size)
      have Fl_3 := Lib.hid ((Fl_2.out.below_ b3 (Nat.le_refl _)).mono_ b3.size)
      have Fa_3 := Lib.hid ((Fa_2.out.below_ b3 (Nat.le_refl _)).mono_ b3.size)
      have Fb_3 := Lib.hid ((Fb_2.out.below_ b3 (Nat.le_refl _)).mono_ b3.size)
      clear C3 b3 HB2 Fp_2 Fq_2 Fl_2 Fa_2 Fb_2
      have C4 := Lib.hid (pis_any _ l1 _ w3 (Nat.le_refl _) Fq_3.out)
      rw [HI.out] at C4
      go_wp2_with (fail)
      refine (C4.out).mono ?_
      rintro e w4 ⟨rfl, b4⟩
      have HB4 := Lib.hid (HB3.out.trans (b4.mono HB3.out.size))
      have Fp_4 := Lib.hid ((Fp_3.out.below_ b4 (Nat.le_refl _)).mono_ b4.size)
      have Fq_4 := Lib.hid ((Fq_3.out.below_ b4 (Nat.le_refl _)).mono_ b4.size)
      have Fl_4 := Lib.hid ((Fl_3.out.below_ b4 (Nat.le_refl _)).mono_ b4.size)
      have Fa_4 := Lib.hid ((Fa_3.out.below_ b4 (Nat.le_refl _)).mono_ b4.size)
      have Fb_4 := Lib.hid ((Fb_3.out.below_ b4 (Nat.le_refl _)).mono_ b4.size)
      clear C4 b4 HB3 Fp_3 Fq_3 Fl_3 Fa_3 Fb_3
      clear Fp_4
      clear Fq_4
      clear Fl_4
      clear Fa_4
      clear Fb_4
      have C5 := Lib.hid (works_any w4)
      go_wp2_with (fail)
      refine (C5.out).mono ?_
      rintro e w5 ⟨rfl, b5⟩
      have HB5 := Lib.hid (HB4.out.trans (b5.mono HB4.out.size))
      clear C5 b5 HB4
      go_wp2
      go_ret
      exact ⟨rfl, HB5.out⟩
    · skip
      have HB0 := Lib.hid (Below.refl w.heap.size w)
      go_enter Try.func11, Try.ntmps11
      have C1 := Lib.hid (ptake_any _ _ l0 l2 _ w (Nat.le_refl _) Fp_0.out Fl_0.out)
      rw [H1.out] at C1
      go_wp2_with (fail)
      refine (C1.out).mono ?_
      rintro e w1 ⟨A1, c1, rfl, o1, b1⟩
      have HB1 := Lib.hid (HB0.out.trans (b1.mono HB0.out.size))
      have Fp_1 := Lib.hid ((Fp_0.out.below_ b1 (Nat.le_refl _)).mono_ b1.size)
      have Fq_1 := Lib.hid ((Fq_0.out.below_ b1 (Nat.le_refl _)).mono_ b1.size)
      have Fl_1 := Lib.hid ((Fl_0.out.below_ b1 (Nat.le_refl _)).mono_ b1.size)
      have Fa_1 := Lib.hid (o1.form_)
      clear C1 b1 HB0 Fp_0 Fq_0 Fl_0 o1
      have C2 := Lib.hid (ptake_any _ _ l1 x _ w1 (Nat.le_refl _) Fq_1.out Fa_1.out)
      rw [H2.out] at C2
      go_wp2_with (fail)
      refine (C2.out).mono ?_
      rintro e w2 ⟨A2, c2, rfl, o2, b2⟩
      have HB2 := Lib.hid (HB1.out.trans (b2.mono HB1.out.size))
      have Fp_2 := Lib.hid ((Fp_1.out.below_ b2 (Nat.le_refl _)).mono_ b2.size)
      have Fq_2 := Lib.hid ((Fq_1.out.below_ b2 (Nat.le_refl _)).mono_ b2.size)
      have Fl_2 := Lib.hid ((Fl_1.out.below_ b2 (Nat.le_refl _)).mono_ b2.size)
      have Fa_2 := Lib.hid ((Fa_1.out.below_ b2 (Nat.le_refl _)).mono_ b2.size)
      have Fb_2 := Lib.hid (o2.form_)
      clear C2 b2 HB1 Fp_1 Fq_1 Fl_1 Fa_1 o2
      have C3 := Lib.hid (pis_any _ l0 _ w2 (Nat.le_refl _) Fp_2.out)
      rw [HI0.out] at C3
      go_wp2_with (fail)
      refine (C3.out).mono ?_
      rintro e w3 ⟨rfl, b3⟩
      have HB3 := Lib.hid (HB2.out.trans (b3.mono HB2.out.size))
      have Fp_3 := Lib.hid ((Fp_2.out.below_ b3 (Nat.le_refl _)).mono_ b3.size)
      have Fq_3 := Lib.hid ((Fq_2.out.below_ b3 (Nat.le_refl _)).mono_ b3.size)
      have Fl_3 := Lib.hid ((Fl_2.out.below_ b3 (Nat.le_refl _)).mono_ b3.size)
      have Fa_3 := Lib.hid ((Fa_2.out.below_ b3 (Nat.le_refl _)).mono_ b3.size)
      have Fb_3 := Lib.hid ((Fb_2.out.below_ b3 (Nat.le_refl _)).mono_ b3.size)
      clear C3 b3 HB2 Fp_2 Fq_2 Fl_2 Fa_2 Fb_2
      have C4 := Lib.hid (pis_any _ l1 _ w3 (Nat.le_refl _) Fq_3.out)
      rw [HI.out] at C4
      go_wp2_with (fail)
      refine (C4.out).mono ?_
      rintro e w4 ⟨rfl, b4⟩
      have HB4 := Lib.hid (HB3.out.trans (b4.mono HB3.out.size))
      have Fp_4 := Lib.hid ((Fp_3.out.below_ b4 (Nat.le_refl _)).mono_ b4.size)
      have Fq_4 := Lib.hid ((Fq_3.out.below_ b4 (Nat.le_refl _)).mono_ b4.size)
      have Fl_4 := Lib.hid ((Fl_3.out.below_ b4 (Nat.le_refl _)).mono_ b4.size)
      have Fa_4 := Lib.hid ((Fa_3.out.below_ b4 (Nat.le_refl _)).mono_ b4.size)
      have Fb_4 := Lib.hid ((Fb_3.out.below_ b4 (Nat.le_refl _)).mono_ b4.size)
      clear C4 b4 HB3 Fp_3 Fq_3 Fl_3 Fa_3 Fb_3
      clear Fp_4
      clear Fq_4
      clear Fl_4
      clear Fa_4
      clear Fb_4
      have C5 := Lib.hid (works_any w4)
      go_wp2_with (fail)
      refine (C5.out).mono ?_
      rintro e w5 ⟨rfl, b5⟩
      have HB5 := Lib.hid (HB4.out.trans (b5.mono HB4.out.size))
      clear C5 b5 HB4
      go_wp2
      go_ret
      exact ⟨rfl, HB5.out⟩
  have hi1 := (Dl.back_ok e1).choose_spec.2.2
  have HI1 := Lib.hid hi1
  clear hi1
  by_cases e2 : l2.length = l0.length
  rotate_left 1
  · skip
    have h1 := Dl.take_bad e0 e2
    obtain ⟨x, hx⟩ : ∃ x : List Nat, [] = x := ⟨_, rfl⟩
    rw [hx] at h1
    obtain ⟨r, hr⟩ : ∃ r, Dl.takeE l1 x = r := ⟨_, rfl⟩
    have H1 := Lib.hid h1
    have H2 := Lib.hid hr
    have hle : ((l0.length : Int) != (l2.length : Int)) = true := by rw [bne_iff_ne]; omega
    clear h1 hx hr e0 e1 e2
    have HB0 := Lib.hid (Below.refl w.heap.size w)
    go_enter Try.func11, Try.ntmps11
    have C1 := Lib.hid (ptake_any _ _ l0 l2 _ w (Nat.le_refl _) Fp_0.out Fl_0.out)
    rw [H1.out] at C1
    go_wp2_with (fail)
    refine (C1.out).mono ?_
    rintro e w1 ⟨A1, c1, rfl, o1, b1⟩
    have HB1 := Lib.hid (HB0.out.trans (b1.mono HB0.out.size))
    have Fp_1 := Lib.hid ((Fp_0.out.below_ b1 (Nat.le_refl _)).mono_ b1.size)
    have Fq_1 := Lib.hid ((Fq_0.out.below_ b1 (Nat.le_refl _)).mono_ b1.size)
    have Fl_1 := Lib.hid ((Fl_0.out.below_ b1 (Nat.le_refl _)).mono_ b1.size)
    have Fa_1 := Lib.hid (o1.form_)
    clear C1 b1 HB0 Fp_0 Fq_0 Fl_0 o1
    have C2 := Lib.hid (ptake_any _ _ l1 x _ w1 (Nat.le_refl _) Fq_1.out Fa_1.out)
    rw [H2.out] at C2
    go_wp2_with (fail)
    refine (C2.out).mono ?_
    rintro e w2 ⟨A2, c2, rfl, o2, b2⟩
    have HB2 := Lib.hid (HB1.out.trans (b2.mono HB1.out.size))
    have Fp_2 := Lib.hid ((Fp_1.out.below_ b2 (Nat.le_refl _)).mono_ b2.size)
    have Fq_2 := Lib.hid ((Fq_1.out.below_ b2 (Nat.le_refl _)).mono_ b2.size)
    have Fl_2 := Lib.hid ((Fl_1.out.below_ b2 (Nat.le_refl _)).mono_ b2.size)
    have Fa_2 := Lib.hid ((Fa_1.out.below_ b2 (Nat.le_refl _)).mono_ b2.size)
    have Fb_2 := Lib.hid (o2.form_)
    clear C2 b2 HB1 Fp_1 Fq_1 Fl_1 Fa_1 o2
    have C3 := Lib.hid (pis_any _ l0 _ w2 (Nat.le_refl _) Fp_2.out)
    rw [HI0.out] at C3
    go_wp2_with (fail)
    refine (C3.out).mono ?_
    rintro e w3 ⟨rfl, b3⟩
    have HB3 := Lib.hid (HB2.out.trans (b3.mono HB2.out.size))
    have Fp_3 := Lib.hid ((Fp_2.out.below_ b3 (Nat.le_refl _)).mono_ b3.size)
    have Fq_3 := Lib.hid ((Fq_2.out.below_ b3 (Nat.le_refl _)).mono_ b3.size)
    have Fl_3 := Lib.hid ((Fl_2.out.below_ b3 (Nat.le_refl _)).mono_ b3.size)
    have Fa_3 := Lib.hid ((Fa_2.out.below_ b3 (Nat.le_refl _)).mono_ b3.size)
    have Fb_3 := Lib.hid ((Fb_2.out.below_ b3 (Nat.le_refl _)).mono_ b3.size)
    clear C3 b3 HB2 Fp_2 Fq_2 Fl_2 Fa_2 Fb_2
    have C4 := Lib.hid (pis_any _ l1 _ w3 (Nat.le_refl _) Fq_3.out)
    rw [HI1.out] at C4
    go_wp2_with (fail)
    refine (C4.out).mono ?_
    rintro e w4 ⟨rfl, b4⟩
    have HB4 := Lib.hid (HB3.out.trans (b4.mono HB3.out.size))
    have Fp_4 := Lib.hid ((Fp_3.out.below_ b4 (Nat.le_refl _)).mono_ b4.size)
    have Fq_4 := Lib.hid ((Fq_3.out.below_ b4 (Nat.le_refl _)).mono_ b4.size)
    have Fl_4 := Lib.hid ((Fl_3.out.below_ b4 (Nat.le_refl _)).mono_ b4.size)
    have Fa_4 := Lib.hid ((Fa_3.out.below_ b4 (Nat.le_refl _)).mono_ b4.size)
    have Fb_4 := Lib.hid ((Fb_3.out.below_ b4 (Nat.le_refl _)).mono_ b4.size)
    clear C4 b4 HB3 Fp_3 Fq_3 Fl_3 Fa_3 Fb_3
    clear Fp_4
    clear Fq_4
    clear Fl_4
    clear Fa_4
    clear Fb_4
    have C5 := Lib.hid (works_any w4)
    go_wp2_with (fail)
    refine (C5.out).mono ?_
    rintro e w5 ⟨rfl, b5⟩
    have HB5 := Lib.hid (HB4.out.trans (b5.mono HB4.out.size))
    clear C5 b5 HB4
    go_wp2
    go_ret
    exact ⟨rfl, HB5.out⟩
  by_cases e3 : l1.length = l0.length
  rotate_left 1
  · skip
    have h1 := Dl.take_ok (l := l2) e0 e2
    obtain ⟨x, hx⟩ : ∃ x : List Nat, Dl.takes l0 l2 = x := ⟨_, rfl⟩
    have hxl : x.length = l0.length := by rw [← hx, Dl.takes_len]
    rw [hx] at h1
    have h2 := Dl.take_bad (l := x) e1 (by omega)
    have H1 := Lib.hid h1
    have H2 := Lib.hid h2
    have hle : ((l0.length : Int) != (l2.length : Int)) = false := by rw [e2]; simp
    have hle2 : ((l1.length : Int) != (x.length : Int)) = true := by rw [bne_iff_ne]; omega
    clear h1 h2 hx hxl e0 e1 e2 e3
    have HB0 := Lib.hid (Below.refl w.heap.size w)
    go_enter Try.func11, Try.ntmps11
    have C1 := Lib.hid (ptake_any _ _ l0 l2 _ w (Nat.le_refl _) Fp_0.out Fl_0.out)
    rw [H1.out] at C1
    go_wp2_with (fail)
    refine (C1.out).mono ?_
    rintro e w1 ⟨A1, c1, rfl, o1, b1⟩
    have HB1 := Lib.hid (HB0.out.trans (b1.mono HB0.out.size))
    have Fp_1 := Lib.hid ((Fp_0.out.below_ b1 (Nat.le_refl _)).mono_ b1.size)
    have Fq_1 := Lib.hid ((Fq_0.out.below_ b1 (Nat.le_refl _)).mono_ b1.size)
    have Fl_1 := Lib.hid ((Fl_0.out.below_ b1 (Nat.le_refl _)).mono_ b1.size)
    have Fa_1 := Lib.hid (o1.form_)
    clear C1 b1 HB0 Fp_0 Fq_0 Fl_0 o1
    have C2 := Lib.hid (ptake_any _ _ l1 x _ w1 (Nat.le_refl _) Fq_1.out Fa_1.out)
    rw [H2.out] at C2
    go_wp2_with (fail)
    refine (C2.out).mono ?_
    rintro e w2 ⟨A2, c2, rfl, o2, b2⟩
    have HB2 := Lib.hid (HB1.out.trans (b2.mono HB1.out.size))
    have Fp_2 := Lib.hid ((Fp_1.out.below_ b2 (Nat.le_refl _)).mono_ b2.size)
    have Fq_2 := Lib.hid ((Fq_1.out.below_ b2 (Nat.le_refl _)).mono_ b2.size)
    have Fl_2 := Lib.hid ((Fl_1.out.below_ b2 (Nat.le_refl _)).mono_ b2.size)
    have Fa_2 := Lib.hid ((Fa_1.out.below_ b2 (Nat.le_refl _)).mono_ b2.size)
    have Fb_2 := Lib.hid (o2.form_)
    clear C2 b2 HB1 Fp_1 Fq_1 Fl_1 Fa_1 o2
    have C3 := Lib.hid (pis_any _ l0 _ w2 (Nat.le_refl _) Fp_2.out)
    rw [HI0.out] at C3
    go_wp2_with (fail)
    refine (C3.out).mono ?_
    rintro e w3 ⟨rfl, b3⟩
    have HB3 := Lib.hid (HB2.out.trans (b3.mono HB2.out.size))
    have Fp_3 := Lib.hid ((Fp_2.out.below_ b3 (Nat.le_refl _)).mono_ b3.size)
    have Fq_3 := Lib.hid ((Fq_2.out.below_ b3 (Nat.le_refl _)).mono_ b3.size)
    have Fl_3 := Lib.hid ((Fl_2.out.below_ b3 (Nat.le_refl _)).mono_ b3.size)
    have Fa_3 := Lib.hid ((Fa_2.out.below_ b3 (Nat.le_refl _)).mono_ b3.size)
    have Fb_3 := Lib.hid ((Fb_2.out.below_ b3 (Nat.le_refl _)).mono_ b3.size)
    clear C3 b3 HB2 Fp_2 Fq_2 Fl_2 Fa_2 Fb_2
    have C4 := Lib.hid (pis_any _ l1 _ w3 (Nat.le_refl _) Fq_3.out)
    rw [HI1.out] at C4
    go_wp2_with (fail)
    refine (C4.out).mono ?_
    rintro e w4 ⟨rfl, b4⟩
    have HB4 := Lib.hid (HB3.out.trans (b4.mono HB3.out.size))
    have Fp_4 := Lib.hid ((Fp_3.out.below_ b4 (Nat.le_refl _)).mono_ b4.size)
    have Fq_4 := Lib.hid ((Fq_3.out.below_ b4 (Nat.le_refl _)).mono_ b4.size)
    have Fl_4 := Lib.hid ((Fl_3.out.below_ b4 (Nat.le_refl _)).mono_ b4.size)
    have Fa_4 := Lib.hid ((Fa_3.out.below_ b4 (Nat.le_refl _)).mono_ b4.size)
    have Fb_4 := Lib.hid ((Fb_3.out.below_ b4 (Nat.le_refl _)).mono_ b4.size)
    clear C4 b4 HB3 Fp_3 Fq_3 Fl_3 Fa_3 Fb_3
    clear Fp_4
    clear Fq_4
    clear Fl_4
    clear Fa_4
    clear Fb_4
    have C5 := Lib.hid (works_any w4)
    go_wp2_with (fail)
    refine (C5.out).mono ?_
    rintro e w5 ⟨rfl, b5⟩
    have HB5 := Lib.hid (HB4.out.trans (b5.mono HB4.out.size))
    clear C5 b5 HB4
    go_wp2
    go_ret
    exact ⟨rfl, HB5.out⟩
  · skip
    have h1 := Dl.take_ok (l := l2) e0 e2
    have h2 := Dl.take_ok (l := Dl.takes l0 l2) e1 (by rw [Dl.takes_len, e3])
    obtain ⟨ha0, ho0⟩ := Dl.why_zero.1 e0
    obtain ⟨ha1, ho1⟩ := Dl.why_zero.1 e1
    have hob := Dl.both_ord ho0 ho1 e3
    have hwb : Dl.why (Dl.both l0 l1) = 0 := Dl.why_zero.2 ⟨by rw [Dl.both_len]; exact ha1, hob⟩
    have h3 := Dl.take_ok (l := l2) hwb (by rw [Dl.both_len]; omega)
    have h4 := (Dl.back_ok hwb).choose_spec.2.2
    rw [Dl.takes_both ho1 e3] at h3
    obtain ⟨x, hx⟩ : ∃ x : List Nat, Dl.takes l0 l2 = x := ⟨_, rfl⟩
    rw [hx] at h1 h2 h3
    obtain ⟨y, hy⟩ : ∃ y : List Nat, Dl.takes l1 x = y := ⟨_, rfl⟩
    rw [hy] at h2 h3
    have H1 := Lib.hid h1
    have H2 := Lib.hid h2
    have H3 := Lib.hid h3
    have H4 := Lib.hid h4
    have HO1 := Lib.hid ho1
    have HLN : Hid (l1.length ≤ 65536) := ha1
    have HE3 := Lib.hid e3
    clear h1 h2 h3 h4 hx hy e0 e1 e2 e3 ha0 ha1 ho0 ho1 hob hwb
    have HB0 := Lib.hid (Below.refl w.heap.size w)
    go_enter Try.func11, Try.ntmps11
    have C1 := Lib.hid (ptake_any _ _ l0 l2 _ w (Nat.le_refl _) Fp_0.out Fl_0.out)
    rw [H1.out] at C1
    go_wp2_with (fail)
    refine (C1.out).mono ?_
    rintro e w1 ⟨A1, c1, rfl, o1, b1⟩
    have HB1 := Lib.hid (HB0.out.trans (b1.mono HB0.out.size))
    have Fp_1 := Lib.hid ((Fp_0.out.below_ b1 (Nat.le_refl _)).mono_ b1.size)
    have Fq_1 := Lib.hid ((Fq_0.out.below_ b1 (Nat.le_refl _)).mono_ b1.size)
    have Fl_1 := Lib.hid ((Fl_0.out.below_ b1 (Nat.le_refl _)).mono_ b1.size)
    have Fa_1 := Lib.hid (o1.form_)
    clear C1 b1 HB0 Fp_0 Fq_0 Fl_0 o1
    have C2 := Lib.hid (ptake_any _ _ l1 x _ w1 (Nat.le_refl _) Fq_1.out Fa_1.out)
    rw [H2.out] at C2
    go_wp2_with (fail)
    refine (C2.out).mono ?_
    rintro e w2 ⟨A2, c2, rfl, o2, b2⟩
    have HB2 := Lib.hid (HB1.out.trans (b2.mono HB1.out.size))
    have Fp_2 := Lib.hid ((Fp_1.out.below_ b2 (Nat.le_refl _)).mono_ b2.size)
    have Fq_2 := Lib.hid ((Fq_1.out.below_ b2 (Nat.le_refl _)).mono_ b2.size)
    have Fl_2 := Lib.hid ((Fl_1.out.below_ b2 (Nat.le_refl _)).mono_ b2.size)
    have Fa_2 := Lib.hid ((Fa_1.out.below_ b2 (Nat.le_refl _)).mono_ b2.size)
    have Fb_2 := Lib.hid (o2.form_)
    clear C2 b2 HB1 Fp_1 Fq_1 Fl_1 Fa_1 o2
    go_wp2
    go_loopw [11, 12] (fun u i wr => ∃ k : Nat, k ≤ l1.length ∧ i = .int .i64 k ∧ Hid (OwnL iK wr w2.heap.size u (Dl.both l0 (l1.take k))) ∧ Below w2.heap.size w2 wr) (fun _ i _ => l1.length - (intOf i).toNat)
    case atStart => exact ⟨0, by omega, rfl, OwnL.nil_ _ _ _, Below.refl _ _⟩
    case round =>
      obtain ⟨k, hk, rfl, HT, hbr⟩ := hrel
      have hbase : w2.heap.size ≤ wr.heap.size := hbr.size
      by_cases hlt : k < l1.length
      · obtain ⟨b1, o1, x1, rfl, hb1, -, hd, hcell⟩ := (Fq_2.out.below_ hbr (Nat.le_refl _)).int_ hlt
        have hx2 := HO1.out.1 x1 (List.mem_of_getElem? hd)
        obtain ⟨i, rfl⟩ := Int.eq_ofNat_of_zero_le hx2.1
        have hi : i < l0.length := by have := HE3.out; omega
        obtain ⟨b2, o2, y2, rfl, hb2, hyI, hd2, hcell2⟩ := (Fp_2.out.below_ hbr (Nat.le_refl _)).int_ hi
        have HY2 := Lib.hid hyI
        have hii : (i : Int) < (l0.length : Int) := by omega
        have HTL : Hid ((Dl.both l0 (l1.take k)).length = k) := by unfold Hid; rw [Dl.both_len, List.length_take]; omega
        have HS : Hid (Dl.both l0 (l1.take k) ++ [y2] = Dl.both l0 (l1.take (k + 1))) := by
          unfold Hid
          rw [Dl.both_snoc hd, Int.toNat_natCast, Dl.at_of hd2]
        have hmm := HLN.out
        clear hd hd2 hx2 hyI
        go_wp2_with (at_builtin; go_must (refine wpList_push_l _ iK rfl _ _ rfl w2.heap.size u11 rfl (Dl.both l0 (l1.take k)) HT.out rfl y2 HY2.out _ rfl _ rfl (by rw [HTL.out]; show _ * 8 ≤ _; omega) (by rw [HTL.out]; simp only [maxLen]; omega) hbase ?_; intro A9 c9 w3 hA hG))
        have HG := Lib.hid (hbr.grown hG hbase (fun k hk => (HT.out.lt_ k hk).1))
        rw [HTL.out, HS.out] at hA
        rw [HTL.out]
        have HA := Lib.hid hA
        clear hA hG HT HTL HS hmm
        go_roundw
        case rel => exact ⟨k + 1, by omega, by go_num, HA.out, HG.out⟩
        case measure => simp [intOf]; omega
      · have hkN : k = l1.length := by omega
        have ht := HT.out
        rw [hkN, List.take_length] at ht
        obtain ⟨A9, c9, rfl, _⟩ := ht.form_
        have HTF := Lib.hid ht.form_
        have HBr := Lib.hid hbr
        have HBL := Dl.both_len l0 l1
        rw [HBL] at HTF ⊢
        obtain ⟨bo, hbo⟩ : ∃ bo, Dl.both l0 l1 = bo := ⟨_, rfl⟩
        rw [hbo] at HTF H3 H4
        clear ht HT hkN hbr hbase hk HBL hbo
        clear Fa_2
        clear Fq_2
        have b3 := HBr.out
        have HB3 := Lib.hid (HB2.out.trans (b3.mono HB2.out.size))
        have Fp_3 := Lib.hid ((Fp_2.out.below_ b3 (Nat.le_refl _)).mono_ b3.size)
        have Fl_3 := Lib.hid ((Fl_2.out.below_ b3 (Nat.le_refl _)).mono_ b3.size)
        have Fb_3 := Lib.hid ((Fb_2.out.below_ b3 (Nat.le_refl _)).mono_ b3.size)
        clear b3 HB2 Fp_2 Fl_2 Fb_2
        have Fo_3 := HTF
        have C4 := Lib.hid (ptake_any _ _ bo l2 _ wr (Nat.le_refl _) Fo_3.out Fl_3.out)
        rw [H3.out] at C4
        go_wp2_with (fail)
        refine (C4.out).mono ?_
        rintro e w4 ⟨A4, c4, rfl, o4, b4⟩
        have HB4 := Lib.hid (HB3.out.trans (b4.mono HB3.out.size))
        have Fp_4 := Lib.hid ((Fp_3.out.below_ b4 (Nat.le_refl _)).mono_ b4.size)
        have Fl_4 := Lib.hid ((Fl_3.out.below_ b4 (Nat.le_refl _)).mono_ b4.size)
        have Fb_4 := Lib.hid ((Fb_3.out.below_ b4 (Nat.le_refl _)).mono_ b4.size)
        have Fo_4 := Lib.hid ((Fo_3.out.below_ b4 (Nat.le_refl _)).mono_ b4.size)
        have Fc_4 := Lib.hid (o4.form_)
        clear C4 b4 HB3 Fp_3 Fl_3 Fb_3 Fo_3 o4
        have C5 := Lib.hid (pis_any _ bo _ w4 (Nat.le_refl _) Fo_4.out)
        rw [H4.out] at C5
        go_wp2_with (fail)
        refine (C5.out).mono ?_
        rintro e w5 ⟨rfl, b5⟩
        have HB5 := Lib.hid (HB4.out.trans (b5.mono HB4.out.size))
        have Fp_5 := Lib.hid ((Fp_4.out.below_ b5 (Nat.le_refl _)).mono_ b5.size)
        have Fl_5 := Lib.hid ((Fl_4.out.below_ b5 (Nat.le_refl _)).mono_ b5.size)
        have Fb_5 := Lib.hid ((Fb_4.out.below_ b5 (Nat.le_refl _)).mono_ b5.size)
        have Fo_5 := Lib.hid ((Fo_4.out.below_ b5 (Nat.le_refl _)).mono_ b5.size)
        have Fc_5 := Lib.hid ((Fc_4.out.below_ b5 (Nat.le_refl _)).mono_ b5.size)
        clear C5 b5 HB4 Fp_4 Fl_4 Fb_4 Fo_4 Fc_4
        have C6 := Lib.hid (wrds_lv _ _ _ _ _ _ w5 Fb_5.out Fc_5.out)
        simp only [decide_true] at C6
        go_wp2_with (fail)
        refine (C6.out).mono ?_
        rintro e w6 ⟨rfl, b6⟩
        have HB6 := Lib.hid (HB5.out.trans (b6.mono HB5.out.size))
        have Fp_6 := Lib.hid ((Fp_5.out.below_ b6 (Nat.le_refl _)).mono_ b6.size)
        have Fl_6 := Lib.hid ((Fl_5.out.below_ b6 (Nat.le_refl _)).mono_ b6.size)
        have Fb_6 := Lib.hid ((Fb_5.out.below_ b6 (Nat.le_refl _)).mono_ b6.size)
        have Fo_6 := Lib.hid ((Fo_5.out.below_ b6 (Nat.le_refl _)).mono_ b6.size)
        have Fc_6 := Lib.hid ((Fc_5.out.below_ b6 (Nat.le_refl _)).mono_ b6.size)
        clear C6 b6 HB5 Fp_5 Fl_5 Fb_5 Fo_5 Fc_5
        clear Fp_6
        clear Fl_6
        clear Fb_6
        clear Fo_6
        clear Fc_6
        have C7 := Lib.hid (works_any w6)
        go_wp2_with (fail)
        refine (C7.out).mono ?_
        rintro e w7 ⟨rfl, b7⟩
        have HB7 := Lib.hid (HB6.out.trans (b7.mono HB6.out.size))
        clear C7 b7 HB6
        go_wp2
        go_ret
        exact ⟨rfl, HB7.out⟩

/-! ### From the walk to the row -/
set_option maxRecDepth 100000 in
theorem lifted (os : Os) (started : os.Started) (H : Type) (enc : TypeId × Value → H) :
    ReturnsInHanded {} Try.checked os 11 .any (Rows.dealTwiceSpec.pre6 enc Try.prog Try.f11 Rows.dealTwiceRow.domain false) (Rows.dealTwiceSpec.post enc Try.prog Try.f11 false true false false) := by
  refine returnsInHanded_of_change (C := Try.checked) own started (by kernel_rfl) Try.func11
    (ChangeSpec.witness6 (enc := enc) (C := Try.checked) false ⟨#[], #[.slice none 0 0, .slice none 0 0, .slice none 0 0], []⟩ 8 (by kernel_rfl) (by kernel_rfl) (by kernel_rfl) (by kernel_rfl)) ?_
  intro W base args ds gs before hval0 hW hcnd _
  have hval : ∀ (j : Nat) t v, Try.f11.params[j]? = some t → args[j]? = some v → Value.okWide Try.prog W .any base t v := hval0
  have hW' := hW
  obtain ⟨p, q, hA0, hV, rfl, hfz, hnd⟩ := hW
  have hA : DataW.TrodAll enc Try.prog W 0 (fun _ => true) true Try.f11.params.toList args.toList ds p := hA0
  rw [Try.params11] at hA hval
  obtain ⟨v0, vs0, d0, ds0, p0, q0, hargs, rfl, rfl, h0, r0⟩ := trodAll_cons hA
  obtain ⟨v1, vs1, d1, ds1, p1, q1, rfl, rfl, rfl, h1, r1⟩ := trodAll_cons r0
  obtain ⟨v2, vs2, d2, ds2, p2, q2, rfl, rfl, rfl, h2, r2⟩ := trodAll_cons r1
  obtain ⟨rfl, rfl, rfl⟩ := trodAll_nil r2
  obtain rfl : args = #[v0, v1, v2] := by cases args; simp_all
  obtain ⟨rfl, rfl⟩ := trodVars_none hV
  obtain ⟨a0, len0, cap0, rfl⟩ := okWide_slice Try.underlying23 (hval 0 23 v0 rfl rfl)
  have k0 := h0
  have lt0 : ∀ x ∈ p0, x.block < W.heap.size := by obtain ⟨m, hm⟩ := k0; exact DataW.trod_lt m _ _ _ hm
  obtain ⟨l0, len_0, hb0⟩ : ∃ l : List Int, l.length = len0 ∧ Lv iK W W.heap.size (.slice a0 len0 cap0) l := by
    obtain ⟨fuel, hf⟩ := h0
    rcases open_ints Try.underlying23 Try.underlying3 (by kernel_rfl) hf with ⟨hcs, _⟩ | ⟨x, l, c, zs, hcs, _, hl, hm, hz, _, hcell, hwz⟩
    · simp [Value.cells] at hcs
      obtain ⟨rfl, rfl, rfl⟩ := hcs
      exact ints_in (.inl ⟨rfl, rfl, rfl⟩)
    · simp [Value.cells] at hcs
      obtain ⟨rfl, rfl, rfl⟩ := hcs
      exact ints_in (.inr ⟨x, zs, rfl, hl, hm, by simpa using hz, hcell, hwz⟩)
  obtain ⟨a1, len1, cap1, rfl⟩ := okWide_slice Try.underlying23 (hval 1 23 v1 rfl rfl)
  have k1 := h1
  have lt1 : ∀ x ∈ p1, x.block < W.heap.size := by obtain ⟨m, hm⟩ := k1; exact DataW.trod_lt m _ _ _ hm
  obtain ⟨l1, len_1, hb1⟩ : ∃ l : List Int, l.length = len1 ∧ Lv iK W W.heap.size (.slice a1 len1 cap1) l := by
    obtain ⟨fuel, hf⟩ := h1
    rcases open_ints Try.underlying23 Try.underlying3 (by kernel_rfl) hf with ⟨hcs, _⟩ | ⟨x, l, c, zs, hcs, _, hl, hm, hz, _, hcell, hwz⟩
    · simp [Value.cells] at hcs
      obtain ⟨rfl, rfl, rfl⟩ := hcs
      exact ints_in (.inl ⟨rfl, rfl, rfl⟩)
    · simp [Value.cells] at hcs
      obtain ⟨rfl, rfl, rfl⟩ := hcs
      exact ints_in (.inr ⟨x, zs, rfl, hl, hm, by simpa using hz, hcell, hwz⟩)
  obtain ⟨a2, len2, cap2, rfl⟩ := okWide_slice Try.underlying34 (hval 2 34 v2 rfl rfl)
  have k2 := h2
  have lt2 : ∀ x ∈ p2, x.block < W.heap.size := by obtain ⟨m, hm⟩ := k2; exact DataW.trod_lt m _ _ _ hm
  obtain ⟨l2, len_2, hb2⟩ : ∃ l : List Nat, l.length = len2 ∧ Lv wK W W.heap.size (.slice a2 len2 cap2) l := by
    obtain ⟨fuel, hf⟩ := h2
    rcases open_ints Try.underlying34 Try.underlying22 (by kernel_rfl) hf with ⟨hcs, _⟩ | ⟨x, l, c, zs, hcs, _, hl, hm, hz, _, hcell, hwz⟩
    · simp [Value.cells] at hcs
      obtain ⟨rfl, rfl, rfl⟩ := hcs
      exact wrds_in (.inl ⟨rfl, rfl, rfl⟩)
    · simp [Value.cells] at hcs
      obtain ⟨rfl, rfl, rfl⟩ := hcs
      exact wrds_in (.inr ⟨x, zs, rfl, hl, hm, by simpa using hz, hcell, hwz⟩)
  clear hA0 hval0
  refine (walk W (.slice a0 len0 cap0) l0 hb0 (.slice a1 len1 cap1) l1 hb1 (.slice a2 len2 cap2) l2 hb2).mono fun e W' ⟨he, bel⟩ => ?_
  subst he
  exact ⟨_, rfl, _, _, _, [], _, [], hW', trodAll_mk1 (shut_bool Try.underlying4 _), (trodAll_cons_mk (Below.trod laidOut (by kernel_rfl) (of_decide_eq_true (by kernel_rfl)) k0 bel lt0) (trodAll_cons_mk (Below.trod laidOut (by kernel_rfl) (of_decide_eq_true (by kernel_rfl)) k1 bel lt1) (trodAll_cons_mk (Below.trod laidOut (by kernel_rfl) (of_decide_eq_true (by kernel_rfl)) k2 bel lt2) trodAll_mk0))), rfl, bel.frame _, fun h => by cases h⟩

theorem proved : Rows.DealTwiceSaid :=
  OpenClaim.holds_of_wide 11 Try.f11 rfl rfl rfl rfl rfl rfl rfl ⟨rfl, rfl, rfl, rfl, rfl⟩ rfl rfl rfl rfl rfl (by kernel_rfl) Try.func11 (by kernel_rfl)
    (of_decide_eq_true (by kernel_rfl)) (by unfold Func.isWrapper; first | (rw [if_pos (by decide +kernel)]; kernel_rfl) | (rw [if_neg (by decide +kernel)]; exact ⟨rfl, rfl⟩))
    (fun os started H enc _ => lifted os started H enc)

end Go.Proofs.Ytggpldghdaggfaa.dealTwice
