/-
  DealBack: each row of steps comes back of its order, and each order of its steps. No condition.
-/
import Derived.Test.YtggpldghdaggfaaFrameI
import Derived.Test.YtggpldghdaggfaaFrameWl
import Derived.Test.YtggpldghdaggfaaDlLaw
import Derived.Test.YtggpldghdaggfaaWrds
import Derived.Test.YtggpldghdaggfaaInts
namespace Go.Proofs.Ytggpldghdaggfaa.dealBack
open Go.ChangeShapes Go.WideShapes Go.ChangeAt Go.RowKit
open Go.ChangeMaps (open_string shut_string)
set_option linter.unusedVariables false

set_option maxHeartbeats 400000 in
set_option maxRecDepth 100000 in
theorem walk (w : World) (a0 : Int) (w0 : (Lit.int .i64 a0).wf = true) (v1 : Value) (l1 : List Int) (h1 : Lv iK w w.heap.size v1 l1) (v2 : Value) (l2 : List Int) (h2 : Lv iK w w.heap.size v2 l2) :
    Calls Try.prog 7 #[.int .i64 a0, v1, v2] w (IsBool true w) := by
  clear w0
  have Fa_0 := Lib.hid (h1)
  have Fb_0 := Lib.hid (h2)
  obtain ⟨A, c, rfl, hc1, hc2, _⟩ := h2
  have hl2 : l2.length ≤ 9223372036854775807 := by simp only [maxLen] at hc2; omega
  clear hc1 hc2 h1
  by_cases e1 : (Dl.of a0 l1).2 = 0
  · skip
    obtain ⟨N, q, rfl, hr, ho, hl, hN, hb, hi⟩ := Dl.of_ok e1
    have HR := Lib.hid hr
    have HQB := Lib.hid hb
    have HQI := Lib.hid hi
    have hq0 : ((q.length : Int) != (N : Int)) = false := by rw [hl]; simp
    clear hr ho hb hi e1 hl hN
    by_cases e2 : Dl.why l2 = 0
    · skip
      obtain ⟨bk, hbk, hof, hi2⟩ := Dl.back_ok e2
      have HB2 := Lib.hid hbk
      have HO2 := Lib.hid hof
      have HI2 := Lib.hid hi2
      clear hbk hof hi2 e2
      have HB0 := Lib.hid (Below.refl w.heap.size w)
      go_enter Try.func7, Try.ntmps7
      have C1 := Lib.hid (pof_any _ l1 (N : Nat) _ w (Nat.le_refl _) Fa_0.out)
      rw [HR.out] at C1
      go_wp2_with (fail)
      refine (C1.out).mono ?_
      rintro e w1 ⟨A1, c1, rfl, o1, b1⟩
      have HB1 := Lib.hid (HB0.out.trans (b1.mono HB0.out.size))
      have Fa_1 := Lib.hid ((Fa_0.out.below_ b1 (Nat.le_refl _)).mono_ b1.size)
      have Fb_1 := Lib.hid ((Fb_0.out.below_ b1 (Nat.le_refl _)).mono_ b1.size)
      have Fq_1 := Lib.hid (o1.form_)
      clear C1 b1 HB0 Fa_0 Fb_0 o1
      have C2 := Lib.hid (pback_any _ q _ w1 (Nat.le_refl _) Fq_1.out)
      rw [HQB.out] at C2
      go_wp2_with (fail)
      refine (C2.out).mono ?_
      rintro e w2 ⟨A2, c2, rfl, o2, b2⟩
      have HB2 := Lib.hid (HB1.out.trans (b2.mono HB1.out.size))
      have Fa_2 := Lib.hid ((Fa_1.out.below_ b2 (Nat.le_refl _)).mono_ b2.size)
      have Fb_2 := Lib.hid ((Fb_1.out.below_ b2 (Nat.le_refl _)).mono_ b2.size)
      have Fq_2 := Lib.hid ((Fq_1.out.below_ b2 (Nat.le_refl _)).mono_ b2.size)
      have Fl_2 := Lib.hid (o2.form_)
      clear C2 b2 HB1 Fa_1 Fb_1 Fq_1 o2
      have C3 := Lib.hid (pis_any _ q _ w2 (Nat.le_refl _) Fq_2.out)
      rw [HQI.out] at C3
      go_wp2_with (fail)
      refine (C3.out).mono ?_
      rintro e w3 ⟨rfl, b3⟩
      have HB3 := Lib.hid (HB2.out.trans (b3.mono HB2.out.size))
      have Fa_3 := Lib.hid ((Fa_2.out.below_ b3 (Nat.le_refl _)).mono_ b3.size)
      have Fb_3 := Lib.hid ((Fb_2.out.below_ b3 (Nat.le_refl _)).mono_ b3.size)
      have Fq_3 := Lib.hid ((Fq_2.out.below_ b3 (Nat.le_refl _)).mono_ b3.size)
      have Fl_3 := Lib.hid ((Fl_2.out.below_ b3 (Nat.le_refl _)).mono_ b3.size)
      clear C3 b3 HB2 Fa_2 Fb_2 Fq_2 Fl_2
      have C4 := Lib.hid (ints_lv _ _ _ _ _ _ w3 Fl_3.out Fa_3.out)
      simp only [decide_true] at C4
      go_wp2_with (fail)
      refine (C4.out).mono ?_
      rintro e w4 ⟨rfl, b4⟩
      have HB4 := Lib.hid (HB3.out.trans (b4.mono HB3.out.size))
      have Fa_4 := Lib.hid ((Fa_3.out.below_ b4 (Nat.le_refl _)).mono_ b4.size)
      have Fb_4 := Lib.hid ((Fb_3.out.below_ b4 (Nat.le_refl _)).mono_ b4.size)
      have Fq_4 := Lib.hid ((Fq_3.out.below_ b4 (Nat.le_refl _)).mono_ b4.size)
      have Fl_4 := Lib.hid ((Fl_3.out.below_ b4 (Nat.le_refl _)).mono_ b4.size)
      clear C4 b4 HB3 Fa_3 Fb_3 Fq_3 Fl_3
      have C5 := Lib.hid (pback_any _ l2 _ w4 (Nat.le_refl _) Fb_4.out)
      rw [HB2.out] at C5
      go_wp2_with (fail)
      refine (C5.out).mono ?_
      rintro e w5 ⟨A5, c5, rfl, o5, b5⟩
      have HB5 := Lib.hid (HB4.out.trans (b5.mono HB4.out.size))
      have Fa_5 := Lib.hid ((Fa_4.out.below_ b5 (Nat.le_refl _)).mono_ b5.size)
      have Fb_5 := Lib.hid ((Fb_4.out.below_ b5 (Nat.le_refl _)).mono_ b5.size)
      have Fq_5 := Lib.hid ((Fq_4.out.below_ b5 (Nat.le_refl _)).mono_ b5.size)
      have Fl_5 := Lib.hid ((Fl_4.out.below_ b5 (Nat.le_refl _)).mono_ b5.size)
      have Fm_5 := Lib.hid (o5.form_)
      clear C5 b5 HB4 Fa_4 Fb_4 Fq_4 Fl_4 o5
      have C6 := Lib.hid (pof_any _ bk l2.length _ w5 (Nat.le_refl _) Fm_5.out)
      rw [HO2.out] at C6
      go_wp2_with (fail)
      refine (C6.out).mono ?_
      rintro e w6 ⟨A6, c6, rfl, o6, b6⟩
      have HB6 := Lib.hid (HB5.out.trans (b6.mono HB5.out.size))
      have Fa_6 := Lib.hid ((Fa_5.out.below_ b6 (Nat.le_refl _)).mono_ b6.size)
      have Fb_6 := Lib.hid ((Fb_5.out.below_ b6 (Nat.le_refl _)).mono_ b6.size)
      have Fq_6 := Lib.hid ((Fq_5.out.below_ b6 (Nat.le_refl _)).mono_ b6.size)
      have Fl_6 := Lib.hid ((Fl_5.out.below_ b6 (Nat.le_refl _)).mono_ b6.size)
      have Fm_6 := Lib.hid ((Fm_5.out.below_ b6 (Nat.le_refl _)).mono_ b6.size)
      have Fo_6 := Lib.hid (o6.form_)
      clear C6 b6 HB5 Fa_5 Fb_5 Fq_5 Fl_5 Fm_5 o6
      have C7 := Lib.hid (pis_any _ l2 _ w6 (Nat.le_refl _) Fb_6.out)
      rw [HI2.out] at C7
      go_wp2_with (fail)
      refine (C7.out).mono ?_
      rintro e w7 ⟨rfl, b7⟩
      have HB7 := Lib.hid (HB6.out.trans (b7.mono HB6.out.size))
      have Fa_7 := Lib.hid ((Fa_6.out.below_ b7 (Nat.le_refl _)).mono_ b7.size)
      have Fb_7 := Lib.hid ((Fb_6.out.below_ b7 (Nat.le_refl _)).mono_ b7.size)
      have Fq_7 := Lib.hid ((Fq_6.out.below_ b7 (Nat.le_refl _)).mono_ b7.size)
      have Fl_7 := Lib.hid ((Fl_6.out.below_ b7 (Nat.le_refl _)).mono_ b7.size)
      have Fm_7 := Lib.hid ((Fm_6.out.below_ b7 (Nat.le_refl _)).mono_ b7.size)
      have Fo_7 := Lib.hid ((Fo_6.out.below_ b7 (Nat.le_refl _)).mono_ b7.size)
      clear C7 b7 HB6 Fa_6 Fb_6 Fq_6 Fl_6 Fm_6 Fo_6
      have C8 := Lib.hid (ints_lv _ _ _ _ _ _ w7 Fo_7.out Fb_7.out)
      simp only [decide_true] at C8
      go_wp2_with (fail)
      refine (C8.out).mono ?_
      rintro e w8 ⟨rfl, b8⟩
      have HB8 := Lib.hid (HB7.out.trans (b8.mono HB7.out.size))
      have Fa_8 := Lib.hid ((Fa_7.out.below_ b8 (Nat.le_refl _)).mono_ b8.size)
      have Fb_8 := Lib.hid ((Fb_7.out.below_ b8 (Nat.le_refl _)).mono_ b8.size)
      have Fq_8 := Lib.hid ((Fq_7.out.below_ b8 (Nat.le_refl _)).mono_ b8.size)
      have Fl_8 := Lib.hid ((Fl_7.out.below_ b8 (Nat.le_refl _)).mono_ b8.size)
      have Fm_8 := Lib.hid ((Fm_7.out.below_ b8 (Nat.le_refl _)).mono_ b8.size)
      have Fo_8 := Lib.hid ((Fo_7.out.below_ b8 (Nat.le_refl _)).mono_ b8.size)
      clear C8 b8 HB7 Fa_7 Fb_7 Fq_7 Fl_7 Fm_7 Fo_7
      clear Fa_8
      clear Fb_8
      clear Fq_8
      clear Fl_8
      clear Fm_8
      clear Fo_8
      have C9 := Lib.hid (works_any w8)
      go_wp2_with (fail)
      refine (C9.out).mono ?_
      rintro e w9 ⟨rfl, b9⟩
      have HB9 := Lib.hid (HB8.out.trans (b9.mono HB8.out.size))
      clear C9 b9 HB8
      go_wp2
      go_ret
      exact ⟨rfl, HB9.out⟩
    · skip
      obtain ⟨hbk, hi2⟩ := Dl.back_bad e2
      obtain ⟨y, hy⟩ : ∃ y, Dl.why l2 = y := ⟨_, rfl⟩
      rw [hy] at hbk e2
      have HB2 := Lib.hid hbk
      have HI2 := Lib.hid hi2
      have hye : ((y : Int) != 0) = true := by rw [bne_iff_ne]; omega
      clear hbk hi2 e2 hy
      have HB0 := Lib.hid (Below.refl w.heap.size w)
      go_enter Try.func7, Try.ntmps7
      have C1 := Lib.hid (pof_any _ l1 (N : Nat) _ w (Nat.le_refl _) Fa_0.out)
      rw [HR.out] at C1
      go_wp2_with (fail)
      refine (C1.out).mono ?_
      rintro e w1 ⟨A1, c1, rfl, o1, b1⟩
      have HB1 := Lib.hid (HB0.out.trans (b1.mono HB0.out.size))
      have Fa_1 := Lib.hid ((Fa_0.out.below_ b1 (Nat.le_refl _)).mono_ b1.size)
      have Fb_1 := Lib.hid ((Fb_0.out.below_ b1 (Nat.le_refl _)).mono_ b1.size)
      have Fq_1 := Lib.hid (o1.form_)
      clear C1 b1 HB0 Fa_0 Fb_0 o1
      have C2 := Lib.hid (pback_any _ q _ w1 (Nat.le_refl _) Fq_1.out)
      rw [HQB.out] at C2
      go_wp2_with (fail)
      refine (C2.out).mono ?_
      rintro e w2 ⟨A2, c2, rfl, o2, b2⟩
      have HB2 := Lib.hid (HB1.out.trans (b2.mono HB1.out.size))
      have Fa_2 := Lib.hid ((Fa_1.out.below_ b2 (Nat.le_refl _)).mono_ b2.size)
      have Fb_2 := Lib.hid ((Fb_1.out.below_ b2 (Nat.le_refl _)).mono_ b2.size)
      have Fq_2 := Lib.hid ((Fq_1.out.below_ b2 (Nat.le_refl _)).mono_ b2.size)
      have Fl_2 := Lib.hid (o2.form_)
      clear C2 b2 HB1 Fa_1 Fb_1 Fq_1 o2
      have C3 := Lib.hid (pis_any _ q _ w2 (Nat.le_refl _) Fq_2.out)
      rw [HQI.out] at C3
      go_wp2_with (fail)
      refine (C3.out).mono ?_
      rintro e w3 ⟨rfl, b3⟩
      have HB3 := Lib.hid (HB2.out.trans (b3.mono HB2.out.size))
      have Fa_3 := Lib.hid ((Fa_2.out.below_ b3 (Nat.le_refl _)).mono_ b3.size)
      have Fb_3 := Lib.hid ((Fb_2.out.below_ b3 (Nat.le_refl _)).mono_ b3.size)
      have Fq_3 := Lib.hid ((Fq_2.out.below_ b3 (Nat.le_refl _)).mono_ b3.size)
      have Fl_3 := Lib.hid ((Fl_2.out.below_ b3 (Nat.le_refl _)).mono_ b3.size)
      clear C3 b3 HB2 Fa_2 Fb_2 Fq_2 Fl_2
      have C4 := Lib.hid (ints_lv _ _ _ _ _ _ w3 Fl_3.out Fa_3.out)
      simp only [decide_true] at C4
      go_wp2_with (fail)
      refine (C4.out).mono ?_
      rintro e w4 ⟨rfl, b4⟩
      have HB4 := Lib.hid (HB3.out.trans (b4.mono HB3.out.size))
      have Fa_4 := Lib.hid ((Fa_3.out.below_ b4 (Nat.le_refl _)).mono_ b4.size)
      have Fb_4 := Lib.hid ((Fb_3.out.below_ b4 (Nat.le_refl _)).mono_ b4.size)
      have Fq_4 := Lib.hid ((Fq_3.out.below_ b4 (Nat.le_refl _)).mono_ b4.size)
      have Fl_4 := Lib.hid ((Fl_3.out.below_ b4 (Nat.le_refl _)).mono_ b4.size)
      clear C4 b4 HB3 Fa_3 Fb_3 Fq_3 Fl_3
      have C5 := Lib.hid (pback_any _ l2 _ w4 (Nat.le_refl _) Fb_4.out)
      rw [HB2.out] at C5
      go_wp2_with (fail)
      refine (C5.out).mono ?_
      rintro e w5 ⟨A5, c5, rfl, o5, b5⟩
      have HB5 := Lib.hid (HB4.out.trans (b5.mono HB4.out.size))
      have Fa_5 := Lib.hid ((Fa_4.out.below_ b5 (Nat.le_refl _)).mono_ b5.size)
      have Fb_5 := Lib.hid ((Fb_4.out.below_ b5 (Nat.le_refl _)).mono_ b5.size)
      have Fq_5 := Lib.hid ((Fq_4.out.below_ b5 (Nat.le_refl _)).mono_ b5.size)
      have Fl_5 := Lib.hid ((Fl_4.out.below_ b5 (Nat.le_refl _)).mono_ b5.size)
      have Fm_5 := Lib.hid (o5.form_)
      clear C5 b5 HB4 Fa_4 Fb_4 Fq_4 Fl_4 o5
      have C6 := Lib.hid (pis_any _ l2 _ w5 (Nat.le_refl _) Fb_5.out)
      rw [HI2.out] at C6
      go_wp2_with (fail)
      refine (C6.out).mono ?_
      rintro e w6 ⟨rfl, b6⟩
      have HB6 := Lib.hid (HB5.out.trans (b6.mono HB5.out.size))
      have Fa_6 := Lib.hid ((Fa_5.out.below_ b6 (Nat.le_refl _)).mono_ b6.size)
      have Fb_6 := Lib.hid ((Fb_5.out.below_ b6 (Nat.le_refl _)).mono_ b6.size)
      have Fq_6 := Lib.hid ((Fq_5.out.below_ b6 (Nat.le_refl _)).mono_ b6.size)
      have Fl_6 := Lib.hid ((Fl_5.out.below_ b6 (Nat.le_refl _)).mono_ b6.size)
      have Fm_6 := Lib.hid ((Fm_5.out.below_ b6 (Nat.le_refl _)).mono_ b6.size)
      clear C6 b6 HB5 Fa_5 Fb_5 Fq_5 Fl_5 Fm_5
      clear Fa_6
      clear Fb_6
      clear Fq_6
      clear Fl_6
      clear Fm_6
      have C7 := Lib.hid (works_any w6)
      go_wp2_with (fail)
      refine (C7.out).mono ?_
      rintro e w7 ⟨rfl, b7⟩
      have HB7 := Lib.hid (HB6.out.trans (b7.mono HB6.out.size))
      clear C7 b7 HB6
      go_wp2
      go_ret
      exact ⟨rfl, HB7.out⟩
  · skip
    obtain ⟨r, hr⟩ : ∃ r, Dl.of a0 l1 = r := ⟨_, rfl⟩
    have HR := Lib.hid hr
    rw [hr] at e1
    have he : ((r.2 : Int) == 0) = false := by rw [beq_eq_false_iff_ne]; omega
    clear hr e1
    by_cases e2 : Dl.why l2 = 0
    · skip
      obtain ⟨bk, hbk, hof, hi2⟩ := Dl.back_ok e2
      have HB2 := Lib.hid hbk
      have HO2 := Lib.hid hof
      have HI2 := Lib.hid hi2
      clear hbk hof hi2 e2
      have HB0 := Lib.hid (Below.refl w.heap.size w)
      go_enter Try.func7, Try.ntmps7
      have C1 := Lib.hid (pof_any _ l1 a0 _ w (Nat.le_refl _) Fa_0.out)
      rw [HR.out] at C1
      go_wp2_with (fail)
      refine (C1.out).mono ?_
      rintro e w1 ⟨A1, c1, rfl, o1, b1⟩
      have HB1 := Lib.hid (HB0.out.trans (b1.mono HB0.out.size))
      have Fa_1 := Lib.hid ((Fa_0.out.below_ b1 (Nat.le_refl _)).mono_ b1.size)
      have Fb_1 := Lib.hid ((Fb_0.out.below_ b1 (Nat.le_refl _)).mono_ b1.size)
      have Fq_1 := Lib.hid (o1.form_)
      clear C1 b1 HB0 Fa_0 Fb_0 o1
      have C2 := Lib.hid (pback_any _ l2 _ w1 (Nat.le_refl _) Fb_1.out)
      rw [HB2.out] at C2
      go_wp2_with (fail)
      refine (C2.out).mono ?_
      rintro e w2 ⟨A2, c2, rfl, o2, b2⟩
      have HB2 := Lib.hid (HB1.out.trans (b2.mono HB1.out.size))
      have Fa_2 := Lib.hid ((Fa_1.out.below_ b2 (Nat.le_refl _)).mono_ b2.size)
      have Fb_2 := Lib.hid ((Fb_1.out.below_ b2 (Nat.le_refl _)).mono_ b2.size)
      have Fq_2 := Lib.hid ((Fq_1.out.below_ b2 (Nat.le_refl _)).mono_ b2.size)
      have Fm_2 := Lib.hid (o2.form_)
      clear C2 b2 HB1 Fa_1 Fb_1 Fq_1 o2
      have C3 := Lib.hid (pof_any _ bk l2.length _ w2 (Nat.le_refl _) Fm_2.out)
      rw [HO2.out] at C3
      go_wp2_with (fail)
      refine (C3.out).mono ?_
      rintro e w3 ⟨A3, c3, rfl, o3, b3⟩
      have HB3 := Lib.hid (HB2.out.trans (b3.mono HB2.out.size))
      have Fa_3 := Lib.hid ((Fa_2.out.below_ b3 (Nat.le_refl _)).mono_ b3.size)
      have Fb_3 := Lib.hid ((Fb_2.out.below_ b3 (Nat.le_refl _)).mono_ b3.size)
      have Fq_3 := Lib.hid ((Fq_2.out.below_ b3 (Nat.le_refl _)).mono_ b3.size)
      have Fm_3 := Lib.hid ((Fm_2.out.below_ b3 (Nat.le_refl _)).mono_ b3.size)
      have Fo_3 := Lib.hid (o3.form_)
      clear C3 b3 HB2 Fa_2 Fb_2 Fq_2 Fm_2 o3
      have C4 := Lib.hid (pis_any _ l2 _ w3 (Nat.le_refl _) Fb_3.out)
      rw [HI2.out] at C4
      go_wp2_with (fail)
      refine (C4.out).mono ?_
      rintro e w4 ⟨rfl, b4⟩
      have HB4 := Lib.hid (HB3.out.trans (b4.mono HB3.out.size))
      have Fa_4 := Lib.hid ((Fa_3.out.below_ b4 (Nat.le_refl _)).mono_ b4.size)
      have Fb_4 := Lib.hid ((Fb_3.out.below_ b4 (Nat.le_refl _)).mono_ b4.size)
      have Fq_4 := Lib.hid ((Fq_3.out.below_ b4 (Nat.le_refl _)).mono_ b4.size)
      have Fm_4 := Lib.hid ((Fm_3.out.below_ b4 (Nat.le_refl _)).mono_ b4.size)
      have Fo_4 := Lib.hid ((Fo_3.out.below_ b4 (Nat.le_refl _)).mono_ b4.size)
      clear C4 b4 HB3 Fa_3 Fb_3 Fq_3 Fm_3 Fo_3
      have C5 := Lib.hid (ints_lv _ _ _ _ _ _ w4 Fo_4.out Fb_4.out)
      simp only [decide_true] at C5
      go_wp2_with (fail)
      refine (C5.out).mono ?_
      rintro e w5 ⟨rfl, b5⟩
      have HB5 := Lib.hid (HB4.out.trans (b5.mono HB4.out.size))
      have Fa_5 := Lib.hid ((Fa_4.out.below_ b5 (Nat.le_refl _)).mono_ b5.size)
      have Fb_5 := Lib.hid ((Fb_4.out.below_ b5 (Nat.le_refl _)).mono_ b5.size)
      have Fq_5 := Lib.hid ((Fq_4.out.below_ b5 (Nat.le_refl _)).mono_ b5.size)
      have Fm_5 := Lib.hid ((Fm_4.out.below_ b5 (Nat.le_refl _)).mono_ b5.size)
      have Fo_5 := Lib.hid ((Fo_4.out.below_ b5 (Nat.le_refl _)).mono_ b5.size)
      clear C5 b5 HB4 Fa_4 Fb_4 Fq_4 Fm_4 Fo_4
      clear Fa_5
      clear Fb_5
      clear Fq_5
      clear Fm_5
      clear Fo_5
      have C6 := Lib.hid (works_any w5)
      go_wp2_with (fail)
      refine (C6.out).mono ?_
      rintro e w6 ⟨rfl, b6⟩
      have HB6 := Lib.hid (HB5.out.trans (b6.mono HB5.out.size))
      clear C6 b6 HB5
      go_wp2
      go_ret
      exact ⟨rfl, HB6.out⟩
    · skip
      obtain ⟨hbk, hi2⟩ := Dl.back_bad e2
      obtain ⟨y, hy⟩ : ∃ y, Dl.why l2 = y := ⟨_, rfl⟩
      rw [hy] at hbk e2
      have HB2 := Lib.hid hbk
      have HI2 := Lib.hid hi2
      have hye : ((y : Int) != 0) = true := by rw [bne_iff_ne]; omega
      clear hbk hi2 e2 hy
      have HB0 := Lib.hid (Below.refl w.heap.size w)
      go_enter Try.func7, Try.ntmps7
      have C1 := Lib.hid (pof_any _ l1 a0 _ w (Nat.le_refl _) Fa_0.out)
      rw [HR.out] at C1
      go_wp2_with (fail)
      refine (C1.out).mono ?_
      rintro e w1 ⟨A1, c1, rfl, o1, b1⟩
      have HB1 := Lib.hid (HB0.out.trans (b1.mono HB0.out.size))
      have Fa_1 := Lib.hid ((Fa_0.out.below_ b1 (Nat.le_refl _)).mono_ b1.size)
      have Fb_1 := Lib.hid ((Fb_0.out.below_ b1 (Nat.le_refl _)).mono_ b1.size)
      have Fq_1 := Lib.hid (o1.form_)
      clear C1 b1 HB0 Fa_0 Fb_0 o1
      have C2 := Lib.hid (pback_any _ l2 _ w1 (Nat.le_refl _) Fb_1.out)
      rw [HB2.out] at C2
      go_wp2_with (fail)
      refine (C2.out).mono ?_
      rintro e w2 ⟨A2, c2, rfl, o2, b2⟩
      have HB2 := Lib.hid (HB1.out.trans (b2.mono HB1.out.size))
      have Fa_2 := Lib.hid ((Fa_1.out.below_ b2 (Nat.le_refl _)).mono_ b2.size)
      have Fb_2 := Lib.hid ((Fb_1.out.below_ b2 (Nat.le_refl _)).mono_ b2.size)
      have Fq_2 := Lib.hid ((Fq_1.out.below_ b2 (Nat.le_refl _)).mono_ b2.size)
      have Fm_2 := Lib.hid (o2.form_)
      clear C2 b2 HB1 Fa_1 Fb_1 Fq_1 o2
      have C3 := Lib.hid (pis_any _ l2 _ w2 (Nat.le_refl _) Fb_2.out)
      rw [HI2.out] at C3
      go_wp2_with (fail)
      refine (C3.out).mono ?_
      rintro e w3 ⟨rfl, b3⟩
      have HB3 := Lib.hid (HB2.out.trans (b3.mono HB2.out.size))
      have Fa_3 := Lib.hid ((Fa_2.out.below_ b3 (Nat.le_refl _)).mono_ b3.size)
      have Fb_3 := Lib.hid ((Fb_2.out.below_ b3 (Nat.le_refl _)).mono_ b3.size)
      have Fq_3 := Lib.hid ((Fq_2.out.below_ b3 (Nat.le_refl _)).mono_ b3.size)
      have Fm_3 := Lib.hid ((Fm_2.out.below_ b3 (Nat.le_refl _)).mono_ b3.size)
      clear C3 b3 HB2 Fa_2 Fb_2 Fq_2 Fm_2
      clear Fa_3
      clear Fb_3
      clear Fq_3
      clear Fm_3
      have C4 := Lib.hid (works_any w3)
      go_wp2_with (fail)
      refine (C4.out).mono ?_
      rintro e w4 ⟨rfl, b4⟩
      have HB4 := Lib.hid (HB3.out.trans (b4.mono HB3.out.size))
      clear C4 b4 HB3
      go_wp2
      go_ret
      exact ⟨rfl, HB4.out⟩

/-! ### From the walk to the row -/
set_option maxRecDepth 100000 in
theorem lifted (os : Os) (started : os.Started) (H : Type) (enc : TypeId × Value → H) :
    ReturnsInHanded {} Try.checked os 7 .any (Rows.dealBackSpec.pre6 enc Try.prog Try.f7 Rows.dealBackRow.domain false) (Rows.dealBackSpec.post enc Try.prog Try.f7 false true false false) := by
  refine returnsInHanded_of_change (C := Try.checked) own started (by kernel_rfl) Try.func7
    (ChangeSpec.witness6 (enc := enc) (C := Try.checked) false ⟨#[], #[.int .i64 0, .slice none 0 0, .slice none 0 0], []⟩ 8 (by kernel_rfl) (by kernel_rfl) (by kernel_rfl) (by kernel_rfl)) ?_
  intro W base args ds gs before hval0 hW hcnd _
  have hval : ∀ (j : Nat) t v, Try.f7.params[j]? = some t → args[j]? = some v → Value.okWide Try.prog W .any base t v := hval0
  have hW' := hW
  obtain ⟨p, q, hA0, hV, rfl, hfz, hnd⟩ := hW
  have hA : DataW.TrodAll enc Try.prog W 0 (fun _ => true) true Try.f7.params.toList args.toList ds p := hA0
  rw [Try.params7] at hA hval
  obtain ⟨v0, vs0, d0, ds0, p0, q0, hargs, rfl, rfl, h0, r0⟩ := trodAll_cons hA
  obtain ⟨v1, vs1, d1, ds1, p1, q1, rfl, rfl, rfl, h1, r1⟩ := trodAll_cons r0
  obtain ⟨v2, vs2, d2, ds2, p2, q2, rfl, rfl, rfl, h2, r2⟩ := trodAll_cons r1
  obtain ⟨rfl, rfl, rfl⟩ := trodAll_nil r2
  obtain rfl : args = #[v0, v1, v2] := by cases args; simp_all
  obtain ⟨rfl, rfl⟩ := trodVars_none hV
  obtain ⟨a0, rfl, rfl, rfl, w0⟩ := open_int Try.underlying3 (hval 0 3 v0 rfl rfl) h0
  obtain ⟨a1, len1, cap1, rfl⟩ := okWide_slice Try.underlying23 (hval 1 23 v1 rfl rfl)
  have k1 := h1
  have lt1 : ∀ x ∈ p1, x.block < W.heap.size := by obtain ⟨m, hm⟩ := k1; exact DataW.trod_lt m _ _ _ hm
  obtain ⟨l1, len_1, hb1⟩ : ∃ l : List Int, l.length = len1 ∧ Lv iK W W.heap.size (.slice a1 len1 cap1) l := by
    obtain ⟨fuel, hf⟩ := h1
    rcases open_ints Try.underlying23 Try.underlying3 (by kernel_rfl) hf with ⟨hcs, _⟩ | ⟨x, l, c, zs, hcs, _, hl, hm, hz, _, hcell, hwz⟩
    · simp [Value.cells] at hcs
      obtain ⟨rfl, rfl, rfl⟩ := hcs
      exact ints_in (.inl ⟨rfl, rfl, rfl⟩)
    · simp [Value.cells] at hcs
      obtain ⟨rfl, rfl, rfl⟩ := hcs
      exact ints_in (.inr ⟨x, zs, rfl, hl, hm, by simpa using hz, hcell, hwz⟩)
  obtain ⟨a2, len2, cap2, rfl⟩ := okWide_slice Try.underlying23 (hval 2 23 v2 rfl rfl)
  have k2 := h2
  have lt2 : ∀ x ∈ p2, x.block < W.heap.size := by obtain ⟨m, hm⟩ := k2; exact DataW.trod_lt m _ _ _ hm
  obtain ⟨l2, len_2, hb2⟩ : ∃ l : List Int, l.length = len2 ∧ Lv iK W W.heap.size (.slice a2 len2 cap2) l := by
    obtain ⟨fuel, hf⟩ := h2
    rcases open_ints Try.underlying23 Try.underlying3 (by kernel_rfl) hf with ⟨hcs, _⟩ | ⟨x, l, c, zs, hcs, _, hl, hm, hz, _, hcell, hwz⟩
    · simp [Value.cells] at hcs
      obtain ⟨rfl, rfl, rfl⟩ := hcs
      exact ints_in (.inl ⟨rfl, rfl, rfl⟩)
    · simp [Value.cells] at hcs
      obtain ⟨rfl, rfl, rfl⟩ := hcs
      exact ints_in (.inr ⟨x, zs, rfl, hl, hm, by simpa using hz, hcell, hwz⟩)
  clear hA0 hval0
  refine (walk W a0 w0 (.slice a1 len1 cap1) l1 hb1 (.slice a2 len2 cap2) l2 hb2).mono fun e W' ⟨he, bel⟩ => ?_
  subst he
  exact ⟨_, rfl, _, _, _, [], _, [], hW', trodAll_mk1 (shut_bool Try.underlying4 _), (trodAll_cons_mk (shut_int Try.underlying3 w0) (trodAll_cons_mk (Below.trod laidOut (by kernel_rfl) (of_decide_eq_true (by kernel_rfl)) k1 bel lt1) (trodAll_cons_mk (Below.trod laidOut (by kernel_rfl) (of_decide_eq_true (by kernel_rfl)) k2 bel lt2) trodAll_mk0))), rfl, bel.frame _, fun h => by cases h⟩

theorem proved : Rows.DealBackSaid :=
  OpenClaim.holds_of_wide 7 Try.f7 rfl rfl rfl rfl rfl rfl rfl ⟨rfl, rfl, rfl, rfl, rfl⟩ rfl rfl rfl rfl rfl (by kernel_rfl) Try.func7 (by kernel_rfl)
    (of_decide_eq_true (by kernel_rfl)) (by unfold Func.isWrapper; first | (rw [if_pos (by decide +kernel)]; kernel_rfl) | (rw [if_neg (by decide +kernel)]; exact ⟨rfl, rfl⟩))
    (fun os started H enc _ => lifted os started H enc)

end Go.Proofs.Ytggpldghdaggfaa.dealBack
