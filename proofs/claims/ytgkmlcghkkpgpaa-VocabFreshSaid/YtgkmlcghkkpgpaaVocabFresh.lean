/-
  VocabFresh: what is handed in stays; what is answered is new memory. No condition.
-/
import Derived.Test.YtgkmlcghkkpgpaaFrameV
import Derived.Test.YtgkmlcghkkpgpaaVoLaw
import Derived.Test.YtgkmlcghkkpgpaaOcts
import Derived.Test.YtgkmlcghkkpgpaaSpoilI
import Derived.Test.YtgkmlcghkkpgpaaSpoilO
import Derived.Deep.RegionHeld3
namespace Go.Proofs.Ytgkmlcghkkpgpaa.vocabFresh
open Go.ChangeShapes Go.WideShapes Go.ChangeAt Go.RowKit
open Go.ChangeMaps (open_string shut_string)
set_option linter.unusedVariables false

set_option maxHeartbeats 2000000 in
set_option maxRecDepth 100000 in
theorem walk (w : World) (v0 : Value) (l0 : List Vo.Pc) (h0 : Lv pK w w.heap.size v0 l0) (a1 : Int) (w1 : (Lit.int .i64 a1).wf = true) :
    Calls Try.prog 9 #[.agg #[v0], .int .i64 a1] w (IsBool true w) := by
  have HI : Hid (I64 a1) := bounds_i64' w1
  clear w1
  by_cases hm : 700 < l0.length
  · skip
    have HM : Hid (decide (700 < l0.length) = true) := by unfold Hid; simpa using hm
    clear hm
    obtain ⟨W, hW⟩ : ∃ X, w.alloc (.cells #[v0] 24) = X := ⟨_, rfl⟩
    obtain ⟨db, hsz, hbb⟩ := boxed hW
    have HB0 := Lib.hid hbb
    have Fv_0 := Lib.hid ((h0.below_ hbb (Nat.le_refl _)).mono_ hbb.size)
    have Fbox_0 : Hid (BoxAt W W.heap.size w.heap.size v0) := ⟨by omega, db⟩
    obtain ⟨A, c, rfl, hc1, hc2, _, _⟩ := h0
    have hl0 : l0.length ≤ 9223372036854775807 := by simp only [maxLen] at hc2; omega
    have dbox_0 := Fbox_0.out.2
    clear hc1 hc2 hbb hsz db
    go_enter Try.func9, Try.ntmps9
    have C1 := Lib.hid (many_any l0 _ _ W Fv_0.out)
    rw [HM.out] at C1
    go_wp2_with (fail)
    refine (C1.out).mono ?_
    rintro e w1 ⟨rfl, b1⟩
    have HB1 := Lib.hid (HB0.out.trans (b1.mono HB0.out.size))
    have Fv_1 := Lib.hid ((Fv_0.out.below_ b1 (Nat.le_refl _)).mono_ b1.size)
    have Fbox_1 := Lib.hid ((Fbox_0.out.below_ b1 (Nat.le_refl _)).mono_ b1.size)
    have dbox_1 := Fbox_1.out.2
    clear C1 b1 HB0 Fv_0 Fbox_0 dbox_0
    clear Fv_1
    have C2 := Lib.hid (works_voc w1)
    go_wp2_with (fail)
    refine (C2.out).mono ?_
    rintro e w2 ⟨rfl, b2⟩
    have HB2 := Lib.hid (HB1.out.trans (b2.mono HB1.out.size))
    have Fbox_2 := Lib.hid ((Fbox_1.out.below_ b2 (Nat.le_refl _)).mono_ b2.size)
    have dbox_2 := Fbox_2.out.2
    clear C2 b2 HB1 Fbox_1 dbox_1
    go_wp2
    go_ret
    exact ⟨rfl, HB2.out⟩
  · skip
    have HM : Hid (decide (700 < l0.length) = false) := by unfold Hid; simpa using hm
    have HP : Hid (l0.length ≤ 700) := by unfold Hid; omega
    have HP2 : Hid (l0.length ≤ 4194304) := by unfold Hid; omega
    obtain ⟨⟨x, E⟩, hx⟩ : ∃ r, Vo.expandE l0 a1 = r := ⟨_, rfl⟩
    obtain ⟨y, hy⟩ : ∃ r, Vo.joinsE l0 = r := ⟨_, rfl⟩
    have HX := Lib.hid hx
    have HY := Lib.hid hy
    clear hm hx hy
    obtain ⟨W, hW⟩ : ∃ X, w.alloc (.cells #[v0] 24) = X := ⟨_, rfl⟩
    obtain ⟨db, hsz, hbb⟩ := boxed hW
    have HB0 := Lib.hid hbb
    have Fv_0 := Lib.hid ((h0.below_ hbb (Nat.le_refl _)).mono_ hbb.size)
    have Fbox_0 : Hid (BoxAt W W.heap.size w.heap.size v0) := ⟨by omega, db⟩
    obtain ⟨A, c, rfl, hc1, hc2, _, _⟩ := h0
    have hl0 : l0.length ≤ 9223372036854775807 := by simp only [maxLen] at hc2; omega
    have dbox_0 := Fbox_0.out.2
    clear hc1 hc2 hbb hsz db
    go_enter Try.func9, Try.ntmps9
    have C1 := Lib.hid (many_any l0 _ _ W Fv_0.out)
    rw [HM.out] at C1
    go_wp2_with (fail)
    refine (C1.out).mono ?_
    rintro e w1 ⟨rfl, b1⟩
    have HB1 := Lib.hid (HB0.out.trans (b1.mono HB0.out.size))
    have Fv_1 := Lib.hid ((Fv_0.out.below_ b1 (Nat.le_refl _)).mono_ b1.size)
    have Fbox_1 := Lib.hid ((Fbox_0.out.below_ b1 (Nat.le_refl _)).mono_ b1.size)
    have dbox_1 := Fbox_1.out.2
    clear C1 b1 HB0 Fv_0 Fbox_0 dbox_0
    have C2 := Lib.hid (copyvoc_any l0 _ _ w1 Fv_1.out (Nat.le_refl _) HP2.out)
    go_wp2_with (fail)
    refine (C2.out).mono ?_
    rintro e w2 ⟨A2, c2, rfl, o2, b2⟩
    have HB2 := Lib.hid (HB1.out.trans (b2.mono HB1.out.size))
    have Fv_2 := Lib.hid ((Fv_1.out.below_ b2 (Nat.le_refl _)).mono_ b2.size)
    have Fbox_2 := Lib.hid ((Fbox_1.out.below_ b2 (Nat.le_refl _)).mono_ b2.size)
    have dbox_2 := Fbox_2.out.2
    have Fown_2 := Lib.hid (o2.form_)
    clear C2 b2 HB1 Fv_1 Fbox_1 dbox_1 o2
    obtain ⟨Y2, hY2⟩ : ∃ X, w2.alloc (.cells #[.slice A2 l0.length c2] 24) = X := ⟨_, rfl⟩
    obtain ⟨db2, hsz2, hbb2⟩ := boxed hY2
    have b3 := hbb2
    have HB3 := Lib.hid (HB2.out.trans (b3.mono HB2.out.size))
    have Fv_3 := Lib.hid ((Fv_2.out.below_ b3 (Nat.le_refl _)).mono_ b3.size)
    have Fbox_3 := Lib.hid ((Fbox_2.out.below_ b3 (Nat.le_refl _)).mono_ b3.size)
    have Fown_3 := Lib.hid ((Fown_2.out.below_ b3 (Nat.le_refl _)).mono_ b3.size)
    have dbox_3 := Fbox_3.out.2
    clear b3 HB2 Fv_2 Fbox_2 Fown_2 dbox_2
    have Fbown_3 : Hid (BoxAt Y2 Y2.heap.size w2.heap.size (.slice A2 l0.length c2)) := ⟨by omega, db2⟩
    have dbown_3 := Fbown_3.out.2
    clear hbb2 hsz2 db2
    have C4 := Lib.hid (pexpand_any l0 _ a1 _ Y2 Fown_3.out (Nat.le_refl _) HI.out HP.out)
    rw [HX.out] at C4
    go_wp2_with (fail)
    refine (C4.out).mono ?_
    rintro e w4 ⟨A4, c4, rfl, o4, b4⟩
    have dbox_4 := (Fbox_3.out.below_ b4 (Nat.le_refl _)).2
    have dbown_4 := (Fbown_3.out.below_ b4 (Nat.le_refl _)).2
    have C5 := Lib.hid (spoilO_any _ _ _ w4 o4)
    have Oz4 := Lib.hid o4
    have Bz4 := Lib.hid b4
    clear C4 o4 b4
    go_wp2_with (fail)
    refine (C5.out).mono ?_
    rintro e w5 ⟨⟨xx5, rfl⟩, g5⟩
    have b5 := Bz4.out.grown g5 Bz4.out.size (fun k hk => (Oz4.out.lt_ k hk).1)
    have HB5 := Lib.hid (HB3.out.trans (b5.mono HB3.out.size))
    have Fv_5 := Lib.hid ((Fv_3.out.below_ b5 (Nat.le_refl _)).mono_ b5.size)
    have Fbox_5 := Lib.hid ((Fbox_3.out.below_ b5 (Nat.le_refl _)).mono_ b5.size)
    have Fown_5 := Lib.hid ((Fown_3.out.below_ b5 (Nat.le_refl _)).mono_ b5.size)
    have Fbown_5 := Lib.hid ((Fbown_3.out.below_ b5 (Nat.le_refl _)).mono_ b5.size)
    have dbox_5 := Fbox_5.out.2
    have dbown_5 := Fbown_5.out.2
    clear C5 b5 g5 Oz4 Bz4 HB3 Fv_3 Fbox_3 Fown_3 Fbown_3 dbox_3 dbown_3 dbox_4 dbown_4
    have C6 := Lib.hid (pjoins_any l0 _ _ w5 Fown_5.out (Nat.le_refl _) HP.out)
    rw [HY.out] at C6
    go_wp2_with (fail)
    refine (C6.out).mono ?_
    rintro e w6 ⟨A6, c6, rfl, o6, b6⟩
    have dbox_6 := (Fbox_5.out.below_ b6 (Nat.le_refl _)).2
    have dbown_6 := (Fbown_5.out.below_ b6 (Nat.le_refl _)).2
    have C7 := Lib.hid (spoilInts_any _ _ _ w6 o6)
    have Oz6 := Lib.hid o6
    have Bz6 := Lib.hid b6
    clear C6 o6 b6
    go_wp2_with (fail)
    refine (C7.out).mono ?_
    rintro e w7 ⟨⟨xx7, rfl⟩, g7⟩
    have b7 := Bz6.out.grown g7 Bz6.out.size (fun k hk => (Oz6.out.lt_ k hk).1)
    have HB7 := Lib.hid (HB5.out.trans (b7.mono HB5.out.size))
    have Fv_7 := Lib.hid ((Fv_5.out.below_ b7 (Nat.le_refl _)).mono_ b7.size)
    have Fbox_7 := Lib.hid ((Fbox_5.out.below_ b7 (Nat.le_refl _)).mono_ b7.size)
    have Fown_7 := Lib.hid ((Fown_5.out.below_ b7 (Nat.le_refl _)).mono_ b7.size)
    have Fbown_7 := Lib.hid ((Fbown_5.out.below_ b7 (Nat.le_refl _)).mono_ b7.size)
    have dbox_7 := Fbox_7.out.2
    have dbown_7 := Fbown_7.out.2
    clear C7 b7 g7 Oz6 Bz6 HB5 Fv_5 Fbox_5 Fown_5 Fbown_5 dbox_5 dbown_5 dbox_6 dbown_6
    have C8 := Lib.hid (pexpand_any l0 _ a1 _ w7 Fown_7.out (Nat.le_refl _) HI.out HP.out)
    rw [HX.out] at C8
    go_wp2_with (fail)
    refine (C8.out).mono ?_
    rintro e w8 ⟨A8, c8, rfl, o8, b8⟩
    have HB8 := Lib.hid (HB7.out.trans (b8.mono HB7.out.size))
    have Fv_8 := Lib.hid ((Fv_7.out.below_ b8 (Nat.le_refl _)).mono_ b8.size)
    have Fbox_8 := Lib.hid ((Fbox_7.out.below_ b8 (Nat.le_refl _)).mono_ b8.size)
    have Fown_8 := Lib.hid ((Fown_7.out.below_ b8 (Nat.le_refl _)).mono_ b8.size)
    have Fbown_8 := Lib.hid ((Fbown_7.out.below_ b8 (Nat.le_refl _)).mono_ b8.size)
    have dbox_8 := Fbox_8.out.2
    have dbown_8 := Fbown_8.out.2
    have Fb_8 := Lib.hid (o8.form_)
    clear C8 b8 HB7 Fv_7 Fbox_7 Fown_7 Fbown_7 dbox_7 dbown_7 o8
    have C9 := Lib.hid (rexpand_any l0 _ a1 _ w8 Fv_8.out (Nat.le_refl _) HI.out)
    rw [HX.out] at C9
    go_wp2_with (fail)
    refine (C9.out).mono ?_
    rintro e w9 ⟨A9, c9, rfl, o9, b9⟩
    have HB9 := Lib.hid (HB8.out.trans (b9.mono HB8.out.size))
    have Fv_9 := Lib.hid ((Fv_8.out.below_ b9 (Nat.le_refl _)).mono_ b9.size)
    have Fbox_9 := Lib.hid ((Fbox_8.out.below_ b9 (Nat.le_refl _)).mono_ b9.size)
    have Fown_9 := Lib.hid ((Fown_8.out.below_ b9 (Nat.le_refl _)).mono_ b9.size)
    have Fbown_9 := Lib.hid ((Fbown_8.out.below_ b9 (Nat.le_refl _)).mono_ b9.size)
    have Fb_9 := Lib.hid ((Fb_8.out.below_ b9 (Nat.le_refl _)).mono_ b9.size)
    have dbox_9 := Fbox_9.out.2
    have dbown_9 := Fbown_9.out.2
    have Fc_9 := Lib.hid (o9.form_)
    clear C9 b9 HB8 Fv_8 Fbox_8 Fown_8 Fbown_8 Fb_8 dbox_8 dbown_8 o9
    have Gv0 := Lib.hid (Fv_9.out.drew_)
    have Gbox0 := Lib.hid (Fbox_9.out.drew_)
    have Gown0 := Lib.hid (Fown_9.out.drew_)
    have Gbown0 := Lib.hid (Fbown_9.out.drew_)
    have Gb0 := Lib.hid (Fb_9.out.drew_)
    have Gc0 := Lib.hid (Fc_9.out.drew_)
    have X0 := Lib.hid (HB9.out.drew)
    have s0 : w9.drew.cell? ⟨w.heap.size, 0, none⟩ = some (.slice A l0.length c) ∧ w9.drew.cell? ⟨w2.heap.size, 0, none⟩ = some (.slice A2 l0.length c2) := ⟨Fbox_9.out.2, Fbown_9.out.2⟩
    have J1 := Lib.hid (voc_any _ _ _ _ _ _ w9.drew Gown0.out Gv0.out (Nat.le_refl _) (Nat.le_refl _))
    simp only [decide_true] at J1
    clear dbox_9 dbown_9
    go_wp2
    go_region_held3 (fun w' => w'.cell? ⟨w.heap.size, 0, none⟩ = some (.slice A l0.length c) ∧ w'.cell? ⟨w2.heap.size, 0, none⟩ = some (.slice A2 l0.length c2)) (first | exact s0 | exact s1 | exact s2 | exact s3 | exact s4 | exact s5 | exact s6)
      (first
        | (go_at_call 16; (with_reducible refine J1.out.mono ?_); rintro e x1 ⟨rfl, b1⟩; have X1 := Lib.hid (X0.out.trans (b1.mono X0.out.size)); have Gv1 := Lib.hid ((Gv0.out.below_ b1 (Nat.le_refl _)).mono_ b1.size); have Gbox1 := Lib.hid ((Gbox0.out.below_ b1 (Nat.le_refl _)).mono_ b1.size); have Gown1 := Lib.hid ((Gown0.out.below_ b1 (Nat.le_refl _)).mono_ b1.size); have Gbown1 := Lib.hid ((Gbown0.out.below_ b1 (Nat.le_refl _)).mono_ b1.size); have Gb1 := Lib.hid ((Gb0.out.below_ b1 (Nat.le_refl _)).mono_ b1.size); have Gc1 := Lib.hid ((Gc0.out.below_ b1 (Nat.le_refl _)).mono_ b1.size); have s1 := (⟨Gbox1.out.2, Gbown1.out.2⟩ : x1.cell? ⟨w.heap.size, 0, none⟩ = some (.slice A l0.length c) ∧ x1.cell? ⟨w2.heap.size, 0, none⟩ = some (.slice A2 l0.length c2)); have J2 := Lib.hid (octs_lv _ _ _ _ _ _ x1 Gb1.out Gc1.out); simp only [decide_true] at J2; clear b1 s0)
        | (go_at_call 23; (with_reducible refine J2.out.mono ?_); rintro e x2 ⟨rfl, b2⟩; have X2 := Lib.hid (X1.out.trans (b2.mono X1.out.size)); have Gv2 := Lib.hid ((Gv1.out.below_ b2 (Nat.le_refl _)).mono_ b2.size); have Gbox2 := Lib.hid ((Gbox1.out.below_ b2 (Nat.le_refl _)).mono_ b2.size); have Gown2 := Lib.hid ((Gown1.out.below_ b2 (Nat.le_refl _)).mono_ b2.size); have Gbown2 := Lib.hid ((Gbown1.out.below_ b2 (Nat.le_refl _)).mono_ b2.size); have Gb2 := Lib.hid ((Gb1.out.below_ b2 (Nat.le_refl _)).mono_ b2.size); have Gc2 := Lib.hid ((Gc1.out.below_ b2 (Nat.le_refl _)).mono_ b2.size); have s2 := (⟨Gbox2.out.2, Gbown2.out.2⟩ : x2.cell? ⟨w.heap.size, 0, none⟩ = some (.slice A l0.length c) ∧ x2.cell? ⟨w2.heap.size, 0, none⟩ = some (.slice A2 l0.length c2)); have J3 := Lib.hid (pjoins_any l0 _ _ x2 Gown2.out (Nat.le_refl _) HP.out); rw [HY.out] at J3; clear b2 s1)
        | (go_at_call 28; (with_reducible refine J3.out.mono ?_); rintro e x3 ⟨A3, c3, rfl, o3, b3⟩; have X3 := Lib.hid (X2.out.trans (b3.mono X2.out.size)); have Gv3 := Lib.hid ((Gv2.out.below_ b3 (Nat.le_refl _)).mono_ b3.size); have Gbox3 := Lib.hid ((Gbox2.out.below_ b3 (Nat.le_refl _)).mono_ b3.size); have Gown3 := Lib.hid ((Gown2.out.below_ b3 (Nat.le_refl _)).mono_ b3.size); have Gbown3 := Lib.hid ((Gbown2.out.below_ b3 (Nat.le_refl _)).mono_ b3.size); have Gb3 := Lib.hid ((Gb2.out.below_ b3 (Nat.le_refl _)).mono_ b3.size); have Gc3 := Lib.hid ((Gc2.out.below_ b3 (Nat.le_refl _)).mono_ b3.size); have s3 := (⟨Gbox3.out.2, Gbown3.out.2⟩ : x3.cell? ⟨w.heap.size, 0, none⟩ = some (.slice A l0.length c) ∧ x3.cell? ⟨w2.heap.size, 0, none⟩ = some (.slice A2 l0.length c2)); have Gm3 := Lib.hid o3.form_; have J4 := Lib.hid (rjoins_any l0 _ _ x3 Gv3.out (Nat.le_refl _)); rw [HY.out] at J4; clear b3 s2 o3)
        | (go_at_call 29; (with_reducible refine J4.out.mono ?_); rintro e x4 ⟨A4, c4, rfl, o4, b4⟩; have X4 := Lib.hid (X3.out.trans (b4.mono X3.out.size)); have Gv4 := Lib.hid ((Gv3.out.below_ b4 (Nat.le_refl _)).mono_ b4.size); have Gbox4 := Lib.hid ((Gbox3.out.below_ b4 (Nat.le_refl _)).mono_ b4.size); have Gown4 := Lib.hid ((Gown3.out.below_ b4 (Nat.le_refl _)).mono_ b4.size); have Gbown4 := Lib.hid ((Gbown3.out.below_ b4 (Nat.le_refl _)).mono_ b4.size); have Gb4 := Lib.hid ((Gb3.out.below_ b4 (Nat.le_refl _)).mono_ b4.size); have Gc4 := Lib.hid ((Gc3.out.below_ b4 (Nat.le_refl _)).mono_ b4.size); have Gm4 := Lib.hid ((Gm3.out.below_ b4 (Nat.le_refl _)).mono_ b4.size); have s4 := (⟨Gbox4.out.2, Gbown4.out.2⟩ : x4.cell? ⟨w.heap.size, 0, none⟩ = some (.slice A l0.length c) ∧ x4.cell? ⟨w2.heap.size, 0, none⟩ = some (.slice A2 l0.length c2)); have Gn4 := Lib.hid o4.form_; have J5 := Lib.hid (ints_lv _ _ _ _ _ _ x4 Gm4.out Gn4.out); simp only [decide_true] at J5; clear b4 s3 o4)
        | (go_at_call 27; (with_reducible refine J5.out.mono ?_); rintro e x5 ⟨rfl, b5⟩; have X5 := Lib.hid (X4.out.trans (b5.mono X4.out.size)); have Gv5 := Lib.hid ((Gv4.out.below_ b5 (Nat.le_refl _)).mono_ b5.size); have Gbox5 := Lib.hid ((Gbox4.out.below_ b5 (Nat.le_refl _)).mono_ b5.size); have Gown5 := Lib.hid ((Gown4.out.below_ b5 (Nat.le_refl _)).mono_ b5.size); have Gbown5 := Lib.hid ((Gbown4.out.below_ b5 (Nat.le_refl _)).mono_ b5.size); have Gb5 := Lib.hid ((Gb4.out.below_ b5 (Nat.le_refl _)).mono_ b5.size); have Gc5 := Lib.hid ((Gc4.out.below_ b5 (Nat.le_refl _)).mono_ b5.size); have Gm5 := Lib.hid ((Gm4.out.below_ b5 (Nat.le_refl _)).mono_ b5.size); have Gn5 := Lib.hid ((Gn4.out.below_ b5 (Nat.le_refl _)).mono_ b5.size); have s5 := (⟨Gbox5.out.2, Gbown5.out.2⟩ : x5.cell? ⟨w.heap.size, 0, none⟩ = some (.slice A l0.length c) ∧ x5.cell? ⟨w2.heap.size, 0, none⟩ = some (.slice A2 l0.length c2)); have J6 := Lib.hid (works_voc x5); clear b5 s4)
        | (go_at_call 13; (with_reducible refine J6.out.mono ?_); rintro e x6 ⟨rfl, b6⟩; have X6 := Lib.hid (X5.out.trans (b6.mono X5.out.size)); have Gv6 := Lib.hid ((Gv5.out.below_ b6 (Nat.le_refl _)).mono_ b6.size); have Gbox6 := Lib.hid ((Gbox5.out.below_ b6 (Nat.le_refl _)).mono_ b6.size); have Gown6 := Lib.hid ((Gown5.out.below_ b6 (Nat.le_refl _)).mono_ b6.size); have Gbown6 := Lib.hid ((Gbown5.out.below_ b6 (Nat.le_refl _)).mono_ b6.size); have Gb6 := Lib.hid ((Gb5.out.below_ b6 (Nat.le_refl _)).mono_ b6.size); have Gc6 := Lib.hid ((Gc5.out.below_ b6 (Nat.le_refl _)).mono_ b6.size); have Gm6 := Lib.hid ((Gm5.out.below_ b6 (Nat.le_refl _)).mono_ b6.size); have Gn6 := Lib.hid ((Gn5.out.below_ b6 (Nat.le_refl _)).mono_ b6.size); have s6 := (⟨Gbox6.out.2, Gbown6.out.2⟩ : x6.cell? ⟨w.heap.size, 0, none⟩ = some (.slice A l0.length c) ∧ x6.cell? ⟨w2.heap.size, 0, none⟩ = some (.slice A2 l0.length c2)); clear b6 s5))
    all_goals
      go_wp2
      go_ret
      exact ⟨rfl, X6.out⟩

/-! ### From the walk to the row -/
set_option maxRecDepth 100000 in
theorem lifted (os : Os) (started : os.Started) (H : Type) (enc : TypeId × Value → H) :
    ReturnsInHanded {} Try.checked os 9 .any (Rows.vocabFreshSpec.pre6 enc Try.prog Try.f9 Rows.vocabFreshRow.domain false) (Rows.vocabFreshSpec.post enc Try.prog Try.f9 false true false false) := by
  refine returnsInHanded_of_change (C := Try.checked) own started (by kernel_rfl) Try.func9
    (ChangeSpec.witness6 (enc := enc) (C := Try.checked) false ⟨#[], #[.agg #[.slice none 0 0], .int .i64 0], []⟩ 8 (by kernel_rfl) (by kernel_rfl) (by kernel_rfl) (by kernel_rfl)) ?_
  intro W base args ds gs before hval0 hW hcnd _
  have hval : ∀ (j : Nat) t v, Try.f9.params[j]? = some t → args[j]? = some v → Value.okWide Try.prog W .any base t v := hval0
  have hW' := hW
  obtain ⟨p, q, hA0, hV, rfl, hfz, hnd⟩ := hW
  have hA : DataW.TrodAll enc Try.prog W 0 (fun _ => true) true Try.f9.params.toList args.toList ds p := hA0
  rw [Try.params9] at hA hval
  obtain ⟨v0, vs0, d0, ds0, p0, q0, hargs, rfl, rfl, h0, r0⟩ := trodAll_cons hA
  obtain ⟨v1, vs1, d1, ds1, p1, q1, rfl, rfl, rfl, h1, r1⟩ := trodAll_cons r0
  obtain ⟨rfl, rfl, rfl⟩ := trodAll_nil r1
  obtain rfl : args = #[v0, v1] := by cases args; simp_all
  obtain ⟨rfl, rfl⟩ := trodVars_none hV
  have k0 := h0
  have lt0 : ∀ x ∈ p0, x.block < W.heap.size := by obtain ⟨m, hm⟩ := k0; exact DataW.trod_lt m _ _ _ hm
  obtain ⟨u0, l0, rfl, hb0⟩ := voc_in (hval 0 24 v0 rfl rfl) h0
  obtain ⟨a1, rfl, rfl, rfl, w1⟩ := open_int Try.underlying3 (hval 1 3 v1 rfl rfl) h1
  clear hA0 hval0
  refine (walk W u0 l0 hb0 a1 w1).mono fun e W' ⟨he, bel⟩ => ?_
  subst he
  exact ⟨_, rfl, _, _, _, [], _, [], hW', trodAll_mk1 (shut_bool Try.underlying4 _), (trodAll_cons_mk (Below.trod laidOut (by kernel_rfl) (of_decide_eq_true (by kernel_rfl)) k0 bel lt0) (trodAll_cons_mk (shut_int Try.underlying3 w1) trodAll_mk0)), rfl, bel.frame _, fun h => by cases h⟩

theorem proved : Rows.VocabFreshSaid :=
  OpenClaim.holds_of_wide 9 Try.f9 rfl rfl rfl rfl rfl rfl rfl ⟨rfl, rfl, rfl, rfl, rfl⟩ rfl rfl rfl rfl rfl (by kernel_rfl) Try.func9 (by kernel_rfl)
    (of_decide_eq_true (by kernel_rfl)) (by unfold Func.isWrapper; first | (rw [if_pos (by decide +kernel)]; kernel_rfl) | (rw [if_neg (by decide +kernel)]; exact ⟨rfl, rfl⟩))
    (fun os started H enc _ => lifted os started H enc)

end Go.Proofs.Ytgkmlcghkkpgpaa.vocabFresh
