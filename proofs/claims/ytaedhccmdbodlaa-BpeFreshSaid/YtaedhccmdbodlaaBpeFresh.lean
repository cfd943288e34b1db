/-
  BpeFresh: what is handed in stays, the room behind it, too; what is answered is new memory. No condition.
-/
import Derived.Test.YtaedhccmdbodlaaPk29
import Derived.Test.YtaedhccmdbodlaaPk32
import Derived.Test.YtaedhccmdbodlaaPk30
import Derived.Test.YtaedhccmdbodlaaPk31
import Derived.Test.YtaedhccmdbodlaaPk33
import Derived.Test.YtaedhccmdbodlaaPk34
import Derived.Test.YtaedhccmdbodlaaPk35
import Derived.BigQuiet
namespace Go.Proofs.Ytaedhccmdbodlaa.bpeFresh
open Go.ChangeShapes Go.WideShapes Go.ChangeAt Go.RowKit
open Go.ChangeMaps (open_string shut_string)
set_option linter.unusedVariables false

set_option maxHeartbeats 8000000 in
set_option maxRecDepth 100000 in
theorem walk (w : World) (v0 : Value) (l0 : List Vo.Pc) (h0 : Lv pK w w.heap.size v0 l0) (v1 : Value) (l1 : List Nat) (g1 : Bv w w.heap.size v1 l1) (v2 : Value) (l2 : List Int) (h2 : Lv iK w w.heap.size v2 l2) (r1 : l1.length * 1 ≤ 140737488351232) (r2 : l2.length * 8 ≤ 140737488351232) :
    Calls Try.prog 10 #[.agg #[v0], v1, v2] w (IsBool true w) := by
  have h1 := g1.lv_
  have HR1 : Hid (l1.length ≤ 140737488351232) := by unfold Hid; omega
  have HR2 : Hid (l2.length ≤ 17592186044416) := by unfold Hid; omega
  clear g1 r1 r2
  obtain ⟨A1, c1', rfl, hd1, hd2, _, _⟩ := id h1
  have hl1 : l1.length ≤ 9223372036854775807 := by simp only [maxLen] at hd2; omega
  have H1 := Lib.hid h1
  have HI1 : I64 ((l1.length : Nat) : Int) := by unfold I64; omega
  clear hd1 hd2 h1
  obtain ⟨A2, c2', rfl, hd1, hd2, _, _⟩ := id h2
  have hl2 : l2.length ≤ 9223372036854775807 := by simp only [maxLen] at hd2; omega
  have H2 := Lib.hid h2
  have HI2 : I64 ((l2.length : Nat) : Int) := by unfold I64; omega
  clear hd1 hd2 h2
  by_cases hm1 : 500 < l0.length ∨ (300 < ((l1.length : Nat) : Int) ∧ ((l1.length : Nat) : Int) ≤ 4096)
  · skip
    have HM1 : Hid (decide (500 < l0.length ∨ (300 < ((l1.length : Nat) : Int) ∧ ((l1.length : Nat) : Int) ≤ 4096)) = true) := decide_eq_true hm1
    clear hm1
    obtain ⟨W, hW⟩ : ∃ X, w.alloc (.cells #[v0] 24) = X := ⟨_, rfl⟩
    obtain ⟨db, hsz, hbb⟩ := boxed hW
    have HB0 := Lib.hid hbb
    have Fv_0 := Lib.hid ((h0.below_ hbb (Nat.le_refl _)).mono_ hbb.size)
    have Fbox_0 : Hid (BoxAt W W.heap.size w.heap.size v0) := ⟨by omega, db⟩
    obtain ⟨A, c, rfl, hc1, hc2, _, _⟩ := h0
    have hl0 : l0.length ≤ 9223372036854775807 := by simp only [maxLen] at hc2; omega
    have dbox_0 := Fbox_0.out.2
    clear hc1 hc2 hbb hsz db
    go_enter Try.func10, Try.ntmps10
    have C1 := Lib.hid (rlong_any l0 _ ((l1.length : Nat) : Int) HI1 _ W Fv_0.out)
    rw [HM1.out] at C1
    go_wp2_with (fail)
    refine (C1.out).mono ?_
    rintro e w1 ⟨rfl, b1⟩
    have HB1 := Lib.hid (HB0.out.trans (b1.mono HB0.out.size))
    have Fv_1 := Lib.hid ((Fv_0.out.below_ b1 (Nat.le_refl _)).mono_ b1.size)
    have Fbox_1 := Lib.hid ((Fbox_0.out.below_ b1 (Nat.le_refl _)).mono_ b1.size)
    have dbox_1 := Fbox_1.out.2
    clear C1 b1 HB0 Fv_0 Fbox_0 dbox_0
    clear Fv_1
    have C2 := Lib.hid (works_bp w1)
    go_wp2_with (fail)
    refine (C2.out).mono ?_
    rintro e w2 ⟨rfl, b2⟩
    have HB2 := Lib.hid (HB1.out.trans (b2.mono HB1.out.size))
    have Fbox_2 := Lib.hid ((Fbox_1.out.below_ b2 (Nat.le_refl _)).mono_ b2.size)
    have dbox_2 := Fbox_2.out.2
    clear C2 b2 HB1 Fbox_1 dbox_1
    go_wp2
    go_ret
    exact ⟨rfl, HB2.out⟩
  · skip
    have HM1 : Hid (decide (500 < l0.length ∨ (300 < ((l1.length : Nat) : Int) ∧ ((l1.length : Nat) : Int) ≤ 4096)) = false) := decide_eq_false hm1
    by_cases hm2 : 500 < l0.length ∨ (300 < ((l2.length : Nat) : Int) ∧ ((l2.length : Nat) : Int) ≤ 4096)
    · skip
      have HM2 : Hid (decide (500 < l0.length ∨ (300 < ((l2.length : Nat) : Int) ∧ ((l2.length : Nat) : Int) ≤ 4096)) = true) := decide_eq_true hm2
      clear hm1 hm2
      obtain ⟨W, hW⟩ : ∃ X, w.alloc (.cells #[v0] 24) = X := ⟨_, rfl⟩
      obtain ⟨db, hsz, hbb⟩ := boxed hW
      have HB0 := Lib.hid hbb
      have Fv_0 := Lib.hid ((h0.below_ hbb (Nat.le_refl _)).mono_ hbb.size)
      have Fbox_0 : Hid (BoxAt W W.heap.size w.heap.size v0) := ⟨by omega, db⟩
      obtain ⟨A, c, rfl, hc1, hc2, _, _⟩ := h0
      have hl0 : l0.length ≤ 9223372036854775807 := by simp only [maxLen] at hc2; omega
      have dbox_0 := Fbox_0.out.2
      clear hc1 hc2 hbb hsz db
      go_enter Try.func10, Try.ntmps10
      have C1 := Lib.hid (rlong_any l0 _ ((l1.length : Nat) : Int) HI1 _ W Fv_0.out)
      rw [HM1.out] at C1
      go_wp2_with (fail)
      refine (C1.out).mono ?_
      rintro e w1 ⟨rfl, b1⟩
      have HB1 := Lib.hid (HB0.out.trans (b1.mono HB0.out.size))
      have Fv_1 := Lib.hid ((Fv_0.out.below_ b1 (Nat.le_refl _)).mono_ b1.size)
      have Fbox_1 := Lib.hid ((Fbox_0.out.below_ b1 (Nat.le_refl _)).mono_ b1.size)
      have dbox_1 := Fbox_1.out.2
      clear C1 b1 HB0 Fv_0 Fbox_0 dbox_0
      have C2 := Lib.hid (rlong_any l0 _ ((l2.length : Nat) : Int) HI2 _ w1 Fv_1.out)
      rw [HM2.out] at C2
      go_wp2_with (fail)
      refine (C2.out).mono ?_
      rintro e w2 ⟨rfl, b2⟩
      have HB2 := Lib.hid (HB1.out.trans (b2.mono HB1.out.size))
      have Fv_2 := Lib.hid ((Fv_1.out.below_ b2 (Nat.le_refl _)).mono_ b2.size)
      have Fbox_2 := Lib.hid ((Fbox_1.out.below_ b2 (Nat.le_refl _)).mono_ b2.size)
      have dbox_2 := Fbox_2.out.2
      clear C2 b2 HB1 Fv_1 Fbox_1 dbox_1
      clear Fv_2
      have C3 := Lib.hid (works_bp w2)
      go_wp2_with (fail)
      refine (C3.out).mono ?_
      rintro e w3 ⟨rfl, b3⟩
      have HB3 := Lib.hid (HB2.out.trans (b3.mono HB2.out.size))
      have Fbox_3 := Lib.hid ((Fbox_2.out.below_ b3 (Nat.le_refl _)).mono_ b3.size)
      have dbox_3 := Fbox_3.out.2
      clear C3 b3 HB2 Fbox_2 dbox_2
      go_wp2
      go_ret
      exact ⟨rfl, HB3.out⟩
    · skip
      have HM2 : Hid (decide (500 < l0.length ∨ (300 < ((l2.length : Nat) : Int) ∧ ((l2.length : Nat) : Int) ≤ 4096)) = false) := decide_eq_false hm2
      have HP : Hid (l0.length ≤ 501) := by unfold Hid; omega
      have HP2 : Hid (l0.length ≤ 4194304) := by unfold Hid; omega
      have HF1 : Hid (Bp.Few l1.length) := by unfold Hid Bp.Few; omega
      have HF2 : Hid (Bp.Few l2.length) := by unfold Hid Bp.Few; omega
      obtain ⟨⟨x, E1⟩, hx⟩ : ∃ r, Bp.encE l0 l1 = r := ⟨_, rfl⟩
      obtain ⟨⟨y, E2⟩, hy⟩ : ∃ r, Bp.beginE l0 l1 = r := ⟨_, rfl⟩
      obtain ⟨⟨z, D3, E3⟩, hz⟩ : ∃ r, Bp.stepE l0 l2 = r := ⟨_, rfl⟩
      obtain ⟨⟨u, E4⟩, hu⟩ : ∃ r, Bp.decE l0 l2 = r := ⟨_, rfl⟩
      have HX := Lib.hid hx
      have HY := Lib.hid hy
      have HZ := Lib.hid hz
      have HU := Lib.hid hu
      clear hx hy hz hu hm1 hm2
      obtain ⟨W, hW⟩ : ∃ X, w.alloc (.cells #[v0] 24) = X := ⟨_, rfl⟩
      obtain ⟨db, hsz, hbb⟩ := boxed hW
      have HB0 := Lib.hid hbb
      have Fv_0 := Lib.hid ((h0.below_ hbb (Nat.le_refl _)).mono_ hbb.size)
      have Fbox_0 : Hid (BoxAt W W.heap.size w.heap.size v0) := ⟨by omega, db⟩
      obtain ⟨A, c, rfl, hc1, hc2, _, _⟩ := h0
      have hl0 : l0.length ≤ 9223372036854775807 := by simp only [maxLen] at hc2; omega
      have dbox_0 := Fbox_0.out.2
      clear hc1 hc2 hbb hsz db
      go_enter Try.func10, Try.ntmps10
      have Fb_0 := Lib.hid ((H1.out.below_ HB0.out (Nat.le_refl _)).mono_ HB0.out.size)
      have Fd_0 := Lib.hid ((H2.out.below_ HB0.out (Nat.le_refl _)).mono_ HB0.out.size)
      have C1 := Lib.hid (rlong_any l0 _ ((l1.length : Nat) : Int) HI1 _ W Fv_0.out)
      rw [HM1.out] at C1
      go_wp2_with (fail)
      refine (C1.out).mono ?_
      rintro e w1 ⟨rfl, b1⟩
      have HB1 := Lib.hid (HB0.out.trans (b1.mono HB0.out.size))
      have Fv_1 := Lib.hid ((Fv_0.out.below_ b1 (Nat.le_refl _)).mono_ b1.size)
      have Fbox_1 := Lib.hid ((Fbox_0.out.below_ b1 (Nat.le_refl _)).mono_ b1.size)
      have Fb_1 := Lib.hid ((Fb_0.out.below_ b1 (Nat.le_refl _)).mono_ b1.size)
      have Fd_1 := Lib.hid ((Fd_0.out.below_ b1 (Nat.le_refl _)).mono_ b1.size)
      have dbox_1 := Fbox_1.out.2
      clear C1 b1 HB0 Fv_0 Fbox_0 Fb_0 Fd_0 dbox_0
      have C2 := Lib.hid (rlong_any l0 _ ((l2.length : Nat) : Int) HI2 _ w1 Fv_1.out)
      rw [HM2.out] at C2
      go_wp2_with (fail)
      refine (C2.out).mono ?_
      rintro e w2 ⟨rfl, b2⟩
      have HB2 := Lib.hid (HB1.out.trans (b2.mono HB1.out.size))
      have Fv_2 := Lib.hid ((Fv_1.out.below_ b2 (Nat.le_refl _)).mono_ b2.size)
      have Fbox_2 := Lib.hid ((Fbox_1.out.below_ b2 (Nat.le_refl _)).mono_ b2.size)
      have Fb_2 := Lib.hid ((Fb_1.out.below_ b2 (Nat.le_refl _)).mono_ b2.size)
      have Fd_2 := Lib.hid ((Fd_1.out.below_ b2 (Nat.le_refl _)).mono_ b2.size)
      have dbox_2 := Fbox_2.out.2
      clear C2 b2 HB1 Fv_1 Fbox_1 Fb_1 Fd_1 dbox_1
      have C3 := Lib.hid (copyvoc_any l0 _ _ w2 Fv_2.out (Nat.le_refl _) HP2.out)
      go_wp2_with (fail)
      refine (C3.out).mono ?_
      rintro e w3 ⟨A3, c3, rfl, o3, b3⟩
      have HB3 := Lib.hid (HB2.out.trans (b3.mono HB2.out.size))
      have Fv_3 := Lib.hid ((Fv_2.out.below_ b3 (Nat.le_refl _)).mono_ b3.size)
      have Fbox_3 := Lib.hid ((Fbox_2.out.below_ b3 (Nat.le_refl _)).mono_ b3.size)
      have Fb_3 := Lib.hid ((Fb_2.out.below_ b3 (Nat.le_refl _)).mono_ b3.size)
      have Fd_3 := Lib.hid ((Fd_2.out.below_ b3 (Nat.le_refl _)).mono_ b3.size)
      have dbox_3 := Fbox_3.out.2
      have Fown_3 := Lib.hid (o3.form_)
      clear C3 b3 HB2 Fv_2 Fbox_2 Fb_2 Fd_2 dbox_2 o3
      obtain ⟨Y3, hY3⟩ : ∃ X, w3.alloc (.cells #[.slice A3 l0.length c3] 24) = X := ⟨_, rfl⟩
      obtain ⟨db3, hsz3, hbb3⟩ := boxed hY3
      have b4 := hbb3
      have HB4 := Lib.hid (HB3.out.trans (b4.mono HB3.out.size))
      have Fv_4 := Lib.hid ((Fv_3.out.below_ b4 (Nat.le_refl _)).mono_ b4.size)
      have Fbox_4 := Lib.hid ((Fbox_3.out.below_ b4 (Nat.le_refl _)).mono_ b4.size)
      have Fb_4 := Lib.hid ((Fb_3.out.below_ b4 (Nat.le_refl _)).mono_ b4.size)
      have Fd_4 := Lib.hid ((Fd_3.out.below_ b4 (Nat.le_refl _)).mono_ b4.size)
      have Fown_4 := Lib.hid ((Fown_3.out.below_ b4 (Nat.le_refl _)).mono_ b4.size)
      have dbox_4 := Fbox_4.out.2
      clear b4 HB3 Fv_3 Fbox_3 Fb_3 Fd_3 Fown_3 dbox_3
      have Fbown_4 : Hid (BoxAt Y3 Y3.heap.size w3.heap.size (.slice A3 l0.length c3)) := ⟨by omega, db3⟩
      have dbown_4 := Fbown_4.out.2
      clear hbb3 hsz3 db3
      have C5 := Lib.hid (wide_far _ l1 _ Y3 (Nat.le_refl _) Fb_4.out.bv_ HR1.out)
      go_wp2_with (fail)
      refine (C5.out).mono ?_
      rintro e w5 ⟨g5, rfl, o5, b5⟩
      have HB5 := Lib.hid (HB4.out.trans (b5.mono HB4.out.size))
      have Fv_5 := Lib.hid ((Fv_4.out.below_ b5 (Nat.le_refl _)).mono_ b5.size)
      have Fbox_5 := Lib.hid ((Fbox_4.out.below_ b5 (Nat.le_refl _)).mono_ b5.size)
      have Fb_5 := Lib.hid ((Fb_4.out.below_ b5 (Nat.le_refl _)).mono_ b5.size)
      have Fd_5 := Lib.hid ((Fd_4.out.below_ b5 (Nat.le_refl _)).mono_ b5.size)
      have Fown_5 := Lib.hid ((Fown_4.out.below_ b5 (Nat.le_refl _)).mono_ b5.size)
      have Fbown_5 := Lib.hid ((Fbown_4.out.below_ b5 (Nat.le_refl _)).mono_ b5.size)
      have dbox_5 := Fbox_5.out.2
      have dbown_5 := Fbown_5.out.2
      clear C5 b5 HB4 Fv_4 Fbox_4 Fb_4 Fd_4 Fown_4 Fbown_4 dbox_4 dbown_4
      have ht := o5.form_.take_ (k := l1.length) (by simp)
      rw [List.take_left] at ht
      have Ft_5 : Hid (Lv yK w5 w5.heap.size (.slice (some ⟨g5, 0, none⟩) l1.length (l1.length + 3)) l1) := ht.lv_
      have Ftw_5 : Hid (Lv yK w5 w5.heap.size (.slice (some ⟨g5, 0, none⟩) (l1.length + 3) (l1.length + 3)) (l1 ++ [7, 7, 7])) := o5.form_.lv_
      clear ht o5
      have C6 := Lib.hid (copyInts_any _ l2 _ w5 Fd_5.out HR2.out)
      go_wp2_with (fail)
      refine (C6.out).mono ?_
      rintro e w6 ⟨A6, c6, rfl, o6, b6⟩
      have HB6 := Lib.hid (HB5.out.trans (b6.mono HB5.out.size))
      have Fv_6 := Lib.hid ((Fv_5.out.below_ b6 (Nat.le_refl _)).mono_ b6.size)
      have Fbox_6 := Lib.hid ((Fbox_5.out.below_ b6 (Nat.le_refl _)).mono_ b6.size)
      have Fb_6 := Lib.hid ((Fb_5.out.below_ b6 (Nat.le_refl _)).mono_ b6.size)
      have Fd_6 := Lib.hid ((Fd_5.out.below_ b6 (Nat.le_refl _)).mono_ b6.size)
      have Fown_6 := Lib.hid ((Fown_5.out.below_ b6 (Nat.le_refl _)).mono_ b6.size)
      have Fbown_6 := Lib.hid ((Fbown_5.out.below_ b6 (Nat.le_refl _)).mono_ b6.size)
      have Ft_6 := Lib.hid ((Ft_5.out.below_ b6 (Nat.le_refl _)).mono_ b6.size)
      have Ftw_6 := Lib.hid ((Ftw_5.out.below_ b6 (Nat.le_refl _)).mono_ b6.size)
      have dbox_6 := Fbox_6.out.2
      have dbown_6 := Fbown_6.out.2
      have Fq_6 := Lib.hid (o6.form_)
      clear C6 b6 HB5 Fv_5 Fbox_5 Fb_5 Fd_5 Fown_5 Fbown_5 Ft_5 Ftw_5 dbox_5 dbown_5 o6
      have Kv := Lib.hid Fv_6.out
      have Kbox := Lib.hid Fbox_6.out
      have Kb := Lib.hid Fb_6.out
      have Kd := Lib.hid Fd_6.out
      have Kown := Lib.hid Fown_6.out
      have Kbown := Lib.hid Fbown_6.out
      have Kt := Lib.hid Ft_6.out
      have Ktw := Lib.hid Ftw_6.out
      have Kq := Lib.hid Fq_6.out
      have HBp := Lib.hid HB6.out
      clear Fv_6
      clear Ftw_6
      clear Fb_6
      clear Fd_6
      have Mp_6 := Lib.hid (Below.refl w6.heap.size w6)
      have C7 := Lib.hid (pencode_any l0 _ l1 _ _ w6 Fown_6.out Ft_6.out (Nat.le_refl _) HP.out HF1.out)
      rw [HX.out] at C7
      go_wp2_with (fail)
      refine (C7.out).mono ?_
      rintro e w7 ⟨A7, c7, rfl, o7, b7⟩
      have HB7 := Lib.hid (HB6.out.trans (b7.mono HB6.out.size))
      have Fbox_7 := Lib.hid ((Fbox_6.out.below_ b7 (Nat.le_refl _)).mono_ b7.size)
      have Fown_7 := Lib.hid ((Fown_6.out.below_ b7 (Nat.le_refl _)).mono_ b7.size)
      have Fbown_7 := Lib.hid ((Fbown_6.out.below_ b7 (Nat.le_refl _)).mono_ b7.size)
      have Ft_7 := Lib.hid ((Ft_6.out.below_ b7 (Nat.le_refl _)).mono_ b7.size)
      have Fq_7 := Lib.hid ((Fq_6.out.below_ b7 (Nat.le_refl _)).mono_ b7.size)
      have dbox_7 := Fbox_7.out.2
      have dbown_7 := Fbown_7.out.2
      have Mp_7 := Lib.hid (Mp_6.out.trans (b7.mono Mp_6.out.size))
      have Fx_7 := Lib.hid (o7.form_)
      have Ox_7 := Lib.hid o7
      clear C7 b7 HB6 Fbox_6 Fown_6 Fbown_6 Ft_6 Fq_6 dbox_6 dbown_6 Mp_6 o7
      have Xx : Hid (∀ k, (Value.slice A7 x.length c7).ownBlock = some k → k < w7.heap.size) := fun k hk => (Ox_7.out.lt_ k hk).2
      clear Fx_7
      have Mx_7 := Lib.hid (Below.refl w7.heap.size w7)
      have Spx : Hid (w6.heap.size ≤ w7.heap.size) := Mp_7.out.size
      have C8 := Lib.hid (pbegin_any l0 _ l1 _ _ w7 Fown_7.out Ft_7.out (Nat.le_refl _) HP.out HF1.out)
      rw [HY.out] at C8
      go_wp2_with (fail)
      refine (C8.out).mono ?_
      rintro e w8 ⟨A8, c8, rfl, o8, b8⟩
      have HB8 := Lib.hid (HB7.out.trans (b8.mono HB7.out.size))
      have Fbox_8 := Lib.hid ((Fbox_7.out.below_ b8 (Nat.le_refl _)).mono_ b8.size)
      have Fown_8 := Lib.hid ((Fown_7.out.below_ b8 (Nat.le_refl _)).mono_ b8.size)
      have Fbown_8 := Lib.hid ((Fbown_7.out.below_ b8 (Nat.le_refl _)).mono_ b8.size)
      have Ft_8 := Lib.hid ((Ft_7.out.below_ b8 (Nat.le_refl _)).mono_ b8.size)
      have Fq_8 := Lib.hid ((Fq_7.out.below_ b8 (Nat.le_refl _)).mono_ b8.size)
      have Ox_8 := Lib.hid (Ox_7.out.below_ b8 (Nat.le_refl _))
      have dbox_8 := Fbox_8.out.2
      have dbown_8 := Fbown_8.out.2
      have Mp_8 := Lib.hid (Mp_7.out.trans (b8.mono Mp_7.out.size))
      have Mx_8 := Lib.hid (Mx_7.out.trans (b8.mono Mx_7.out.size))
      have Fy_8 := Lib.hid (o8.form_)
      have Oy_8 := Lib.hid o8
      clear C8 b8 HB7 Fbox_7 Fown_7 Fbown_7 Ft_7 Fq_7 Ox_7 dbox_7 dbown_7 Mp_7 Mx_7 o8
      have Xy : Hid (∀ k, (Value.slice A8 y.length c8).ownBlock = some k → k < w8.heap.size) := fun k hk => (Oy_8.out.lt_ k hk).2
      clear Fy_8
      have My_8 := Lib.hid (Below.refl w8.heap.size w8)
      have Sxy : Hid (w7.heap.size ≤ w8.heap.size) := Mx_8.out.size
      have C9 := Lib.hid (pstep_any l0 _ l2 _ _ w8 Fown_8.out Fq_8.out (Nat.le_refl _) HP.out HF2.out)
      rw [HZ.out] at C9
      go_wp2_with (fail)
      refine (C9.out).mono ?_
      rintro e w9 ⟨A9, c9, rfl, o9, b9⟩
      have HB9 := Lib.hid (HB8.out.trans (b9.mono HB8.out.size))
      have Fbox_9 := Lib.hid ((Fbox_8.out.below_ b9 (Nat.le_refl _)).mono_ b9.size)
      have Fown_9 := Lib.hid ((Fown_8.out.below_ b9 (Nat.le_refl _)).mono_ b9.size)
      have Fbown_9 := Lib.hid ((Fbown_8.out.below_ b9 (Nat.le_refl _)).mono_ b9.size)
      have Ft_9 := Lib.hid ((Ft_8.out.below_ b9 (Nat.le_refl _)).mono_ b9.size)
      have Fq_9 := Lib.hid ((Fq_8.out.below_ b9 (Nat.le_refl _)).mono_ b9.size)
      have Ox_9 := Lib.hid (Ox_8.out.below_ b9 (Nat.le_refl _))
      have Oy_9 := Lib.hid (Oy_8.out.below_ b9 (Nat.le_refl _))
      have dbox_9 := Fbox_9.out.2
      have dbown_9 := Fbown_9.out.2
      have Mp_9 := Lib.hid (Mp_8.out.trans (b9.mono Mp_8.out.size))
      have Mx_9 := Lib.hid (Mx_8.out.trans (b9.mono Mx_8.out.size))
      have My_9 := Lib.hid (My_8.out.trans (b9.mono My_8.out.size))
      have Fz_9 := Lib.hid (o9.form_)
      have Oz_9 := Lib.hid o9
      clear C9 b9 HB8 Fbox_8 Fown_8 Fbown_8 Ft_8 Fq_8 Ox_8 Oy_8 dbox_8 dbown_8 Mp_8 Mx_8 My_8 o9
      have Xz : Hid (∀ k, (Value.slice A9 z.length c9).ownBlock = some k → k < w9.heap.size) := fun k hk => (Oz_9.out.lt_ k hk).2
      clear Fz_9
      have Mz_9 := Lib.hid (Below.refl w9.heap.size w9)
      have Syz : Hid (w8.heap.size ≤ w9.heap.size) := My_9.out.size
      have C10 := Lib.hid (pdecode_any l0 _ l2 _ _ w9 Fown_9.out Fq_9.out (Nat.le_refl _) HP.out HF2.out)
      rw [HU.out] at C10
      go_wp2_with (fail)
      refine (C10.out).mono ?_
      rintro e w10 ⟨A10, c10, rfl, o10, b10⟩
      have HB10 := Lib.hid (HB9.out.trans (b10.mono HB9.out.size))
      have Fbox_10 := Lib.hid ((Fbox_9.out.below_ b10 (Nat.le_refl _)).mono_ b10.size)
      have Fown_10 := Lib.hid ((Fown_9.out.below_ b10 (Nat.le_refl _)).mono_ b10.size)
      have Fbown_10 := Lib.hid ((Fbown_9.out.below_ b10 (Nat.le_refl _)).mono_ b10.size)
      have Ft_10 := Lib.hid ((Ft_9.out.below_ b10 (Nat.le_refl _)).mono_ b10.size)
      have Fq_10 := Lib.hid ((Fq_9.out.below_ b10 (Nat.le_refl _)).mono_ b10.size)
      have Ox_10 := Lib.hid (Ox_9.out.below_ b10 (Nat.le_refl _))
      have Oy_10 := Lib.hid (Oy_9.out.below_ b10 (Nat.le_refl _))
      have Oz_10 := Lib.hid (Oz_9.out.below_ b10 (Nat.le_refl _))
      have dbox_10 := Fbox_10.out.2
      have dbown_10 := Fbown_10.out.2
      have Mp_10 := Lib.hid (Mp_9.out.trans (b10.mono Mp_9.out.size))
      have Mx_10 := Lib.hid (Mx_9.out.trans (b10.mono Mx_9.out.size))
      have My_10 := Lib.hid (My_9.out.trans (b10.mono My_9.out.size))
      have Mz_10 := Lib.hid (Mz_9.out.trans (b10.mono Mz_9.out.size))
      have Fu_10 := Lib.hid (o10.form_)
      have Ou_10 := Lib.hid o10
      clear C10 b10 HB9 Fbox_9 Fown_9 Fbown_9 Ft_9 Fq_9 Ox_9 Oy_9 Oz_9 dbox_9 dbown_9 Mp_9 Mx_9 My_9 Mz_9 o10
      have Xu : Hid (∀ k, (Value.slice A10 u.length c10).ownBlock = some k → k < w10.heap.size) := fun k hk => (Ou_10.out.lt_ k hk).2
      clear Fu_10
      have Mu_10 := Lib.hid (Below.refl w10.heap.size w10)
      clear Fown_10
      clear Ft_10
      clear Fq_10
      clear Fbown_10
      clear Fbox_10
      have HMk := Lib.hid Mp_10.out
      have Spy := Lib.hid (Nat.le_trans Spx.out Sxy.out)
      have Spz := Lib.hid (Nat.le_trans Spy.out Syz.out)
      have OX := Lib.hid Ox_10.out
      have OY := Lib.hid Oy_10.out
      have OZ := Lib.hid Oz_10.out
      have OU := Lib.hid Ou_10.out
      clear Mp_10 Mx_10 My_10 Mz_10 Mu_10 HB10 Ox_10 Oy_10 Oz_10 Ou_10
      have D0 := Lib.hid (spoilInts_any _ _ _ w10 OX.out)
      go_wp2_with (fail)
      refine (D0.out).mono ?_
      rintro e s1 ⟨⟨xx0, rfl⟩, gg⟩
      have HMx := Lib.hid (HMk.out.grown gg HMk.out.size (fun k hk => (OX.out.lt_ k hk).1))
      have Oy0 := Lib.hid (OY.out.kept_ gg (OY.out.apart_ OX.out Xx.out))
      have Oz0 := Lib.hid (OZ.out.kept_ gg (OZ.out.apart_ OX.out (fun k hk => Nat.lt_of_lt_of_le (Xx.out k hk) Sxy.out)))
      have Ou0 := Lib.hid (OU.out.kept_ gg (OU.out.apart_ OX.out (fun k hk => Nat.lt_of_lt_of_le (Xx.out k hk) (Nat.le_trans Sxy.out Syz.out))))
      clear D0 gg HMk OX OY OZ OU
      have D1 := Lib.hid (spoilInts_any _ _ _ s1 Oy0.out)
      go_wp2_with (fail)
      refine (D1.out).mono ?_
      rintro e s2 ⟨⟨xx1, rfl⟩, gg⟩
      have HMy := Lib.hid (HMx.out.grown gg HMx.out.size (fun k hk => Nat.le_trans Spx.out (Oy0.out.lt_ k hk).1))
      have Oz1 := Lib.hid (Oz0.out.kept_ gg (Oz0.out.apart_ Oy0.out Xy.out))
      have Ou1 := Lib.hid (Ou0.out.kept_ gg (Ou0.out.apart_ Oy0.out (fun k hk => Nat.lt_of_lt_of_le (Xy.out k hk) Syz.out)))
      clear D1 gg HMx Oy0 Oz0 Ou0
      have D2 := Lib.hid (spoilInts_any _ _ _ s2 Oz1.out)
      go_wp2_with (fail)
      refine (D2.out).mono ?_
      rintro e s3 ⟨⟨xx2, rfl⟩, gg⟩
      have HMz := Lib.hid (HMy.out.grown gg HMy.out.size (fun k hk => Nat.le_trans Spy.out (Oz1.out.lt_ k hk).1))
      have Ou2 := Lib.hid (Ou1.out.kept_ gg (Ou1.out.apart_ Oz1.out Xz.out))
      clear D2 gg HMy Oz1 Ou1
      have D3 := Lib.hid (spoilO_any _ _ _ s3 Ou2.out)
      go_wp2_with (fail)
      refine (D3.out).mono ?_
      rintro e s4 ⟨⟨xx3, rfl⟩, gg⟩
      have HMu := Lib.hid (HMz.out.grown gg HMz.out.size (fun k hk => Nat.le_trans Spz.out (Ou2.out.lt_ k hk).1))
      clear D3 gg HMz Ou2
      clear Xx Xy Xz Xu Spx Sxy Syz Spy Spz
      have b11 := HMu.out
      clear HMu
      have HB11 := Lib.hid (HBp.out.trans (b11.mono HBp.out.size))
      have Fv_11 := Lib.hid ((Kv.out.below_ b11 (Nat.le_refl _)).mono_ b11.size)
      have Fbox_11 := Lib.hid ((Kbox.out.below_ b11 (Nat.le_refl _)).mono_ b11.size)
      have Fb_11 := Lib.hid ((Kb.out.below_ b11 (Nat.le_refl _)).mono_ b11.size)
      have Fd_11 := Lib.hid ((Kd.out.below_ b11 (Nat.le_refl _)).mono_ b11.size)
      have Fown_11 := Lib.hid ((Kown.out.below_ b11 (Nat.le_refl _)).mono_ b11.size)
      have Fbown_11 := Lib.hid ((Kbown.out.below_ b11 (Nat.le_refl _)).mono_ b11.size)
      have Ft_11 := Lib.hid ((Kt.out.below_ b11 (Nat.le_refl _)).mono_ b11.size)
      have Ftw_11 := Lib.hid ((Ktw.out.below_ b11 (Nat.le_refl _)).mono_ b11.size)
      have Fq_11 := Lib.hid ((Kq.out.below_ b11 (Nat.le_refl _)).mono_ b11.size)
      clear b11 HBp Kv Kbox Kb Kd Kown Kbown Kt Ktw Kq
      have dbox_11 := Fbox_11.out.2
      have dbown_11 := Fbown_11.out.2
      have C12 := Lib.hid (voc_any l0 l0 _ _ _ _ s4 Fown_11.out Fv_11.out (Nat.le_refl _) (Nat.le_refl _))
      simp only [decide_true] at C12
      go_wp2_with (fail)
      refine (C12.out).mono ?_
      rintro e w12 ⟨rfl, b12⟩
      have HB12 := Lib.hid (HB11.out.trans (b12.mono HB11.out.size))
      have Fv_12 := Lib.hid ((Fv_11.out.below_ b12 (Nat.le_refl _)).mono_ b12.size)
      have Fbox_12 := Lib.hid ((Fbox_11.out.below_ b12 (Nat.le_refl _)).mono_ b12.size)
      have Fb_12 := Lib.hid ((Fb_11.out.below_ b12 (Nat.le_refl _)).mono_ b12.size)
      have Fd_12 := Lib.hid ((Fd_11.out.below_ b12 (Nat.le_refl _)).mono_ b12.size)
      have Fown_12 := Lib.hid ((Fown_11.out.below_ b12 (Nat.le_refl _)).mono_ b12.size)
      have Fbown_12 := Lib.hid ((Fbown_11.out.below_ b12 (Nat.le_refl _)).mono_ b12.size)
      have Ft_12 := Lib.hid ((Ft_11.out.below_ b12 (Nat.le_refl _)).mono_ b12.size)
      have Ftw_12 := Lib.hid ((Ftw_11.out.below_ b12 (Nat.le_refl _)).mono_ b12.size)
      have Fq_12 := Lib.hid ((Fq_11.out.below_ b12 (Nat.le_refl _)).mono_ b12.size)
      have dbox_12 := Fbox_12.out.2
      have dbown_12 := Fbown_12.out.2
      clear C12 b12 HB11 Fv_11 Fbox_11 Fb_11 Fd_11 Fown_11 Fbown_11 Ft_11 Ftw_11 Fq_11 dbox_11 dbown_11
      have C13 := Lib.hid (left_any g5 l1 _ _ _ w12 Ftw_12.out.bv_ Fb_12.out.bv_)
      go_wp2_with (fail)
      refine (C13.out).mono ?_
      rintro e w13 ⟨rfl, b13⟩
      have HB13 := Lib.hid (HB12.out.trans (b13.mono HB12.out.size))
      have Fv_13 := Lib.hid ((Fv_12.out.below_ b13 (Nat.le_refl _)).mono_ b13.size)
      have Fbox_13 := Lib.hid ((Fbox_12.out.below_ b13 (Nat.le_refl _)).mono_ b13.size)
      have Fb_13 := Lib.hid ((Fb_12.out.below_ b13 (Nat.le_refl _)).mono_ b13.size)
      have Fd_13 := Lib.hid ((Fd_12.out.below_ b13 (Nat.le_refl _)).mono_ b13.size)
      have Fown_13 := Lib.hid ((Fown_12.out.below_ b13 (Nat.le_refl _)).mono_ b13.size)
      have Fbown_13 := Lib.hid ((Fbown_12.out.below_ b13 (Nat.le_refl _)).mono_ b13.size)
      have Ft_13 := Lib.hid ((Ft_12.out.below_ b13 (Nat.le_refl _)).mono_ b13.size)
      have Ftw_13 := Lib.hid ((Ftw_12.out.below_ b13 (Nat.le_refl _)).mono_ b13.size)
      have Fq_13 := Lib.hid ((Fq_12.out.below_ b13 (Nat.le_refl _)).mono_ b13.size)
      have dbox_13 := Fbox_13.out.2
      have dbown_13 := Fbown_13.out.2
      clear C13 b13 HB12 Fv_12 Fbox_12 Fb_12 Fd_12 Fown_12 Fbown_12 Ft_12 Ftw_12 Fq_12 dbox_12 dbown_12
      have C14 := Lib.hid (ints_lv _ _ _ _ _ _ w13 Fq_13.out Fd_13.out)
      simp only [decide_true] at C14
      go_wp2_with (fail)
      refine (C14.out).mono ?_
      rintro e w14 ⟨rfl, b14⟩
      have HB14 := Lib.hid (HB13.out.trans (b14.mono HB13.out.size))
      have Fv_14 := Lib.hid ((Fv_13.out.below_ b14 (Nat.le_refl _)).mono_ b14.size)
      have Fbox_14 := Lib.hid ((Fbox_13.out.below_ b14 (Nat.le_refl _)).mono_ b14.size)
      have Fb_14 := Lib.hid ((Fb_13.out.below_ b14 (Nat.le_refl _)).mono_ b14.size)
      have Fd_14 := Lib.hid ((Fd_13.out.below_ b14 (Nat.le_refl _)).mono_ b14.size)
      have Fown_14 := Lib.hid ((Fown_13.out.below_ b14 (Nat.le_refl _)).mono_ b14.size)
      have Fbown_14 := Lib.hid ((Fbown_13.out.below_ b14 (Nat.le_refl _)).mono_ b14.size)
      have Ft_14 := Lib.hid ((Ft_13.out.below_ b14 (Nat.le_refl _)).mono_ b14.size)
      have Ftw_14 := Lib.hid ((Ftw_13.out.below_ b14 (Nat.le_refl _)).mono_ b14.size)
      have Fq_14 := Lib.hid ((Fq_13.out.below_ b14 (Nat.le_refl _)).mono_ b14.size)
      have dbox_14 := Fbox_14.out.2
      have dbown_14 := Fbown_14.out.2
      clear C14 b14 HB13 Fv_13 Fbox_13 Fb_13 Fd_13 Fown_13 Fbown_13 Ft_13 Ftw_13 Fq_13 dbox_13 dbown_13
      clear Fv_14
      clear Fb_14
      clear Fd_14
      clear Fown_14
      clear Ft_14
      clear Ftw_14
      clear Fq_14
      have C15 := Lib.hid (works_bp w14)
      go_wp2_with (fail)
      refine (C15.out).mono ?_
      rintro e w15 ⟨rfl, b15⟩
      have HB15 := Lib.hid (HB14.out.trans (b15.mono HB14.out.size))
      have Fbox_15 := Lib.hid ((Fbox_14.out.below_ b15 (Nat.le_refl _)).mono_ b15.size)
      have Fbown_15 := Lib.hid ((Fbown_14.out.below_ b15 (Nat.le_refl _)).mono_ b15.size)
      have dbox_15 := Fbox_15.out.2
      have dbown_15 := Fbown_15.out.2
      clear C15 b15 HB14 Fbox_14 Fbown_14 dbox_14 dbown_14
      go_wp2
      go_ret
      exact ⟨rfl, HB15.out⟩

/-! ### From the walk to the row -/
set_option maxRecDepth 100000 in
theorem lifted (os : Os) (started : os.Started) (H : Type) (enc : TypeId × Value → H) :
    ReturnsInHanded {} Try.checked os 10 .any (Rows.bpeFreshSpec.pre6 enc Try.prog Try.f10 Rows.bpeFreshRow.domain false) (Rows.bpeFreshSpec.post enc Try.prog Try.f10 false true false false) := by
  refine returnsInHanded_of_change_sized (C := Try.checked) own started (by kernel_rfl) Try.func10
    (ChangeSpec.witness6 (enc := enc) (C := Try.checked) false ⟨#[], #[.agg #[.slice none 0 0], .slice none 0 0, .slice none 0 0], []⟩ 8 (by kernel_rfl) (by kernel_rfl) (by kernel_rfl) (by kernel_rfl)) ?_
  intro W base args ds gs before hval0 hW hcnd hreach _
  have hval : ∀ (j : Nat) t v, Try.f10.params[j]? = some t → args[j]? = some v → Value.okWide Try.prog W .any base t v := hval0
  have hW' := hW
  obtain ⟨p, q, hA0, hV, rfl, hfz, hnd⟩ := hW
  have hA : DataW.TrodAll enc Try.prog W 0 (fun _ => true) true Try.f10.params.toList args.toList ds p := hA0
  rw [Try.params10] at hA hval
  obtain ⟨v0, vs0, d0, ds0, p0, q0, hargs, rfl, rfl, h0, r0⟩ := trodAll_cons hA
  obtain ⟨v1, vs1, d1, ds1, p1, q1, rfl, rfl, rfl, h1, r1⟩ := trodAll_cons r0
  obtain ⟨v2, vs2, d2, ds2, p2, q2, rfl, rfl, rfl, h2, r2⟩ := trodAll_cons r1
  obtain ⟨rfl, rfl, rfl⟩ := trodAll_nil r2
  obtain rfl : args = #[v0, v1, v2] := by cases args; simp_all
  obtain ⟨rfl, rfl⟩ := trodVars_none hV
  have k0 := h0
  have lt0 : ∀ x ∈ p0, x.block < W.heap.size := by obtain ⟨m, hm⟩ := k0; exact DataW.trod_lt m _ _ _ hm
  obtain ⟨u0, l0, rfl, hb0⟩ := voc_in (hval 0 24 v0 rfl rfl) h0
  obtain ⟨a1, len1, cap1, rfl⟩ := okWide_slice Try.underlying25 (hval 1 25 v1 rfl rfl)
  have k1 := h1
  have lt1 : ∀ x ∈ p1, x.block < W.heap.size := by obtain ⟨m, hm⟩ := k1; exact DataW.trod_lt m _ _ _ hm
  obtain ⟨l1, len_1, hb1⟩ : ∃ l : List Nat, l.length = len1 ∧ Bv W W.heap.size (.slice a1 len1 cap1) l := by
    obtain ⟨fuel, hf⟩ := h1
    rcases open_ints Try.underlying25 Try.underlying5 (by kernel_rfl) hf with ⟨hcs, _⟩ | ⟨x, l, c, zs, hcs, _, hl, hm, hz, _, hcell, hwz⟩
    · simp [Value.cells] at hcs
      obtain ⟨rfl, rfl, rfl⟩ := hcs
      exact bytes_in (.inl ⟨rfl, rfl, rfl⟩)
    · simp [Value.cells] at hcs
      obtain ⟨rfl, rfl, rfl⟩ := hcs
      exact bytes_in (.inr ⟨x, zs, rfl, hl, hm, by simpa using hz, hcell, hwz⟩)
  obtain ⟨a2, len2, cap2, rfl⟩ := okWide_slice Try.underlying28 (hval 2 28 v2 rfl rfl)
  have k2 := h2
  have lt2 : ∀ x ∈ p2, x.block < W.heap.size := by obtain ⟨m, hm⟩ := k2; exact DataW.trod_lt m _ _ _ hm
  obtain ⟨l2, len_2, hb2⟩ : ∃ l : List Int, l.length = len2 ∧ Lv iK W W.heap.size (.slice a2 len2 cap2) l := by
    obtain ⟨fuel, hf⟩ := h2
    rcases open_ints Try.underlying28 Try.underlying3 (by kernel_rfl) hf with ⟨hcs, _⟩ | ⟨x, l, c, zs, hcs, _, hl, hm, hz, _, hcell, hwz⟩
    · simp [Value.cells] at hcs
      obtain ⟨rfl, rfl, rfl⟩ := hcs
      exact ints_in (.inl ⟨rfl, rfl, rfl⟩)
    · simp [Value.cells] at hcs
      obtain ⟨rfl, rfl, rfl⟩ := hcs
      exact ints_in (.inr ⟨x, zs, rfl, hl, hm, by simpa using hz, hcell, hwz⟩)
  have reach1 : len1 * 1 ≤ 140737488351232 := by
    obtain ⟨fuel, hf⟩ := k1
    rcases open_ints Try.underlying25 Try.underlying5 (by kernel_rfl) hf with ⟨hcs, _⟩ | ⟨x, l, c, zs, hcs, _, hl, hm, hz, hx, hcell, hwz⟩
    · simp [Value.cells] at hcs
      omega
    · simp [Value.cells] at hcs
      obtain ⟨rfl, rfl, rfl⟩ := hcs
      rw [Prod.mk.injEq] at hx
      have hs := sized_slice hreach (j := 1) (t := 25) (e := 5) (elems := lits .u8 (zs.take len1)) (spare := lits .u8 (zs.drop len1)) rfl (by rw [hx.1]; rfl) Try.underlying25
      have hb : Try.prog.bytesOf 5 = 1 := by kernel_rfl
      change _ * Try.prog.bytesOf 5 ≤ _ at hs
      rw [hb] at hs
      simp [lits, reachBytes] at hs hz
      omega
  have reach2 : len2 * 8 ≤ 140737488351232 := by
    obtain ⟨fuel, hf⟩ := k2
    rcases open_ints Try.underlying28 Try.underlying3 (by kernel_rfl) hf with ⟨hcs, _⟩ | ⟨x, l, c, zs, hcs, _, hl, hm, hz, hx, hcell, hwz⟩
    · simp [Value.cells] at hcs
      omega
    · simp [Value.cells] at hcs
      obtain ⟨rfl, rfl, rfl⟩ := hcs
      rw [Prod.mk.injEq] at hx
      have hs := sized_slice hreach (j := 2) (t := 28) (e := 3) (elems := lits .i64 (zs.take len2)) (spare := lits .i64 (zs.drop len2)) rfl (by rw [hx.1]; rfl) Try.underlying28
      have hb : Try.prog.bytesOf 3 = 8 := by kernel_rfl
      change _ * Try.prog.bytesOf 3 ≤ _ at hs
      rw [hb] at hs
      simp [lits, reachBytes] at hs hz
      omega
  clear hA0 hval0
  refine (walk W u0 l0 hb0 (.slice a1 len1 cap1) l1 hb1 (.slice a2 len2 cap2) l2 hb2 (by rw [len_1]; exact reach1) (by rw [len_2]; exact reach2)).mono fun e W' ⟨he, bel⟩ => ?_
  subst he
  exact ⟨_, rfl, _, _, _, [], _, [], hW', trodAll_mk1 (shut_bool Try.underlying4 _), (trodAll_cons_mk (Below.trod laidOut (by kernel_rfl) (of_decide_eq_true (by kernel_rfl)) k0 bel lt0) (trodAll_cons_mk (Below.trod laidOut (by kernel_rfl) (of_decide_eq_true (by kernel_rfl)) k1 bel lt1) (trodAll_cons_mk (Below.trod laidOut (by kernel_rfl) (of_decide_eq_true (by kernel_rfl)) k2 bel lt2) trodAll_mk0))), rfl, bel.frame _, fun h => by cases h⟩

theorem proved : Rows.BpeFreshSaid :=
  OpenClaim.holds_of_wide 10 Try.f10 rfl rfl rfl rfl rfl rfl rfl ⟨rfl, rfl, rfl, rfl, rfl⟩ rfl rfl rfl rfl rfl (by kernel_rfl) Try.func10 (by kernel_rfl)
    (of_decide_eq_true (by kernel_rfl)) (by unfold Func.isWrapper; first | (rw [if_pos (by decide +kernel)]; kernel_rfl) | (rw [if_neg (by decide +kernel)]; exact ⟨rfl, rfl⟩))
    (fun os started H enc _ => lifted os started H enc)

end Go.Proofs.Ytaedhccmdbodlaa.bpeFresh
