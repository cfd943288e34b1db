/-
  VocfileFresh: what is handed in stays, the room behind it, too; what is answered is new memory. No condition.
-/
import Derived.Test.YtglkhgchbnkekaaPk10
import Derived.Test.YtglkhgchbnkekaaPk37
import Derived.Test.YtglkhgchbnkekaaPk14
import Derived.Test.YtglkhgchbnkekaaPk08
import Derived.Test.YtglkhgchbnkekaaPk38
import Derived.Test.YtglkhgchbnkekaaPk39
import Derived.Test.YtglkhgchbnkekaaPk40
namespace Go.Proofs.Ytglkhgchbnkekaa.vocfileFresh
open Go.ChangeShapes Go.WideShapes Go.ChangeAt Go.RowKit
open Go.ChangeMaps (open_string shut_string)
set_option linter.unusedVariables false

set_option maxHeartbeats 8000000 in
set_option maxRecDepth 100000 in
theorem walk (w : World) (v0 : Value) (l0 : List Vo.Pc) (h0 : Lv pK w w.heap.size v0 l0) (v1 : Value) (l1 : List Nat) (h1 : Lv yK w w.heap.size v1 l1) :
    Calls Try.prog 7 #[.agg #[v0], v1] w (IsBool true w) := by
  obtain ⟨A1, c1', rfl, hd1, hd2, _, _⟩ := id h1
  have hl1 : l1.length ≤ 9223372036854775807 := by simp only [maxLen] at hd2; omega
  have H1 := Lib.hid h1
  clear hd1 hd2 h1
  by_cases hm : 700 < l0.length
  · skip
    have HM : Hid (decide (700 < l0.length) = true) := by unfold Hid; simpa using hm
    clear hm
    obtain ⟨W, hW⟩ : ∃ X, w.alloc (.cells #[v0] 24) = X := ⟨_, rfl⟩
    obtain ⟨db, hsz, hbb⟩ := boxed hW
    have HB0 := Lib.hid hbb
    have Fv_0 := Lib.hid ((h0.below_ hbb (Nat.le_refl _)).mono_ hbb.size)
    have Fbox_0 : Hid (BoxAt W W.heap.size w.heap.size v0) := ⟨by omega, db⟩
    obtain ⟨A, c, rfl, hc1, hc2, _, _⟩ := h0
    have hl0 : l0.length ≤ 9223372036854775807 := by simp only [maxLen] at hc2; omega
    have dbox_0 := Fbox_0.out.2
    clear hc1 hc2 hbb hsz db
    go_enter Try.func7, Try.ntmps7
    have C1 := Lib.hid (many_any l0 _ _ W Fv_0.out)
    rw [HM.out] at C1
    go_wp2_with (fail)
    refine (C1.out).mono ?_
    rintro e w1 ⟨rfl, b1⟩
    have HB1 := Lib.hid (HB0.out.trans (b1.mono HB0.out.size))
    have Fv_1 := Lib.hid ((Fv_0.out.below_ b1 (Nat.le_refl _)).mono_ b1.size)
    have Fbox_1 := Lib.hid ((Fbox_0.out.below_ b1 (Nat.le_refl _)).mono_ b1.size)
    have dbox_1 := Fbox_1.out.2
    clear C1 b1 HB0 Fv_0 Fbox_0 dbox_0
    clear Fv_1
    have C2 := Lib.hid (works_vf w1)
    go_wp2_with (fail)
    refine (C2.out).mono ?_
    rintro e w2 ⟨rfl, b2⟩
    have HB2 := Lib.hid (HB1.out.trans (b2.mono HB1.out.size))
    have Fbox_2 := Lib.hid ((Fbox_1.out.below_ b2 (Nat.le_refl _)).mono_ b2.size)
    have dbox_2 := Fbox_2.out.2
    clear C2 b2 HB1 Fbox_1 dbox_1
    go_wp2
    go_ret
    exact ⟨rfl, HB2.out⟩
  · skip
    have HM : Hid (decide (700 < l0.length) = false) := by unfold Hid; simpa using hm
    have HP : Hid (l0.length ≤ 4096) := by unfold Hid; omega
    have HP2 : Hid (l0.length ≤ 4194304) := by unfold Hid; omega
    clear hm
    by_cases hm : 5000 < l1.length
    · skip
      have hmi : (5000 : Int) < (l1.length : Int) := by omega
      clear hm
      obtain ⟨W, hW⟩ : ∃ X, w.alloc (.cells #[v0] 24) = X := ⟨_, rfl⟩
      obtain ⟨db, hsz, hbb⟩ := boxed hW
      have HB0 := Lib.hid hbb
      have Fv_0 := Lib.hid ((h0.below_ hbb (Nat.le_refl _)).mono_ hbb.size)
      have Fbox_0 : Hid (BoxAt W W.heap.size w.heap.size v0) := ⟨by omega, db⟩
      obtain ⟨A, c, rfl, hc1, hc2, _, _⟩ := h0
      have hl0 : l0.length ≤ 9223372036854775807 := by simp only [maxLen] at hc2; omega
      have dbox_0 := Fbox_0.out.2
      clear hc1 hc2 hbb hsz db
      go_enter Try.func7, Try.ntmps7
      have C1 := Lib.hid (many_any l0 _ _ W Fv_0.out)
      rw [HM.out] at C1
      go_wp2_with (fail)
      refine (C1.out).mono ?_
      rintro e w1 ⟨rfl, b1⟩
      have HB1 := Lib.hid (HB0.out.trans (b1.mono HB0.out.size))
      have Fv_1 := Lib.hid ((Fv_0.out.below_ b1 (Nat.le_refl _)).mono_ b1.size)
      have Fbox_1 := Lib.hid ((Fbox_0.out.below_ b1 (Nat.le_refl _)).mono_ b1.size)
      have dbox_1 := Fbox_1.out.2
      clear C1 b1 HB0 Fv_0 Fbox_0 dbox_0
      clear Fv_1
      have C2 := Lib.hid (works_vf w1)
      go_wp2_with (fail)
      refine (C2.out).mono ?_
      rintro e w2 ⟨rfl, b2⟩
      have HB2 := Lib.hid (HB1.out.trans (b2.mono HB1.out.size))
      have Fbox_2 := Lib.hid ((Fbox_1.out.below_ b2 (Nat.le_refl _)).mono_ b2.size)
      have dbox_2 := Fbox_2.out.2
      clear C2 b2 HB1 Fbox_1 dbox_1
      go_wp2
      go_ret
      exact ⟨rfl, HB2.out⟩
    · skip
      have hmi : ¬ (5000 : Int) < (l1.length : Int) := by omega
      have HL1 : Hid (l1.length ≤ 140000) := by unfold Hid; omega
      have HLF : Hid ((Vf.file l0).length ≤ 140000) := Vf.file_short HP.out
      clear hm
      by_cases hmay : Vo.May l0
      · skip
        have HV : Hid (Vf.putE l0 = (Vf.file l0, 0)) := if_pos hmay
        obtain ⟨x, hxe⟩ : ∃ x, Vf.file l0 = x := ⟨_, rfl⟩
        rw [hxe] at HV HLF
        have HPS := HLF
        obtain ⟨⟨Q, T, E⟩, hx⟩ : ∃ r, Vf.getE x = r := ⟨_, rfl⟩
        have HX := Lib.hid hx
        clear hmay hxe hx
        obtain ⟨W, hW⟩ : ∃ X, w.alloc (.cells #[v0] 24) = X := ⟨_, rfl⟩
        obtain ⟨db, hsz, hbb⟩ := boxed hW
        have HB0 := Lib.hid hbb
        have Fv_0 := Lib.hid ((h0.below_ hbb (Nat.le_refl _)).mono_ hbb.size)
        have Fbox_0 : Hid (BoxAt W W.heap.size w.heap.size v0) := ⟨by omega, db⟩
        obtain ⟨A, c, rfl, hc1, hc2, _, _⟩ := h0
        have hl0 : l0.length ≤ 9223372036854775807 := by simp only [maxLen] at hc2; omega
        have dbox_0 := Fbox_0.out.2
        clear hc1 hc2 hbb hsz db
        go_enter Try.func7, Try.ntmps7
        have C1 := Lib.hid (many_any l0 _ _ W Fv_0.out)
        rw [HM.out] at C1
        go_wp2_with (fail)
        refine (C1.out).mono ?_
        rintro e w1 ⟨rfl, b1⟩
        have HB1 := Lib.hid (HB0.out.trans (b1.mono HB0.out.size))
        have Fv_1 := Lib.hid ((Fv_0.out.below_ b1 (Nat.le_refl _)).mono_ b1.size)
        have Fbox_1 := Lib.hid ((Fbox_0.out.below_ b1 (Nat.le_refl _)).mono_ b1.size)
        have dbox_1 := Fbox_1.out.2
        clear C1 b1 HB0 Fv_0 Fbox_0 dbox_0
        have C2 := Lib.hid (copyvoc_any l0 _ _ w1 Fv_1.out (Nat.le_refl _) HP2.out)
        go_wp2_with (fail)
        refine (C2.out).mono ?_
        rintro e w2 ⟨A2, c2, rfl, o2, b2⟩
        have HB2 := Lib.hid (HB1.out.trans (b2.mono HB1.out.size))
        have Fv_2 := Lib.hid ((Fv_1.out.below_ b2 (Nat.le_refl _)).mono_ b2.size)
        have Fbox_2 := Lib.hid ((Fbox_1.out.below_ b2 (Nat.le_refl _)).mono_ b2.size)
        have dbox_2 := Fbox_2.out.2
        have Fown_2 := Lib.hid (o2.form_)
        clear C2 b2 HB1 Fv_1 Fbox_1 dbox_1 o2
        obtain ⟨Y2, hY2⟩ : ∃ X, w2.alloc (.cells #[.slice A2 l0.length c2] 24) = X := ⟨_, rfl⟩
        obtain ⟨db2, hsz2, hbb2⟩ := boxed hY2
        have b3 := hbb2
        have HB3 := Lib.hid (HB2.out.trans (b3.mono HB2.out.size))
        have Fv_3 := Lib.hid ((Fv_2.out.below_ b3 (Nat.le_refl _)).mono_ b3.size)
        have Fbox_3 := Lib.hid ((Fbox_2.out.below_ b3 (Nat.le_refl _)).mono_ b3.size)
        have Fown_3 := Lib.hid ((Fown_2.out.below_ b3 (Nat.le_refl _)).mono_ b3.size)
        have dbox_3 := Fbox_3.out.2
        clear b3 HB2 Fv_2 Fbox_2 Fown_2 dbox_2
        have Fbown_3 : Hid (BoxAt Y2 Y2.heap.size w2.heap.size (.slice A2 l0.length c2)) := ⟨by omega, db2⟩
        have dbown_3 := Fbown_3.out.2
        clear hbb2 hsz2 db2
        have C4 := Lib.hid (pvput_any l0 _ _ Y2 Fown_3.out (Nat.le_refl _) HP.out)
        rw [HV.out] at C4
        go_wp2_with (fail)
        refine (C4.out).mono ?_
        rintro e w4 ⟨A4, c4, rfl, o4, b4⟩
        have HB4 := Lib.hid (HB3.out.trans (b4.mono HB3.out.size))
        have Fv_4 := Lib.hid ((Fv_3.out.below_ b4 (Nat.le_refl _)).mono_ b4.size)
        have Fbox_4 := Lib.hid ((Fbox_3.out.below_ b4 (Nat.le_refl _)).mono_ b4.size)
        have Fown_4 := Lib.hid ((Fown_3.out.below_ b4 (Nat.le_refl _)).mono_ b4.size)
        have Fbown_4 := Lib.hid ((Fbown_3.out.below_ b4 (Nat.le_refl _)).mono_ b4.size)
        have dbox_4 := Fbox_4.out.2
        have dbown_4 := Fbown_4.out.2
        have Fx_4 := Lib.hid (o4.form_)
        clear C4 b4 HB3 Fv_3 Fbox_3 Fown_3 Fbown_3 dbox_3 dbown_3 o4
        have C5 := Lib.hid (wide_any _ x _ w4 (Nat.le_refl _) Fx_4.out.bv_ (by have := HPS.out; omega))
        go_wp2_with (fail)
        refine (C5.out).mono ?_
        rintro e w5 ⟨g5, rfl, o5, b5⟩
        have HB5 := Lib.hid (HB4.out.trans (b5.mono HB4.out.size))
        have Fv_5 := Lib.hid ((Fv_4.out.below_ b5 (Nat.le_refl _)).mono_ b5.size)
        have Fbox_5 := Lib.hid ((Fbox_4.out.below_ b5 (Nat.le_refl _)).mono_ b5.size)
        have Fown_5 := Lib.hid ((Fown_4.out.below_ b5 (Nat.le_refl _)).mono_ b5.size)
        have Fbown_5 := Lib.hid ((Fbown_4.out.below_ b5 (Nat.le_refl _)).mono_ b5.size)
        have Fx_5 := Lib.hid ((Fx_4.out.below_ b5 (Nat.le_refl _)).mono_ b5.size)
        have dbox_5 := Fbox_5.out.2
        have dbown_5 := Fbown_5.out.2
        clear C5 b5 HB4 Fv_4 Fbox_4 Fown_4 Fbown_4 Fx_4 dbox_4 dbown_4
        have ht := o5.form_.take_ (k := x.length) (by simp)
        rw [List.take_left] at ht
        have Ft_5 : Hid (Lv yK w5 w5.heap.size (.slice (some ⟨g5, 0, none⟩) x.length (x.length + 3)) x) := ht.lv_
        have Ftw_5 : Hid (Lv yK w5 w5.heap.size (.slice (some ⟨g5, 0, none⟩) (x.length + 3) (x.length + 3)) (x ++ [7, 7, 7])) := o5.form_.lv_
        clear ht o5
        have C50 := Lib.hid (pvget_any x _ _ w5 Ft_5.out (Nat.le_refl _) HPS.out)
        rw [HX.out] at C50
        go_wp2_with (fail)
        refine (C50.out).mono ?_
        rintro e wa ⟨Aa, ca, rfl, oa, ba⟩
        obtain ⟨Ya, hYa⟩ : ∃ X, wa.alloc (.cells #[.slice Aa Q.length ca] 24) = X := ⟨_, rfl⟩
        obtain ⟨dba, hsza, hbba⟩ := boxed hYa
        have Oa : Hid (OwnL pK Ya w5.heap.size (.slice Aa Q.length ca) Q) := by unfold Hid; rw [← hYa]; exact oa.alloc_ _
        have Ba := Lib.hid (ba.trans (hbba.mono ba.size))
        have HAP : Hid (∀ k, (Value.slice Aa Q.length ca).ownBlock = some k → k < wa.heap.size) := fun k hk => (oa.lt_ k hk).2
        have hQl : Q.length ≤ 9223372036854775807 := by have := oa.form_.len_; simp only [maxLen] at this; omega
        have HAW : Hid (w5.heap.size ≤ wa.heap.size) := ba.size
        clear oa ba hbba hsza C50 dbox_5 dbown_5
        go_wp2
        go_loopw [12] (fun i wr => ∃ (k : Nat) (Q' : List Vo.Pc), k ≤ Q.length ∧ i = .int .i64 k ∧ Hid (Q'.length = Q.length ∧ OwnL pK wr w5.heap.size (.slice Aa Q.length ca) Q') ∧ wr.cell? ⟨wa.heap.size, 0, none⟩ = some (.slice Aa Q.length ca) ∧ Below w5.heap.size w5 wr) (fun i _ => Q.length - (intOf i).toNat)
        case atStart => exact ⟨0, Q, by omega, rfl, ⟨rfl, Oa.out⟩, dba, Ba.out⟩
        case round =>
          obtain ⟨k, Q', hk, rfl, HO, dr, hbr⟩ := hrel
          have HBr := Lib.hid hbr
          clear hbr dba
          by_cases hlt : k < Q.length
          · obtain ⟨hql, ho⟩ := HO.out
            obtain ⟨g, y, rfl, _, hbg, hyok, hy, hcell, hfro⟩ := ho.at_ (k := k) (by omega)
            obtain ⟨yj, yb, yl, yr, yk⟩ := y
            have hki : (k : Int) < (Q.length : Int) := by omega
            have hset := ho.setc_ (i := k) (j := 1) (u := .int .u8 1) hy (by show 1 < 5; omega) (x' := ⟨yj, 1, yl, yr, yk⟩) rfl ⟨by show 1 < 256; omega, hyok.2.1, hyok.2.2.1, hyok.2.2.2⟩
            have hc1 := hcell 1 _ rfl
            have hf1 := hfro (k * 5 + 1)
            rw [show pK.size = 5 from rfl] at hc1 hset
            obtain ⟨Z, hZ⟩ : ∃ Z, wr.setCell ⟨g, k * 5 + 1, none⟩ (.int .u8 1) = Z := ⟨_, rfl⟩
            rw [hZ] at hset
            have HO2 : Hid ((Q'.set k ⟨yj, 1, yl, yr, yk⟩).length = Q.length ∧ OwnL pK Z w5.heap.size (.slice (some ⟨g, 0, none⟩) Q.length ca) (Q'.set k ⟨yj, 1, yl, yr, yk⟩)) := ⟨by rw [List.length_set]; exact hql, hset.1⟩
            have hgl : g < wa.heap.size := HAP.out g rfl
            have dz : Z.cell? ⟨wa.heap.size, 0, none⟩ = some (.slice (some ⟨g, 0, none⟩) Q.length ca) := by
              have hh := hset.2.block wa.heap.size (by have := cell_lt dr; exact this) (fun e => by have := Option.some.inj e; omega)
              rw [← dr]; simp only [World.cell?, hh]
            have HBz : Hid (Below w5.heap.size w5 Z) := by unfold Hid; rw [← hZ]; exact HBr.out.setCell (p := ⟨g, k * 5 + 1, none⟩) hbg _
            have HK : Hid (k + 1 ≤ Q.length) := hlt
            have DZ := Lib.hid dz
            clear hset hcell hfro hql ho hy hyok hgl HO dz
            go_wp2
            go_roundw
            case rel => exact ⟨k + 1, _, HK.out, by go_num, HO2.out, DZ.out, HBz.out⟩
            case measure => simp [intOf]; omega
          · obtain rfl : k = Q.length := by omega
            have hki : ¬ (Q.length : Int) < (Q.length : Int) := by omega
            have b6 := HBr.out
            have HB6 := Lib.hid (HB5.out.trans (b6.mono HB5.out.size))
            have Fv_6 := Lib.hid ((Fv_5.out.below_ b6 (Nat.le_refl _)).mono_ b6.size)
            have Fbox_6 := Lib.hid ((Fbox_5.out.below_ b6 (Nat.le_refl _)).mono_ b6.size)
            have Fown_6 := Lib.hid ((Fown_5.out.below_ b6 (Nat.le_refl _)).mono_ b6.size)
            have Fbown_6 := Lib.hid ((Fbown_5.out.below_ b6 (Nat.le_refl _)).mono_ b6.size)
            have Fx_6 := Lib.hid ((Fx_5.out.below_ b6 (Nat.le_refl _)).mono_ b6.size)
            have Ft_6 := Lib.hid ((Ft_5.out.below_ b6 (Nat.le_refl _)).mono_ b6.size)
            have Ftw_6 := Lib.hid ((Ftw_5.out.below_ b6 (Nat.le_refl _)).mono_ b6.size)
            have dbox_6 := Fbox_6.out.2
            have dbown_6 := Fbown_6.out.2
            clear b6 hlt HO Oa HAP HAW HB5 Fv_5 Fbox_5 Fown_5 Fbown_5 Fx_5 Ft_5 Ftw_5
            have C7 := Lib.hid (pvget_any x _ _ wr Ft_6.out (Nat.le_refl _) HPS.out)
            rw [HX.out] at C7
            go_wp2_with (fail)
            refine (C7.out).mono ?_
            rintro e w7 ⟨A7, c7, rfl, o7, b7⟩
            have HB7 := Lib.hid (HB6.out.trans (b7.mono HB6.out.size))
            have Fv_7 := Lib.hid ((Fv_6.out.below_ b7 (Nat.le_refl _)).mono_ b7.size)
            have Fbox_7 := Lib.hid ((Fbox_6.out.below_ b7 (Nat.le_refl _)).mono_ b7.size)
            have Fown_7 := Lib.hid ((Fown_6.out.below_ b7 (Nat.le_refl _)).mono_ b7.size)
            have Fbown_7 := Lib.hid ((Fbown_6.out.below_ b7 (Nat.le_refl _)).mono_ b7.size)
            have Fx_7 := Lib.hid ((Fx_6.out.below_ b7 (Nat.le_refl _)).mono_ b7.size)
            have Ft_7 := Lib.hid ((Ft_6.out.below_ b7 (Nat.le_refl _)).mono_ b7.size)
            have Ftw_7 := Lib.hid ((Ftw_6.out.below_ b7 (Nat.le_refl _)).mono_ b7.size)
            have dbox_7 := Fbox_7.out.2
            have dbown_7 := Fbown_7.out.2
            have Fy_7 := Lib.hid (o7.form_)
            clear C7 b7 HB6 Fv_6 Fbox_6 Fown_6 Fbown_6 Fx_6 Ft_6 Ftw_6 dbox_6 dbown_6 o7
            obtain ⟨Y7, hY7⟩ : ∃ X, w7.alloc (.cells #[.slice A7 Q.length c7] 24) = X := ⟨_, rfl⟩
            obtain ⟨db7, hsz7, hbb7⟩ := boxed hY7
            have b8 := hbb7
            have HB8 := Lib.hid (HB7.out.trans (b8.mono HB7.out.size))
            have Fv_8 := Lib.hid ((Fv_7.out.below_ b8 (Nat.le_refl _)).mono_ b8.size)
            have Fbox_8 := Lib.hid ((Fbox_7.out.below_ b8 (Nat.le_refl _)).mono_ b8.size)
            have Fown_8 := Lib.hid ((Fown_7.out.below_ b8 (Nat.le_refl _)).mono_ b8.size)
            have Fbown_8 := Lib.hid ((Fbown_7.out.below_ b8 (Nat.le_refl _)).mono_ b8.size)
            have Fx_8 := Lib.hid ((Fx_7.out.below_ b8 (Nat.le_refl _)).mono_ b8.size)
            have Ft_8 := Lib.hid ((Ft_7.out.below_ b8 (Nat.le_refl _)).mono_ b8.size)
            have Ftw_8 := Lib.hid ((Ftw_7.out.below_ b8 (Nat.le_refl _)).mono_ b8.size)
            have Fy_8 := Lib.hid ((Fy_7.out.below_ b8 (Nat.le_refl _)).mono_ b8.size)
            have dbox_8 := Fbox_8.out.2
            have dbown_8 := Fbown_8.out.2
            clear b8 HB7 Fv_7 Fbox_7 Fown_7 Fbown_7 Fx_7 Ft_7 Ftw_7 Fy_7 dbox_7 dbown_7
            have Fby_8 : Hid (BoxAt Y7 Y7.heap.size w7.heap.size (.slice A7 Q.length c7)) := ⟨by omega, db7⟩
            have dby_8 := Fby_8.out.2
            clear hbb7 hsz7 db7
            have C9 := Lib.hid (rvget_any _ x _ Y7 Fx_8.out (Nat.le_refl _))
            rw [HX.out] at C9
            go_wp2_with (fail)
            refine (C9.out).mono ?_
            rintro e w9 ⟨A9, c9, rfl, o9, b9⟩
            have HB9 := Lib.hid (HB8.out.trans (b9.mono HB8.out.size))
            have Fv_9 := Lib.hid ((Fv_8.out.below_ b9 (Nat.le_refl _)).mono_ b9.size)
            have Fbox_9 := Lib.hid ((Fbox_8.out.below_ b9 (Nat.le_refl _)).mono_ b9.size)
            have Fown_9 := Lib.hid ((Fown_8.out.below_ b9 (Nat.le_refl _)).mono_ b9.size)
            have Fbown_9 := Lib.hid ((Fbown_8.out.below_ b9 (Nat.le_refl _)).mono_ b9.size)
            have Fx_9 := Lib.hid ((Fx_8.out.below_ b9 (Nat.le_refl _)).mono_ b9.size)
            have Ft_9 := Lib.hid ((Ft_8.out.below_ b9 (Nat.le_refl _)).mono_ b9.size)
            have Ftw_9 := Lib.hid ((Ftw_8.out.below_ b9 (Nat.le_refl _)).mono_ b9.size)
            have Fy_9 := Lib.hid ((Fy_8.out.below_ b9 (Nat.le_refl _)).mono_ b9.size)
            have Fby_9 := Lib.hid ((Fby_8.out.below_ b9 (Nat.le_refl _)).mono_ b9.size)
            have dbox_9 := Fbox_9.out.2
            have dbown_9 := Fbown_9.out.2
            have dby_9 := Fby_9.out.2
            have Fz_9 := Lib.hid (o9.form_)
            clear C9 b9 HB8 Fv_8 Fbox_8 Fown_8 Fbown_8 Fx_8 Ft_8 Ftw_8 Fy_8 Fby_8 dbox_8 dbown_8 dby_8 o9
            obtain ⟨Y9, hY9⟩ : ∃ X, w9.alloc (.cells #[.slice A9 Q.length c9] 24) = X := ⟨_, rfl⟩
            obtain ⟨db9, hsz9, hbb9⟩ := boxed hY9
            have b10 := hbb9
            have HB10 := Lib.hid (HB9.out.trans (b10.mono HB9.out.size))
            have Fv_10 := Lib.hid ((Fv_9.out.below_ b10 (Nat.le_refl _)).mono_ b10.size)
            have Fbox_10 := Lib.hid ((Fbox_9.out.below_ b10 (Nat.le_refl _)).mono_ b10.size)
            have Fown_10 := Lib.hid ((Fown_9.out.below_ b10 (Nat.le_refl _)).mono_ b10.size)
            have Fbown_10 := Lib.hid ((Fbown_9.out.below_ b10 (Nat.le_refl _)).mono_ b10.size)
            have Fx_10 := Lib.hid ((Fx_9.out.below_ b10 (Nat.le_refl _)).mono_ b10.size)
            have Ft_10 := Lib.hid ((Ft_9.out.below_ b10 (Nat.le_refl _)).mono_ b10.size)
            have Ftw_10 := Lib.hid ((Ftw_9.out.below_ b10 (Nat.le_refl _)).mono_ b10.size)
            have Fy_10 := Lib.hid ((Fy_9.out.below_ b10 (Nat.le_refl _)).mono_ b10.size)
            have Fby_10 := Lib.hid ((Fby_9.out.below_ b10 (Nat.le_refl _)).mono_ b10.size)
            have Fz_10 := Lib.hid ((Fz_9.out.below_ b10 (Nat.le_refl _)).mono_ b10.size)
            have dbox_10 := Fbox_10.out.2
            have dbown_10 := Fbown_10.out.2
            have dby_10 := Fby_10.out.2
            clear b10 HB9 Fv_9 Fbox_9 Fown_9 Fbown_9 Fx_9 Ft_9 Ftw_9 Fy_9 Fby_9 Fz_9 dbox_9 dbown_9 dby_9
            have Fbz_10 : Hid (BoxAt Y9 Y9.heap.size w9.heap.size (.slice A9 Q.length c9)) := ⟨by omega, db9⟩
            have dbz_10 := Fbz_10.out.2
            clear hbb9 hsz9 db9
            clear Ft_10
            have C11 := Lib.hid (voc_any l0 l0 _ _ _ _ Y9 Fown_10.out Fv_10.out (Nat.le_refl _) (Nat.le_refl _))
            simp only [decide_true] at C11
            go_wp2_with (fail)
            refine (C11.out).mono ?_
            rintro e w11 ⟨rfl, b11⟩
            have HB11 := Lib.hid (HB10.out.trans (b11.mono HB10.out.size))
            have Fv_11 := Lib.hid ((Fv_10.out.below_ b11 (Nat.le_refl _)).mono_ b11.size)
            have Fbox_11 := Lib.hid ((Fbox_10.out.below_ b11 (Nat.le_refl _)).mono_ b11.size)
            have Fown_11 := Lib.hid ((Fown_10.out.below_ b11 (Nat.le_refl _)).mono_ b11.size)
            have Fbown_11 := Lib.hid ((Fbown_10.out.below_ b11 (Nat.le_refl _)).mono_ b11.size)
            have Fx_11 := Lib.hid ((Fx_10.out.below_ b11 (Nat.le_refl _)).mono_ b11.size)
            have Ftw_11 := Lib.hid ((Ftw_10.out.below_ b11 (Nat.le_refl _)).mono_ b11.size)
            have Fy_11 := Lib.hid ((Fy_10.out.below_ b11 (Nat.le_refl _)).mono_ b11.size)
            have Fby_11 := Lib.hid ((Fby_10.out.below_ b11 (Nat.le_refl _)).mono_ b11.size)
            have Fz_11 := Lib.hid ((Fz_10.out.below_ b11 (Nat.le_refl _)).mono_ b11.size)
            have Fbz_11 := Lib.hid ((Fbz_10.out.below_ b11 (Nat.le_refl _)).mono_ b11.size)
            have dbox_11 := Fbox_11.out.2
            have dbown_11 := Fbown_11.out.2
            have dby_11 := Fby_11.out.2
            have dbz_11 := Fbz_11.out.2
            clear C11 b11 HB10 Fv_10 Fbox_10 Fown_10 Fbown_10 Fx_10 Ftw_10 Fy_10 Fby_10 Fz_10 Fbz_10 dbox_10 dbown_10 dby_10 dbz_10
            have C12 := Lib.hid (left_any g5 x _ _ _ w11 Ftw_11.out.bv_ Fx_11.out.bv_)
            go_wp2_with (fail)
            refine (C12.out).mono ?_
            rintro e w12 ⟨rfl, b12⟩
            have HB12 := Lib.hid (HB11.out.trans (b12.mono HB11.out.size))
            have Fv_12 := Lib.hid ((Fv_11.out.below_ b12 (Nat.le_refl _)).mono_ b12.size)
            have Fbox_12 := Lib.hid ((Fbox_11.out.below_ b12 (Nat.le_refl _)).mono_ b12.size)
            have Fown_12 := Lib.hid ((Fown_11.out.below_ b12 (Nat.le_refl _)).mono_ b12.size)
            have Fbown_12 := Lib.hid ((Fbown_11.out.below_ b12 (Nat.le_refl _)).mono_ b12.size)
            have Fx_12 := Lib.hid ((Fx_11.out.below_ b12 (Nat.le_refl _)).mono_ b12.size)
            have Ftw_12 := Lib.hid ((Ftw_11.out.below_ b12 (Nat.le_refl _)).mono_ b12.size)
            have Fy_12 := Lib.hid ((Fy_11.out.below_ b12 (Nat.le_refl _)).mono_ b12.size)
            have Fby_12 := Lib.hid ((Fby_11.out.below_ b12 (Nat.le_refl _)).mono_ b12.size)
            have Fz_12 := Lib.hid ((Fz_11.out.below_ b12 (Nat.le_refl _)).mono_ b12.size)
            have Fbz_12 := Lib.hid ((Fbz_11.out.below_ b12 (Nat.le_refl _)).mono_ b12.size)
            have dbox_12 := Fbox_12.out.2
            have dbown_12 := Fbown_12.out.2
            have dby_12 := Fby_12.out.2
            have dbz_12 := Fbz_12.out.2
            clear C12 b12 HB11 Fv_11 Fbox_11 Fown_11 Fbown_11 Fx_11 Ftw_11 Fy_11 Fby_11 Fz_11 Fbz_11 dbox_11 dbown_11 dby_11 dbz_11
            have C13 := Lib.hid (voc_any Q Q _ _ _ _ w12 Fy_12.out Fz_12.out (Nat.le_refl _) (Nat.le_refl _))
            simp only [decide_true] at C13
            go_wp2_with (fail)
            refine (C13.out).mono ?_
            rintro e w13 ⟨rfl, b13⟩
            have HB13 := Lib.hid (HB12.out.trans (b13.mono HB12.out.size))
            have Fv_13 := Lib.hid ((Fv_12.out.below_ b13 (Nat.le_refl _)).mono_ b13.size)
            have Fbox_13 := Lib.hid ((Fbox_12.out.below_ b13 (Nat.le_refl _)).mono_ b13.size)
            have Fown_13 := Lib.hid ((Fown_12.out.below_ b13 (Nat.le_refl _)).mono_ b13.size)
            have Fbown_13 := Lib.hid ((Fbown_12.out.below_ b13 (Nat.le_refl _)).mono_ b13.size)
            have Fx_13 := Lib.hid ((Fx_12.out.below_ b13 (Nat.le_refl _)).mono_ b13.size)
            have Ftw_13 := Lib.hid ((Ftw_12.out.below_ b13 (Nat.le_refl _)).mono_ b13.size)
            have Fy_13 := Lib.hid ((Fy_12.out.below_ b13 (Nat.le_refl _)).mono_ b13.size)
            have Fby_13 := Lib.hid ((Fby_12.out.below_ b13 (Nat.le_refl _)).mono_ b13.size)
            have Fz_13 := Lib.hid ((Fz_12.out.below_ b13 (Nat.le_refl _)).mono_ b13.size)
            have Fbz_13 := Lib.hid ((Fbz_12.out.below_ b13 (Nat.le_refl _)).mono_ b13.size)
            have dbox_13 := Fbox_13.out.2
            have dbown_13 := Fbown_13.out.2
            have dby_13 := Fby_13.out.2
            have dbz_13 := Fbz_13.out.2
            clear C13 b13 HB12 Fv_12 Fbox_12 Fown_12 Fbown_12 Fx_12 Ftw_12 Fy_12 Fby_12 Fz_12 Fbz_12 dbox_12 dbown_12 dby_12 dbz_12
            clear Fown_13
            clear Fv_13
            clear Ftw_13
            clear Fx_13
            clear Fy_13
            clear Fz_13
            have C14 := Lib.hid (works_vf w13)
            go_wp2_with (fail)
            refine (C14.out).mono ?_
            rintro e w14 ⟨rfl, b14⟩
            have HB14 := Lib.hid (HB13.out.trans (b14.mono HB13.out.size))
            have Fbox_14 := Lib.hid ((Fbox_13.out.below_ b14 (Nat.le_refl _)).mono_ b14.size)
            have Fbown_14 := Lib.hid ((Fbown_13.out.below_ b14 (Nat.le_refl _)).mono_ b14.size)
            have Fby_14 := Lib.hid ((Fby_13.out.below_ b14 (Nat.le_refl _)).mono_ b14.size)
            have Fbz_14 := Lib.hid ((Fbz_13.out.below_ b14 (Nat.le_refl _)).mono_ b14.size)
            have dbox_14 := Fbox_14.out.2
            have dbown_14 := Fbown_14.out.2
            have dby_14 := Fby_14.out.2
            have dbz_14 := Fbz_14.out.2
            clear C14 b14 HB13 Fbox_13 Fbown_13 Fby_13 Fbz_13 dbox_13 dbown_13 dby_13 dbz_13
            go_wp2
            go_ret
            exact ⟨rfl, HB14.out⟩
      · skip
        have HV : Hid (Vf.putE l0 = ([], 11)) := if_neg hmay
        have HPS := HL1
        obtain ⟨⟨Q, T, E⟩, hx⟩ : ∃ r, Vf.getE l1 = r := ⟨_, rfl⟩
        have HX := Lib.hid hx
        clear hmay hx
        obtain ⟨W, hW⟩ : ∃ X, w.alloc (.cells #[v0] 24) = X := ⟨_, rfl⟩
        obtain ⟨db, hsz, hbb⟩ := boxed hW
        have HB0 := Lib.hid hbb
        have Fv_0 := Lib.hid ((h0.below_ hbb (Nat.le_refl _)).mono_ hbb.size)
        have Fbox_0 : Hid (BoxAt W W.heap.size w.heap.size v0) := ⟨by omega, db⟩
        obtain ⟨A, c, rfl, hc1, hc2, _, _⟩ := h0
        have hl0 : l0.length ≤ 9223372036854775807 := by simp only [maxLen] at hc2; omega
        have dbox_0 := Fbox_0.out.2
        clear hc1 hc2 hbb hsz db
        go_enter Try.func7, Try.ntmps7
        have C1 := Lib.hid (many_any l0 _ _ W Fv_0.out)
        rw [HM.out] at C1
        go_wp2_with (fail)
        refine (C1.out).mono ?_
        rintro e w1 ⟨rfl, b1⟩
        have HB1 := Lib.hid (HB0.out.trans (b1.mono HB0.out.size))
        have Fv_1 := Lib.hid ((Fv_0.out.below_ b1 (Nat.le_refl _)).mono_ b1.size)
        have Fbox_1 := Lib.hid ((Fbox_0.out.below_ b1 (Nat.le_refl _)).mono_ b1.size)
        have dbox_1 := Fbox_1.out.2
        clear C1 b1 HB0 Fv_0 Fbox_0 dbox_0
        have C2 := Lib.hid (copyvoc_any l0 _ _ w1 Fv_1.out (Nat.le_refl _) HP2.out)
        go_wp2_with (fail)
        refine (C2.out).mono ?_
        rintro e w2 ⟨A2, c2, rfl, o2, b2⟩
        have HB2 := Lib.hid (HB1.out.trans (b2.mono HB1.out.size))
        have Fv_2 := Lib.hid ((Fv_1.out.below_ b2 (Nat.le_refl _)).mono_ b2.size)
        have Fbox_2 := Lib.hid ((Fbox_1.out.below_ b2 (Nat.le_refl _)).mono_ b2.size)
        have dbox_2 := Fbox_2.out.2
        have Fown_2 := Lib.hid (o2.form_)
        clear C2 b2 HB1 Fv_1 Fbox_1 dbox_1 o2
        obtain ⟨Y2, hY2⟩ : ∃ X, w2.alloc (.cells #[.slice A2 l0.length c2] 24) = X := ⟨_, rfl⟩
        obtain ⟨db2, hsz2, hbb2⟩ := boxed hY2
        have b3 := hbb2
        have HB3 := Lib.hid (HB2.out.trans (b3.mono HB2.out.size))
        have Fv_3 := Lib.hid ((Fv_2.out.below_ b3 (Nat.le_refl _)).mono_ b3.size)
        have Fbox_3 := Lib.hid ((Fbox_2.out.below_ b3 (Nat.le_refl _)).mono_ b3.size)
        have Fown_3 := Lib.hid ((Fown_2.out.below_ b3 (Nat.le_refl _)).mono_ b3.size)
        have dbox_3 := Fbox_3.out.2
        clear b3 HB2 Fv_2 Fbox_2 Fown_2 dbox_2
        have Fbown_3 : Hid (BoxAt Y2 Y2.heap.size w2.heap.size (.slice A2 l0.length c2)) := ⟨by omega, db2⟩
        have dbown_3 := Fbown_3.out.2
        clear hbb2 hsz2 db2
        have C4 := Lib.hid (pvput_any l0 _ _ Y2 Fown_3.out (Nat.le_refl _) HP.out)
        rw [HV.out] at C4
        go_wp2_with (fail)
        refine (C4.out).mono ?_
        rintro e w4 ⟨A4, c4, rfl, o4, b4⟩
        have HB4 := Lib.hid (HB3.out.trans (b4.mono HB3.out.size))
        have Fv_4 := Lib.hid ((Fv_3.out.below_ b4 (Nat.le_refl _)).mono_ b4.size)
        have Fbox_4 := Lib.hid ((Fbox_3.out.below_ b4 (Nat.le_refl _)).mono_ b4.size)
        have Fown_4 := Lib.hid ((Fown_3.out.below_ b4 (Nat.le_refl _)).mono_ b4.size)
        have Fbown_4 := Lib.hid ((Fbown_3.out.below_ b4 (Nat.le_refl _)).mono_ b4.size)
        have dbox_4 := Fbox_4.out.2
        have dbown_4 := Fbown_4.out.2
        have Fe_4 := Lib.hid (o4.form_)
        clear C4 b4 HB3 Fv_3 Fbox_3 Fown_3 Fbown_3 dbox_3 dbown_3 o4
        clear Fe_4
        have Fx_4 := Lib.hid ((H1.out.below_ HB4.out (Nat.le_refl _)).mono_ HB4.out.size)
        have C5 := Lib.hid (wide_any _ l1 _ w4 (Nat.le_refl _) Fx_4.out.bv_ (by have := HPS.out; omega))
        go_wp2_with (fail)
        refine (C5.out).mono ?_
        rintro e w5 ⟨g5, rfl, o5, b5⟩
        have HB5 := Lib.hid (HB4.out.trans (b5.mono HB4.out.size))
        have Fv_5 := Lib.hid ((Fv_4.out.below_ b5 (Nat.le_refl _)).mono_ b5.size)
        have Fbox_5 := Lib.hid ((Fbox_4.out.below_ b5 (Nat.le_refl _)).mono_ b5.size)
        have Fown_5 := Lib.hid ((Fown_4.out.below_ b5 (Nat.le_refl _)).mono_ b5.size)
        have Fbown_5 := Lib.hid ((Fbown_4.out.below_ b5 (Nat.le_refl _)).mono_ b5.size)
        have Fx_5 := Lib.hid ((Fx_4.out.below_ b5 (Nat.le_refl _)).mono_ b5.size)
        have dbox_5 := Fbox_5.out.2
        have dbown_5 := Fbown_5.out.2
        clear C5 b5 HB4 Fv_4 Fbox_4 Fown_4 Fbown_4 Fx_4 dbox_4 dbown_4
        have ht := o5.form_.take_ (k := l1.length) (by simp)
        rw [List.take_left] at ht
        have Ft_5 : Hid (Lv yK w5 w5.heap.size (.slice (some ⟨g5, 0, none⟩) l1.length (l1.length + 3)) l1) := ht.lv_
        have Ftw_5 : Hid (Lv yK w5 w5.heap.size (.slice (some ⟨g5, 0, none⟩) (l1.length + 3) (l1.length + 3)) (l1 ++ [7, 7, 7])) := o5.form_.lv_
        clear ht o5
        have C50 := Lib.hid (pvget_any l1 _ _ w5 Ft_5.out (Nat.le_refl _) HPS.out)
        rw [HX.out] at C50
        go_wp2_with (fail)
        refine (C50.out).mono ?_
        rintro e wa ⟨Aa, ca, rfl, oa, ba⟩
        obtain ⟨Ya, hYa⟩ : ∃ X, wa.alloc (.cells #[.slice Aa Q.length ca] 24) = X := ⟨_, rfl⟩
        obtain ⟨dba, hsza, hbba⟩ := boxed hYa
        have Oa : Hid (OwnL pK Ya w5.heap.size (.slice Aa Q.length ca) Q) := by unfold Hid; rw [← hYa]; exact oa.alloc_ _
        have Ba := Lib.hid (ba.trans (hbba.mono ba.size))
        have HAP : Hid (∀ k, (Value.slice Aa Q.length ca).ownBlock = some k → k < wa.heap.size) := fun k hk => (oa.lt_ k hk).2
        have hQl : Q.length ≤ 9223372036854775807 := by have := oa.form_.len_; simp only [maxLen] at this; omega
        have HAW : Hid (w5.heap.size ≤ wa.heap.size) := ba.size
        clear oa ba hbba hsza C50 dbox_5 dbown_5
        go_wp2
        go_loopw [12] (fun i wr => ∃ (k : Nat) (Q' : List Vo.Pc), k ≤ Q.length ∧ i = .int .i64 k ∧ Hid (Q'.length = Q.length ∧ OwnL pK wr w5.heap.size (.slice Aa Q.length ca) Q') ∧ wr.cell? ⟨wa.heap.size, 0, none⟩ = some (.slice Aa Q.length ca) ∧ Below w5.heap.size w5 wr) (fun i _ => Q.length - (intOf i).toNat)
        case atStart => exact ⟨0, Q, by omega, rfl, ⟨rfl, Oa.out⟩, dba, Ba.out⟩
        case round =>
          obtain ⟨k, Q', hk, rfl, HO, dr, hbr⟩ := hrel
          have HBr := Lib.hid hbr
          clear hbr dba
          by_cases hlt : k < Q.length
          · obtain ⟨hql, ho⟩ := HO.out
            obtain ⟨g, y, rfl, _, hbg, hyok, hy, hcell, hfro⟩ := ho.at_ (k := k) (by omega)
            obtain ⟨yj, yb, yl, yr, yk⟩ := y
            have hki : (k : Int) < (Q.length : Int) := by omega
            have hset := ho.setc_ (i := k) (j := 1) (u := .int .u8 1) hy (by show 1 < 5; omega) (x' := ⟨yj, 1, yl, yr, yk⟩) rfl ⟨by show 1 < 256; omega, hyok.2.1, hyok.2.2.1, hyok.2.2.2⟩
            have hc1 := hcell 1 _ rfl
            have hf1 := hfro (k * 5 + 1)
            rw [show pK.size = 5 from rfl] at hc1 hset
            obtain ⟨Z, hZ⟩ : ∃ Z, wr.setCell ⟨g, k * 5 + 1, none⟩ (.int .u8 1) = Z := ⟨_, rfl⟩
            rw [hZ] at hset
            have HO2 : Hid ((Q'.set k ⟨yj, 1, yl, yr, yk⟩).length = Q.length ∧ OwnL pK Z w5.heap.size (.slice (some ⟨g, 0, none⟩) Q.length ca) (Q'.set k ⟨yj, 1, yl, yr, yk⟩)) := ⟨by rw [List.length_set]; exact hql, hset.1⟩
            have hgl : g < wa.heap.size := HAP.out g rfl
            have dz : Z.cell? ⟨wa.heap.size, 0, none⟩ = some (.slice (some ⟨g, 0, none⟩) Q.length ca) := by
              have hh := hset.2.block wa.heap.size (by have := cell_lt dr; exact this) (fun e => by have := Option.some.inj e; omega)
              rw [← dr]; simp only [World.cell?, hh]
            have HBz : Hid (Below w5.heap.size w5 Z) := by unfold Hid; rw [← hZ]; exact HBr.out.setCell (p := ⟨g, k * 5 + 1, none⟩) hbg _
            have HK : Hid (k + 1 ≤ Q.length) := hlt
            have DZ := Lib.hid dz
            clear hset hcell hfro hql ho hy hyok hgl HO dz
            go_wp2
            go_roundw
            case rel => exact ⟨k + 1, _, HK.out, by go_num, HO2.out, DZ.out, HBz.out⟩
            case measure => simp [intOf]; omega
          · obtain rfl : k = Q.length := by omega
            have hki : ¬ (Q.length : Int) < (Q.length : Int) := by omega
            have b6 := HBr.out
            have HB6 := Lib.hid (HB5.out.trans (b6.mono HB5.out.size))
            have Fv_6 := Lib.hid ((Fv_5.out.below_ b6 (Nat.le_refl _)).mono_ b6.size)
            have Fbox_6 := Lib.hid ((Fbox_5.out.below_ b6 (Nat.le_refl _)).mono_ b6.size)
            have Fown_6 := Lib.hid ((Fown_5.out.below_ b6 (Nat.le_refl _)).mono_ b6.size)
            have Fbown_6 := Lib.hid ((Fbown_5.out.below_ b6 (Nat.le_refl _)).mono_ b6.size)
            have Fx_6 := Lib.hid ((Fx_5.out.below_ b6 (Nat.le_refl _)).mono_ b6.size)
            have Ft_6 := Lib.hid ((Ft_5.out.below_ b6 (Nat.le_refl _)).mono_ b6.size)
            have Ftw_6 := Lib.hid ((Ftw_5.out.below_ b6 (Nat.le_refl _)).mono_ b6.size)
            have dbox_6 := Fbox_6.out.2
            have dbown_6 := Fbown_6.out.2
            clear b6 hlt HO Oa HAP HAW HB5 Fv_5 Fbox_5 Fown_5 Fbown_5 Fx_5 Ft_5 Ftw_5
            have C7 := Lib.hid (pvget_any l1 _ _ wr Ft_6.out (Nat.le_refl _) HPS.out)
            rw [HX.out] at C7
            go_wp2_with (fail)
            refine (C7.out).mono ?_
            rintro e w7 ⟨A7, c7, rfl, o7, b7⟩
            have HB7 := Lib.hid (HB6.out.trans (b7.mono HB6.out.size))
            have Fv_7 := Lib.hid ((Fv_6.out.below_ b7 (Nat.le_refl _)).mono_ b7.size)
            have Fbox_7 := Lib.hid ((Fbox_6.out.below_ b7 (Nat.le_refl _)).mono_ b7.size)
            have Fown_7 := Lib.hid ((Fown_6.out.below_ b7 (Nat.le_refl _)).mono_ b7.size)
            have Fbown_7 := Lib.hid ((Fbown_6.out.below_ b7 (Nat.le_refl _)).mono_ b7.size)
            have Fx_7 := Lib.hid ((Fx_6.out.below_ b7 (Nat.le_refl _)).mono_ b7.size)
            have Ft_7 := Lib.hid ((Ft_6.out.below_ b7 (Nat.le_refl _)).mono_ b7.size)
            have Ftw_7 := Lib.hid ((Ftw_6.out.below_ b7 (Nat.le_refl _)).mono_ b7.size)
            have dbox_7 := Fbox_7.out.2
            have dbown_7 := Fbown_7.out.2
            have Fy_7 := Lib.hid (o7.form_)
            clear C7 b7 HB6 Fv_6 Fbox_6 Fown_6 Fbown_6 Fx_6 Ft_6 Ftw_6 dbox_6 dbown_6 o7
            obtain ⟨Y7, hY7⟩ : ∃ X, w7.alloc (.cells #[.slice A7 Q.length c7] 24) = X := ⟨_, rfl⟩
            obtain ⟨db7, hsz7, hbb7⟩ := boxed hY7
            have b8 := hbb7
            have HB8 := Lib.hid (HB7.out.trans (b8.mono HB7.out.size))
            have Fv_8 := Lib.hid ((Fv_7.out.below_ b8 (Nat.le_refl _)).mono_ b8.size)
            have Fbox_8 := Lib.hid ((Fbox_7.out.below_ b8 (Nat.le_refl _)).mono_ b8.size)
            have Fown_8 := Lib.hid ((Fown_7.out.below_ b8 (Nat.le_refl _)).mono_ b8.size)
            have Fbown_8 := Lib.hid ((Fbown_7.out.below_ b8 (Nat.le_refl _)).mono_ b8.size)
            have Fx_8 := Lib.hid ((Fx_7.out.below_ b8 (Nat.le_refl _)).mono_ b8.size)
            have Ft_8 := Lib.hid ((Ft_7.out.below_ b8 (Nat.le_refl _)).mono_ b8.size)
            have Ftw_8 := Lib.hid ((Ftw_7.out.below_ b8 (Nat.le_refl _)).mono_ b8.size)
            have Fy_8 := Lib.hid ((Fy_7.out.below_ b8 (Nat.le_refl _)).mono_ b8.size)
            have dbox_8 := Fbox_8.out.2
            have dbown_8 := Fbown_8.out.2
            clear b8 HB7 Fv_7 Fbox_7 Fown_7 Fbown_7 Fx_7 Ft_7 Ftw_7 Fy_7 dbox_7 dbown_7
            have Fby_8 : Hid (BoxAt Y7 Y7.heap.size w7.heap.size (.slice A7 Q.length c7)) := ⟨by omega, db7⟩
            have dby_8 := Fby_8.out.2
            clear hbb7 hsz7 db7
            have C9 := Lib.hid (rvget_any _ l1 _ Y7 Fx_8.out (Nat.le_refl _))
            rw [HX.out] at C9
            go_wp2_with (fail)
            refine (C9.out).mono ?_
            rintro e w9 ⟨A9, c9, rfl, o9, b9⟩
            have HB9 := Lib.hid (HB8.out.trans (b9.mono HB8.out.size))
            have Fv_9 := Lib.hid ((Fv_8.out.below_ b9 (Nat.le_refl _)).mono_ b9.size)
            have Fbox_9 := Lib.hid ((Fbox_8.out.below_ b9 (Nat.le_refl _)).mono_ b9.size)
            have Fown_9 := Lib.hid ((Fown_8.out.below_ b9 (Nat.le_refl _)).mono_ b9.size)
            have Fbown_9 := Lib.hid ((Fbown_8.out.below_ b9 (Nat.le_refl _)).mono_ b9.size)
            have Fx_9 := Lib.hid ((Fx_8.out.below_ b9 (Nat.le_refl _)).mono_ b9.size)
            have Ft_9 := Lib.hid ((Ft_8.out.below_ b9 (Nat.le_refl _)).mono_ b9.size)
            have Ftw_9 := Lib.hid ((Ftw_8.out.below_ b9 (Nat.le_refl _)).mono_ b9.size)
            have Fy_9 := Lib.hid ((Fy_8.out.below_ b9 (Nat.le_refl _)).mono_ b9.size)
            have Fby_9 := Lib.hid ((Fby_8.out.below_ b9 (Nat.le_refl _)).mono_ b9.size)
            have dbox_9 := Fbox_9.out.2
            have dbown_9 := Fbown_9.out.2
            have dby_9 := Fby_9.out.2
            have Fz_9 := Lib.hid (o9.form_)
            clear C9 b9 HB8 Fv_8 Fbox_8 Fown_8 Fbown_8 Fx_8 Ft_8 Ftw_8 Fy_8 Fby_8 dbox_8 dbown_8 dby_8 o9
            obtain ⟨Y9, hY9⟩ : ∃ X, w9.alloc (.cells #[.slice A9 Q.length c9] 24) = X := ⟨_, rfl⟩
            obtain ⟨db9, hsz9, hbb9⟩ := boxed hY9
            have b10 := hbb9
            have HB10 := Lib.hid (HB9.out.trans (b10.mono HB9.out.size))
            have Fv_10 := Lib.hid ((Fv_9.out.below_ b10 (Nat.le_refl _)).mono_ b10.size)
            have Fbox_10 := Lib.hid ((Fbox_9.out.below_ b10 (Nat.le_refl _)).mono_ b10.size)
            have Fown_10 := Lib.hid ((Fown_9.out.below_ b10 (Nat.le_refl _)).mono_ b10.size)
            have Fbown_10 := Lib.hid ((Fbown_9.out.below_ b10 (Nat.le_refl _)).mono_ b10.size)
            have Fx_10 := Lib.hid ((Fx_9.out.below_ b10 (Nat.le_refl _)).mono_ b10.size)
            have Ft_10 := Lib.hid ((Ft_9.out.below_ b10 (Nat.le_refl _)).mono_ b10.size)
            have Ftw_10 := Lib.hid ((Ftw_9.out.below_ b10 (Nat.le_refl _)).mono_ b10.size)
            have Fy_10 := Lib.hid ((Fy_9.out.below_ b10 (Nat.le_refl _)).mono_ b10.size)
            have Fby_10 := Lib.hid ((Fby_9.out.below_ b10 (Nat.le_refl _)).mono_ b10.size)
            have Fz_10 := Lib.hid ((Fz_9.out.below_ b10 (Nat.le_refl _)).mono_ b10.size)
            have dbox_10 := Fbox_10.out.2
            have dbown_10 := Fbown_10.out.2
            have dby_10 := Fby_10.out.2
            clear b10 HB9 Fv_9 Fbox_9 Fown_9 Fbown_9 Fx_9 Ft_9 Ftw_9 Fy_9 Fby_9 Fz_9 dbox_9 dbown_9 dby_9
            have Fbz_10 : Hid (BoxAt Y9 Y9.heap.size w9.heap.size (.slice A9 Q.length c9)) := ⟨by omega, db9⟩
            have dbz_10 := Fbz_10.out.2
            clear hbb9 hsz9 db9
            clear Ft_10
            have C11 := Lib.hid (voc_any l0 l0 _ _ _ _ Y9 Fown_10.out Fv_10.out (Nat.le_refl _) (Nat.le_refl _))
            simp only [decide_true] at C11
            go_wp2_with (fail)
            refine (C11.out).mono ?_
            rintro e w11 ⟨rfl, b11⟩
            have HB11 := Lib.hid (HB10.out.trans (b11.mono HB10.out.size))
            have Fv_11 := Lib.hid ((Fv_10.out.below_ b11 (Nat.le_refl _)).mono_ b11.size)
            have Fbox_11 := Lib.hid ((Fbox_10.out.below_ b11 (Nat.le_refl _)).mono_ b11.size)
            have Fown_11 := Lib.hid ((Fown_10.out.below_ b11 (Nat.le_refl _)).mono_ b11.size)
            have Fbown_11 := Lib.hid ((Fbown_10.out.below_ b11 (Nat.le_refl _)).mono_ b11.size)
            have Fx_11 := Lib.hid ((Fx_10.out.below_ b11 (Nat.le_refl _)).mono_ b11.size)
            have Ftw_11 := Lib.hid ((Ftw_10.out.below_ b11 (Nat.le_refl _)).mono_ b11.size)
            have Fy_11 := Lib.hid ((Fy_10.out.below_ b11 (Nat.le_refl _)).mono_ b11.size)
            have Fby_11 := Lib.hid ((Fby_10.out.below_ b11 (Nat.le_refl _)).mono_ b11.size)
            have Fz_11 := Lib.hid ((Fz_10.out.below_ b11 (Nat.le_refl _)).mono_ b11.size)
            have Fbz_11 := Lib.hid ((Fbz_10.out.below_ b11 (Nat.le_refl _)).mono_ b11.size)
            have dbox_11 := Fbox_11.out.2
            have dbown_11 := Fbown_11.out.2
            have dby_11 := Fby_11.out.2
            have dbz_11 := Fbz_11.out.2
            clear C11 b11 HB10 Fv_10 Fbox_10 Fown_10 Fbown_10 Fx_10 Ftw_10 Fy_10 Fby_10 Fz_10 Fbz_10 dbox_10 dbown_10 dby_10 dbz_10
            have C12 := Lib.hid (left_any g5 l1 _ _ _ w11 Ftw_11.out.bv_ Fx_11.out.bv_)
            go_wp2_with (fail)
            refine (C12.out).mono ?_
            rintro e w12 ⟨rfl, b12⟩
            have HB12 := Lib.hid (HB11.out.trans (b12.mono HB11.out.size))
            have Fv_12 := Lib.hid ((Fv_11.out.below_ b12 (Nat.le_refl _)).mono_ b12.size)
            have Fbox_12 := Lib.hid ((Fbox_11.out.below_ b12 (Nat.le_refl _)).mono_ b12.size)
            have Fown_12 := Lib.hid ((Fown_11.out.below_ b12 (Nat.le_refl _)).mono_ b12.size)
            have Fbown_12 := Lib.hid ((Fbown_11.out.below_ b12 (Nat.le_refl _)).mono_ b12.size)
            have Fx_12 := Lib.hid ((Fx_11.out.below_ b12 (Nat.le_refl _)).mono_ b12.size)
            have Ftw_12 := Lib.hid ((Ftw_11.out.below_ b12 (Nat.le_refl _)).mono_ b12.size)
            have Fy_12 := Lib.hid ((Fy_11.out.below_ b12 (Nat.le_refl _)).mono_ b12.size)
            have Fby_12 := Lib.hid ((Fby_11.out.below_ b12 (Nat.le_refl _)).mono_ b12.size)
            have Fz_12 := Lib.hid ((Fz_11.out.below_ b12 (Nat.le_refl _)).mono_ b12.size)
            have Fbz_12 := Lib.hid ((Fbz_11.out.below_ b12 (Nat.le_refl _)).mono_ b12.size)
            have dbox_12 := Fbox_12.out.2
            have dbown_12 := Fbown_12.out.2
            have dby_12 := Fby_12.out.2
            have dbz_12 := Fbz_12.out.2
            clear C12 b12 HB11 Fv_11 Fbox_11 Fown_11 Fbown_11 Fx_11 Ftw_11 Fy_11 Fby_11 Fz_11 Fbz_11 dbox_11 dbown_11 dby_11 dbz_11
            have C13 := Lib.hid (voc_any Q Q _ _ _ _ w12 Fy_12.out Fz_12.out (Nat.le_refl _) (Nat.le_refl _))
            simp only [decide_true] at C13
            go_wp2_with (fail)
            refine (C13.out).mono ?_
            rintro e w13 ⟨rfl, b13⟩
            have HB13 := Lib.hid (HB12.out.trans (b13.mono HB12.out.size))
            have Fv_13 := Lib.hid ((Fv_12.out.below_ b13 (Nat.le_refl _)).mono_ b13.size)
            have Fbox_13 := Lib.hid ((Fbox_12.out.below_ b13 (Nat.le_refl _)).mono_ b13.size)
            have Fown_13 := Lib.hid ((Fown_12.out.below_ b13 (Nat.le_refl _)).mono_ b13.size)
            have Fbown_13 := Lib.hid ((Fbown_12.out.below_ b13 (Nat.le_refl _)).mono_ b13.size)
            have Fx_13 := Lib.hid ((Fx_12.out.below_ b13 (Nat.le_refl _)).mono_ b13.size)
            have Ftw_13 := Lib.hid ((Ftw_12.out.below_ b13 (Nat.le_refl _)).mono_ b13.size)
            have Fy_13 := Lib.hid ((Fy_12.out.below_ b13 (Nat.le_refl _)).mono_ b13.size)
            have Fby_13 := Lib.hid ((Fby_12.out.below_ b13 (Nat.le_refl _)).mono_ b13.size)
            have Fz_13 := Lib.hid ((Fz_12.out.below_ b13 (Nat.le_refl _)).mono_ b13.size)
            have Fbz_13 := Lib.hid ((Fbz_12.out.below_ b13 (Nat.le_refl _)).mono_ b13.size)
            have dbox_13 := Fbox_13.out.2
            have dbown_13 := Fbown_13.out.2
            have dby_13 := Fby_13.out.2
            have dbz_13 := Fbz_13.out.2
            clear C13 b13 HB12 Fv_12 Fbox_12 Fown_12 Fbown_12 Fx_12 Ftw_12 Fy_12 Fby_12 Fz_12 Fbz_12 dbox_12 dbown_12 dby_12 dbz_12
            clear Fown_13
            clear Fv_13
            clear Ftw_13
            clear Fx_13
            clear Fy_13
            clear Fz_13
            have C14 := Lib.hid (works_vf w13)
            go_wp2_with (fail)
            refine (C14.out).mono ?_
            rintro e w14 ⟨rfl, b14⟩
            have HB14 := Lib.hid (HB13.out.trans (b14.mono HB13.out.size))
            have Fbox_14 := Lib.hid ((Fbox_13.out.below_ b14 (Nat.le_refl _)).mono_ b14.size)
            have Fbown_14 := Lib.hid ((Fbown_13.out.below_ b14 (Nat.le_refl _)).mono_ b14.size)
            have Fby_14 := Lib.hid ((Fby_13.out.below_ b14 (Nat.le_refl _)).mono_ b14.size)
            have Fbz_14 := Lib.hid ((Fbz_13.out.below_ b14 (Nat.le_refl _)).mono_ b14.size)
            have dbox_14 := Fbox_14.out.2
            have dbown_14 := Fbown_14.out.2
            have dby_14 := Fby_14.out.2
            have dbz_14 := Fbz_14.out.2
            clear C14 b14 HB13 Fbox_13 Fbown_13 Fby_13 Fbz_13 dbox_13 dbown_13 dby_13 dbz_13
            go_wp2
            go_ret
            exact ⟨rfl, HB14.out⟩

/-! ### From the walk to the row -/
set_option maxRecDepth 100000 in
theorem lifted (os : Os) (started : os.Started) (H : Type) (enc : TypeId × Value → H) :
    ReturnsInHanded {} Try.checked os 7 .any (Rows.vocfileFreshSpec.pre6 enc Try.prog Try.f7 Rows.vocfileFreshRow.domain false) (Rows.vocfileFreshSpec.post enc Try.prog Try.f7 false true false false) := by
  refine returnsInHanded_of_change (C := Try.checked) own started (by kernel_rfl) Try.func7
    (ChangeSpec.witness6 (enc := enc) (C := Try.checked) false ⟨#[], #[.agg #[.slice none 0 0], .slice none 0 0], []⟩ 8 (by kernel_rfl) (by kernel_rfl) (by kernel_rfl) (by kernel_rfl)) ?_
  intro W base args ds gs before hval0 hW hcnd _
  have hval : ∀ (j : Nat) t v, Try.f7.params[j]? = some t → args[j]? = some v → Value.okWide Try.prog W .any base t v := hval0
  have hW' := hW
  obtain ⟨p, q, hA0, hV, rfl, hfz, hnd⟩ := hW
  have hA : DataW.TrodAll enc Try.prog W 0 (fun _ => true) true Try.f7.params.toList args.toList ds p := hA0
  rw [Try.params7] at hA hval
  obtain ⟨v0, vs0, d0, ds0, p0, q0, hargs, rfl, rfl, h0, r0⟩ := trodAll_cons hA
  obtain ⟨v1, vs1, d1, ds1, p1, q1, rfl, rfl, rfl, h1, r1⟩ := trodAll_cons r0
  obtain ⟨rfl, rfl, rfl⟩ := trodAll_nil r1
  obtain rfl : args = #[v0, v1] := by cases args; simp_all
  obtain ⟨rfl, rfl⟩ := trodVars_none hV
  have k0 := h0
  have lt0 : ∀ x ∈ p0, x.block < W.heap.size := by obtain ⟨m, hm⟩ := k0; exact DataW.trod_lt m _ _ _ hm
  obtain ⟨u0, l0, rfl, hb0⟩ := voc_in (hval 0 24 v0 rfl rfl) h0
  obtain ⟨a1, len1, cap1, rfl⟩ := okWide_slice Try.underlying27 (hval 1 27 v1 rfl rfl)
  have k1 := h1
  have lt1 : ∀ x ∈ p1, x.block < W.heap.size := by obtain ⟨m, hm⟩ := k1; exact DataW.trod_lt m _ _ _ hm
  obtain ⟨l1, len_1, hb1⟩ : ∃ l : List Nat, l.length = len1 ∧ Lv yK W W.heap.size (.slice a1 len1 cap1) l := by
    obtain ⟨fuel, hf⟩ := h1
    exact octs_in hf
  clear hA0 hval0
  refine (walk W u0 l0 hb0 (.slice a1 len1 cap1) l1 hb1).mono fun e W' ⟨he, bel⟩ => ?_
  subst he
  exact ⟨_, rfl, _, _, _, [], _, [], hW', trodAll_mk1 (shut_bool Try.underlying4 _), (trodAll_cons_mk (Below.trod laidOut (by kernel_rfl) (of_decide_eq_true (by kernel_rfl)) k0 bel lt0) (trodAll_cons_mk (Below.trod laidOut (by kernel_rfl) (of_decide_eq_true (by kernel_rfl)) k1 bel lt1) trodAll_mk0)), rfl, bel.frame _, fun h => by cases h⟩

theorem proved : Rows.VocfileFreshSaid :=
  OpenClaim.holds_of_wide 7 Try.f7 rfl rfl rfl rfl rfl rfl rfl ⟨rfl, rfl, rfl, rfl, rfl⟩ rfl rfl rfl rfl rfl (by kernel_rfl) Try.func7 (by kernel_rfl)
    (of_decide_eq_true (by kernel_rfl)) (by unfold Func.isWrapper; first | (rw [if_pos (by decide +kernel)]; kernel_rfl) | (rw [if_neg (by decide +kernel)]; exact ⟨rfl, rfl⟩))
    (fun os started H enc _ => lifted os started H enc)

end Go.Proofs.Ytglkhgchbnkekaa.vocfileFresh
