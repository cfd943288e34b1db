/-
  VocfileSpoilt: a vocabulary's file that is cut, or of which one byte is another one, is none. No condition.
-/
import Derived.Test.YtglkhgchbnkekaaPk10
import Derived.Test.YtglkhgchbnkekaaPk37
import Derived.Test.YtglkhgchbnkekaaPk14
import Derived.Test.YtglkhgchbnkekaaPk08
import Derived.Test.YtglkhgchbnkekaaPk06
import Derived.Test.YtglkhgchbnkekaaPk38
namespace Go.Proofs.Ytglkhgchbnkekaa.vocfileSpoilt
open Go.ChangeShapes Go.WideShapes Go.ChangeAt Go.RowKit
open Go.ChangeMaps (open_string shut_string)
set_option linter.unusedVariables false

set_option maxHeartbeats 4000000 in
set_option maxRecDepth 100000 in
theorem walk (w : World) (v0 : Value) (l0 : List Vo.Pc) (h0 : Lv pK w w.heap.size v0 l0) (a1 : Int) (w1 : (Lit.int .i64 a1).wf = true) (n2 : Nat) (b2 : n2 < 256) (a3 : Bool) :
    Calls Try.prog 6 #[.agg #[v0], .int .i64 a1, .int .u8 n2, .bool a3] w (IsBool true w) := by
  have HN2 := Lib.hid b2
  clear w1
  by_cases hm : 700 < l0.length
  · skip
    have HM : Hid (decide (700 < l0.length) = true) := by unfold Hid; simpa using hm
    clear hm
    obtain ⟨W, hW⟩ : ∃ X, w.alloc (.cells #[v0] 24) = X := ⟨_, rfl⟩
    obtain ⟨db, hsz, hbb⟩ := boxed hW
    have HB0 := Lib.hid hbb
    have Fv_0 := Lib.hid ((h0.below_ hbb (Nat.le_refl _)).mono_ hbb.size)
    have Fbox_0 : Hid (BoxAt W W.heap.size w.heap.size v0) := ⟨by omega, db⟩
    obtain ⟨A, c, rfl, hc1, hc2, _, _⟩ := h0
    have hl0 : l0.length ≤ 9223372036854775807 := by simp only [maxLen] at hc2; omega
    have dbox_0 := Fbox_0.out.2
    clear hc1 hc2 hbb hsz db
    go_enter Try.func6, Try.ntmps6
    have C1 := Lib.hid (many_any l0 _ _ W Fv_0.out)
    rw [HM.out] at C1
    go_wp2_with (fail)
    refine (C1.out).mono ?_
    rintro e w1 ⟨rfl, b1⟩
    have HB1 := Lib.hid (HB0.out.trans (b1.mono HB0.out.size))
    have Fv_1 := Lib.hid ((Fv_0.out.below_ b1 (Nat.le_refl _)).mono_ b1.size)
    have Fbox_1 := Lib.hid ((Fbox_0.out.below_ b1 (Nat.le_refl _)).mono_ b1.size)
    have dbox_1 := Fbox_1.out.2
    clear C1 b1 HB0 Fv_0 Fbox_0 dbox_0
    clear Fv_1
    have C2 := Lib.hid (works_vf w1)
    go_wp2_with (fail)
    refine (C2.out).mono ?_
    rintro e w2 ⟨rfl, b2⟩
    have HB2 := Lib.hid (HB1.out.trans (b2.mono HB1.out.size))
    have Fbox_2 := Lib.hid ((Fbox_1.out.below_ b2 (Nat.le_refl _)).mono_ b2.size)
    have dbox_2 := Fbox_2.out.2
    clear C2 b2 HB1 Fbox_1 dbox_1
    go_wp2
    go_ret
    exact ⟨rfl, HB2.out⟩
  · skip
    have HM : Hid (decide (700 < l0.length) = false) := by unfold Hid; simpa using hm
    have HP : Hid (l0.length ≤ 4096) := by unfold Hid; omega
    clear hm
    by_cases hmay : Vo.May l0
    · skip
      have HV : Hid (Vf.putE l0 = (Vf.file l0, 0)) := if_pos hmay
      have hft : ∀ p ∈ l0, Vf.Fits p := Vf.may_fits hmay (fun p hp => (h0.ok_ p hp).2.2.2) (fun p hp => (h0.ok_ p hp).1)
      have HLT : Hid (∀ x ∈ Vf.file l0, x < 256) := Vf.file_lt hft HP.out
      have HC : Hid (∀ k, k < (Vf.file l0).length → ∃ T E, Vf.getE ((Vf.file l0).take k) = ([], T, E) ∧ E ≠ 0) := fun k hk => Vf.bad_of (Vf.file_begin hft HP.out hk)
      have HS : Hid (n2 ≠ 0 → ∀ k c, (Vf.file l0)[k]? = some c → ∃ T E, Vf.getE ((Vf.file l0).set k (c ^^^ n2)) = ([], T, E) ∧ E ≠ 0) := fun hn k c hc => Vf.bad_of (Vf.file_set hft HP.out hc hn b2)
      have HPS : Hid ((Vf.file l0).length ≤ 140000) := Vf.file_short HP.out
      obtain ⟨x, hxe⟩ : ∃ x, Vf.file l0 = x := ⟨_, rfl⟩
      rw [hxe] at HV HC HS HPS HLT
      clear hmay hft hxe
      by_cases hbad : a1 < 0 ∨ (x.length : Int) ≤ a1
      · skip
        by_cases hneg : a1 < 0
        · skip
          clear hbad
          obtain ⟨W, hW⟩ : ∃ X, w.alloc (.cells #[v0] 24) = X := ⟨_, rfl⟩
          obtain ⟨db, hsz, hbb⟩ := boxed hW
          have HB0 := Lib.hid hbb
          have Fv_0 := Lib.hid ((h0.below_ hbb (Nat.le_refl _)).mono_ hbb.size)
          have Fbox_0 : Hid (BoxAt W W.heap.size w.heap.size v0) := ⟨by omega, db⟩
          obtain ⟨A, c, rfl, hc1, hc2, _, _⟩ := h0
          have hl0 : l0.length ≤ 9223372036854775807 := by simp only [maxLen] at hc2; omega
          have dbox_0 := Fbox_0.out.2
          clear hc1 hc2 hbb hsz db
          go_enter Try.func6, Try.ntmps6
          have C1 := Lib.hid (many_any l0 _ _ W Fv_0.out)
          rw [HM.out] at C1
          go_wp2_with (fail)
          refine (C1.out).mono ?_
          rintro e w1 ⟨rfl, b1⟩
          have HB1 := Lib.hid (HB0.out.trans (b1.mono HB0.out.size))
          have Fv_1 := Lib.hid ((Fv_0.out.below_ b1 (Nat.le_refl _)).mono_ b1.size)
          have Fbox_1 := Lib.hid ((Fbox_0.out.below_ b1 (Nat.le_refl _)).mono_ b1.size)
          have dbox_1 := Fbox_1.out.2
          clear C1 b1 HB0 Fv_0 Fbox_0 dbox_0
          have C2 := Lib.hid (pvput_any l0 _ _ w1 Fv_1.out (Nat.le_refl _) HP.out)
          rw [HV.out] at C2
          go_wp2_with (fail)
          refine (C2.out).mono ?_
          rintro e w2 ⟨A2, c2, rfl, o2, b2⟩
          have HB2 := Lib.hid (HB1.out.trans (b2.mono HB1.out.size))
          have Fv_2 := Lib.hid ((Fv_1.out.below_ b2 (Nat.le_refl _)).mono_ b2.size)
          have Fbox_2 := Lib.hid ((Fbox_1.out.below_ b2 (Nat.le_refl _)).mono_ b2.size)
          have dbox_2 := Fbox_2.out.2
          have Fx_2 := Lib.hid (o2.form_)
          clear C2 b2 HB1 Fv_1 Fbox_1 dbox_1 o2
          clear Fv_2
          clear Fx_2
          have C3 := Lib.hid (works_vf w2)
          go_wp2_with (fail)
          refine (C3.out).mono ?_
          rintro e w3 ⟨rfl, b3⟩
          have HB3 := Lib.hid (HB2.out.trans (b3.mono HB2.out.size))
          have Fbox_3 := Lib.hid ((Fbox_2.out.below_ b3 (Nat.le_refl _)).mono_ b3.size)
          have dbox_3 := Fbox_3.out.2
          clear C3 b3 HB2 Fbox_2 dbox_2
          go_wp2
          go_ret
          exact ⟨rfl, HB3.out⟩
        · skip
          have hge : (x.length : Int) ≤ a1 := by omega
          clear hbad
          obtain ⟨W, hW⟩ : ∃ X, w.alloc (.cells #[v0] 24) = X := ⟨_, rfl⟩
          obtain ⟨db, hsz, hbb⟩ := boxed hW
          have HB0 := Lib.hid hbb
          have Fv_0 := Lib.hid ((h0.below_ hbb (Nat.le_refl _)).mono_ hbb.size)
          have Fbox_0 : Hid (BoxAt W W.heap.size w.heap.size v0) := ⟨by omega, db⟩
          obtain ⟨A, c, rfl, hc1, hc2, _, _⟩ := h0
          have hl0 : l0.length ≤ 9223372036854775807 := by simp only [maxLen] at hc2; omega
          have dbox_0 := Fbox_0.out.2
          clear hc1 hc2 hbb hsz db
          go_enter Try.func6, Try.ntmps6
          have C1 := Lib.hid (many_any l0 _ _ W Fv_0.out)
          rw [HM.out] at C1
          go_wp2_with (fail)
          refine (C1.out).mono ?_
          rintro e w1 ⟨rfl, b1⟩
          have HB1 := Lib.hid (HB0.out.trans (b1.mono HB0.out.size))
          have Fv_1 := Lib.hid ((Fv_0.out.below_ b1 (Nat.le_refl _)).mono_ b1.size)
          have Fbox_1 := Lib.hid ((Fbox_0.out.below_ b1 (Nat.le_refl _)).mono_ b1.size)
          have dbox_1 := Fbox_1.out.2
          clear C1 b1 HB0 Fv_0 Fbox_0 dbox_0
          have C2 := Lib.hid (pvput_any l0 _ _ w1 Fv_1.out (Nat.le_refl _) HP.out)
          rw [HV.out] at C2
          go_wp2_with (fail)
          refine (C2.out).mono ?_
          rintro e w2 ⟨A2, c2, rfl, o2, b2⟩
          have HB2 := Lib.hid (HB1.out.trans (b2.mono HB1.out.size))
          have Fv_2 := Lib.hid ((Fv_1.out.below_ b2 (Nat.le_refl _)).mono_ b2.size)
          have Fbox_2 := Lib.hid ((Fbox_1.out.below_ b2 (Nat.le_refl _)).mono_ b2.size)
          have dbox_2 := Fbox_2.out.2
          have Fx_2 := Lib.hid (o2.form_)
          clear C2 b2 HB1 Fv_1 Fbox_1 dbox_1 o2
          clear Fv_2
          clear Fx_2
          have C3 := Lib.hid (works_vf w2)
          go_wp2_with (fail)
          refine (C3.out).mono ?_
          rintro e w3 ⟨rfl, b3⟩
          have HB3 := Lib.hid (HB2.out.trans (b3.mono HB2.out.size))
          have Fbox_3 := Lib.hid ((Fbox_2.out.below_ b3 (Nat.le_refl _)).mono_ b3.size)
          have dbox_3 := Fbox_3.out.2
          clear C3 b3 HB2 Fbox_2 dbox_2
          go_wp2
          go_ret
          exact ⟨rfl, HB3.out⟩
      · skip
        have h0a : ¬ a1 < 0 := by omega
        have h1a : ¬ (x.length : Int) ≤ a1 := by omega
        obtain ⟨T, rfl⟩ := Int.eq_ofNat_of_zero_le (show 0 ≤ a1 by omega)
        have hT : T < x.length := by omega
        clear hbad

        rcases Bool.eq_false_or_eq_true a3 with ha3 | ha3
        · skip
          subst ha3
          obtain ⟨T2, E, hx, hE⟩ := HC.out T hT
          have HX := Lib.hid hx
          have hEi : ((E : Int) != 0) = true := by rw [bne_iff_ne]; omega
          clear hx hE
          obtain ⟨W, hW⟩ : ∃ X, w.alloc (.cells #[v0] 24) = X := ⟨_, rfl⟩
          obtain ⟨db, hsz, hbb⟩ := boxed hW
          have HB0 := Lib.hid hbb
          have Fv_0 := Lib.hid ((h0.below_ hbb (Nat.le_refl _)).mono_ hbb.size)
          have Fbox_0 : Hid (BoxAt W W.heap.size w.heap.size v0) := ⟨by omega, db⟩
          obtain ⟨A, c, rfl, hc1, hc2, _, _⟩ := h0
          have hl0 : l0.length ≤ 9223372036854775807 := by simp only [maxLen] at hc2; omega
          have dbox_0 := Fbox_0.out.2
          clear hc1 hc2 hbb hsz db
          go_enter Try.func6, Try.ntmps6
          have C1 := Lib.hid (many_any l0 _ _ W Fv_0.out)
          rw [HM.out] at C1
          go_wp2_with (fail)
          refine (C1.out).mono ?_
          rintro e w1 ⟨rfl, b1⟩
          have HB1 := Lib.hid (HB0.out.trans (b1.mono HB0.out.size))
          have Fv_1 := Lib.hid ((Fv_0.out.below_ b1 (Nat.le_refl _)).mono_ b1.size)
          have Fbox_1 := Lib.hid ((Fbox_0.out.below_ b1 (Nat.le_refl _)).mono_ b1.size)
          have dbox_1 := Fbox_1.out.2
          clear C1 b1 HB0 Fv_0 Fbox_0 dbox_0
          have C2 := Lib.hid (pvput_any l0 _ _ w1 Fv_1.out (Nat.le_refl _) HP.out)
          rw [HV.out] at C2
          go_wp2_with (fail)
          refine (C2.out).mono ?_
          rintro e w2 ⟨A2, c2, rfl, o2, b2⟩
          have HB2 := Lib.hid (HB1.out.trans (b2.mono HB1.out.size))
          have Fv_2 := Lib.hid ((Fv_1.out.below_ b2 (Nat.le_refl _)).mono_ b2.size)
          have Fbox_2 := Lib.hid ((Fbox_1.out.below_ b2 (Nat.le_refl _)).mono_ b2.size)
          have dbox_2 := Fbox_2.out.2
          have Fx_2 := Lib.hid (o2.form_)
          clear C2 b2 HB1 Fv_1 Fbox_1 dbox_1 o2
          have hlen : x.length ≤ c2 := Fx_2.out.len_.2.1
          have hct := cut_to yK yK_el A2 x.length c2 T (Nat.le_trans (Nat.le_of_lt hT) hlen)
          have hct2 := cutAt_to yK yK_el A2 x.length c2 T (Nat.le_trans (Nat.le_of_lt hT) hlen)
          change ∀ w, (Instr.slice 27 (.slice A2 x.length c2) none (some (.int .i64 (T : Nat))) none).run Try.prog w = _ at hct
          change ∀ w, (Instr.sliceAt 27 (.slice A2 x.length c2) none (some (.int .i64 (T : Nat))) none).run Try.prog w = _ at hct2
          have hk : Lv yK w2 w2.heap.size (.slice A2 T c2) (x.take T) := Fx_2.out.take_ (k := T) (Nat.le_of_lt hT)
          have HK := Lib.hid hk
          clear hlen hk
          have C3 := Lib.hid (pvget_any (x.take T) _ _ w2 HK.out (Nat.le_refl _) (by have := HPS.out; rw [List.length_take]; omega))
          rw [HX.out] at C3
          go_wp2_with (fail)
          refine (C3.out).mono ?_
          rintro e w3 ⟨A3, c3, rfl, o3, b3⟩
          have HB3 := Lib.hid (HB2.out.trans (b3.mono HB2.out.size))
          have Fv_3 := Lib.hid ((Fv_2.out.below_ b3 (Nat.le_refl _)).mono_ b3.size)
          have Fbox_3 := Lib.hid ((Fbox_2.out.below_ b3 (Nat.le_refl _)).mono_ b3.size)
          have Fx_3 := Lib.hid ((Fx_2.out.below_ b3 (Nat.le_refl _)).mono_ b3.size)
          have dbox_3 := Fbox_3.out.2
          have Fy_3 := Lib.hid (o3.form_)
          clear C3 b3 HB2 Fv_2 Fbox_2 Fx_2 dbox_2 o3
          obtain ⟨Y3, hY3⟩ : ∃ X, w3.alloc (.cells #[.slice A3 0 c3] 24) = X := ⟨_, rfl⟩
          obtain ⟨db3, hsz3, hbb3⟩ := boxed hY3
          have b4 := hbb3
          have HB4 := Lib.hid (HB3.out.trans (b4.mono HB3.out.size))
          have Fv_4 := Lib.hid ((Fv_3.out.below_ b4 (Nat.le_refl _)).mono_ b4.size)
          have Fbox_4 := Lib.hid ((Fbox_3.out.below_ b4 (Nat.le_refl _)).mono_ b4.size)
          have Fx_4 := Lib.hid ((Fx_3.out.below_ b4 (Nat.le_refl _)).mono_ b4.size)
          have Fy_4 := Lib.hid ((Fy_3.out.below_ b4 (Nat.le_refl _)).mono_ b4.size)
          have dbox_4 := Fbox_4.out.2
          clear b4 HB3 Fv_3 Fbox_3 Fx_3 Fy_3 dbox_3
          have Fby_4 : Hid (BoxAt Y3 Y3.heap.size w3.heap.size (.slice A3 0 c3)) := ⟨by omega, db3⟩
          have dby_4 := Fby_4.out.2
          clear hbb3 hsz3 db3
          clear Fv_4
          clear Fx_4
          clear Fy_4
          have C5 := Lib.hid (works_vf Y3)
          go_wp2_with (fail)
          refine (C5.out).mono ?_
          rintro e w5 ⟨rfl, b5⟩
          have HB5 := Lib.hid (HB4.out.trans (b5.mono HB4.out.size))
          have Fbox_5 := Lib.hid ((Fbox_4.out.below_ b5 (Nat.le_refl _)).mono_ b5.size)
          have Fby_5 := Lib.hid ((Fby_4.out.below_ b5 (Nat.le_refl _)).mono_ b5.size)
          have dbox_5 := Fbox_5.out.2
          have dby_5 := Fby_5.out.2
          clear C5 b5 HB4 Fbox_4 Fby_4 dbox_4 dby_4
          go_wp2
          go_ret
          exact ⟨rfl, HB5.out⟩
        · skip
          subst ha3
          by_cases hn : n2 = 0
          · skip
            subst hn
            have HV0 := HV
            obtain ⟨W, hW⟩ : ∃ X, w.alloc (.cells #[v0] 24) = X := ⟨_, rfl⟩
            obtain ⟨db, hsz, hbb⟩ := boxed hW
            have HB0 := Lib.hid hbb
            have Fv_0 := Lib.hid ((h0.below_ hbb (Nat.le_refl _)).mono_ hbb.size)
            have Fbox_0 : Hid (BoxAt W W.heap.size w.heap.size v0) := ⟨by omega, db⟩
            obtain ⟨A, c, rfl, hc1, hc2, _, _⟩ := h0
            have hl0 : l0.length ≤ 9223372036854775807 := by simp only [maxLen] at hc2; omega
            have dbox_0 := Fbox_0.out.2
            clear hc1 hc2 hbb hsz db
            go_enter Try.func6, Try.ntmps6
            have C1 := Lib.hid (many_any l0 _ _ W Fv_0.out)
            rw [HM.out] at C1
            go_wp2_with (fail)
            refine (C1.out).mono ?_
            rintro e w1 ⟨rfl, b1⟩
            have HB1 := Lib.hid (HB0.out.trans (b1.mono HB0.out.size))
            have Fv_1 := Lib.hid ((Fv_0.out.below_ b1 (Nat.le_refl _)).mono_ b1.size)
            have Fbox_1 := Lib.hid ((Fbox_0.out.below_ b1 (Nat.le_refl _)).mono_ b1.size)
            have dbox_1 := Fbox_1.out.2
            clear C1 b1 HB0 Fv_0 Fbox_0 dbox_0
            have C2 := Lib.hid (pvput_any l0 _ _ w1 Fv_1.out (Nat.le_refl _) HP.out)
            rw [HV.out] at C2
            go_wp2_with (fail)
            refine (C2.out).mono ?_
            rintro e w2 ⟨A2, c2, rfl, o2, b2⟩
            have HB2 := Lib.hid (HB1.out.trans (b2.mono HB1.out.size))
            have Fv_2 := Lib.hid ((Fv_1.out.below_ b2 (Nat.le_refl _)).mono_ b2.size)
            have Fbox_2 := Lib.hid ((Fbox_1.out.below_ b2 (Nat.le_refl _)).mono_ b2.size)
            have dbox_2 := Fbox_2.out.2
            have Fx_2 := Lib.hid (o2.form_)
            clear C2 b2 HB1 Fv_1 Fbox_1 dbox_1 o2
            clear Fv_2
            clear Fx_2
            have C3 := Lib.hid (works_vf w2)
            go_wp2_with (fail)
            refine (C3.out).mono ?_
            rintro e w3 ⟨rfl, b3⟩
            have HB3 := Lib.hid (HB2.out.trans (b3.mono HB2.out.size))
            have Fbox_3 := Lib.hid ((Fbox_2.out.below_ b3 (Nat.le_refl _)).mono_ b3.size)
            have dbox_3 := Fbox_3.out.2
            clear C3 b3 HB2 Fbox_2 dbox_2
            go_wp2
            go_ret
            exact ⟨rfl, HB3.out⟩
          · skip
            obtain ⟨y, hy⟩ : ∃ y, x[T]? = some y := ⟨x[T], List.getElem?_eq_getElem hT⟩
            obtain ⟨T2, E, hx, hE⟩ := HS.out hn T y hy
            have HX := Lib.hid hx
            have HY := Lib.hid hy
            have hEi : ((E : Int) != 0) = true := by rw [bne_iff_ne]; omega
            have hni : ((n2 : Int) == 0) = false := by rw [beq_eq_false_iff_ne]; omega
            have hy8 : y < 256 := HLT.out y (List.mem_of_getElem? hy)
            have hTi : (T : Int) < (x.length : Int) := by omega
            clear hx hE hn hy
            obtain ⟨W, hW⟩ : ∃ X, w.alloc (.cells #[v0] 24) = X := ⟨_, rfl⟩
            obtain ⟨db, hsz, hbb⟩ := boxed hW
            have HB0 := Lib.hid hbb
            have Fv_0 := Lib.hid ((h0.below_ hbb (Nat.le_refl _)).mono_ hbb.size)
            have Fbox_0 : Hid (BoxAt W W.heap.size w.heap.size v0) := ⟨by omega, db⟩
            obtain ⟨A, c, rfl, hc1, hc2, _, _⟩ := h0
            have hl0 : l0.length ≤ 9223372036854775807 := by simp only [maxLen] at hc2; omega
            have dbox_0 := Fbox_0.out.2
            clear hc1 hc2 hbb hsz db
            go_enter Try.func6, Try.ntmps6
            have C1 := Lib.hid (many_any l0 _ _ W Fv_0.out)
            rw [HM.out] at C1
            go_wp2_with (fail)
            refine (C1.out).mono ?_
            rintro e w1 ⟨rfl, b1⟩
            have HB1 := Lib.hid (HB0.out.trans (b1.mono HB0.out.size))
            have Fv_1 := Lib.hid ((Fv_0.out.below_ b1 (Nat.le_refl _)).mono_ b1.size)
            have Fbox_1 := Lib.hid ((Fbox_0.out.below_ b1 (Nat.le_refl _)).mono_ b1.size)
            have dbox_1 := Fbox_1.out.2
            clear C1 b1 HB0 Fv_0 Fbox_0 dbox_0
            have HBo : Hid (w.heap.size ≤ w1.heap.size) := HB1.out.size
            have C2 := Lib.hid (pvput_any l0 _ _ w1 Fv_1.out (Nat.le_refl _) HP.out)
            rw [HV.out] at C2
            go_wp2_with (fail)
            refine (C2.out).mono ?_
            rintro e w2 ⟨A2, c2, rfl, o2, b2⟩
            have HB2 := Lib.hid (HB1.out.trans (b2.mono HB1.out.size))
            have Fv_2 := Lib.hid ((Fv_1.out.below_ b2 (Nat.le_refl _)).mono_ b2.size)
            have Fbox_2 := Lib.hid ((Fbox_1.out.below_ b2 (Nat.le_refl _)).mono_ b2.size)
            have dbox_2 := Fbox_2.out.2
            have Fx_2 := Lib.hid (o2.form_)
            have Ox_2 := Lib.hid o2
            clear C2 b2 HB1 Fv_1 Fbox_1 dbox_1 o2
            obtain ⟨g, y', eA, _, hbg, _, hy', hcell, hfro⟩ := Ox_2.out.at_ (k := T) hT
            rw [HY.out] at hy'
            obtain rfl := Option.some.inj hy'
            subst eA
            have hc := hcell 0 _ rfl
            have hf := hfro T
            rw [show yK.size = 1 from rfl, Nat.mul_one, Nat.add_zero] at hc
            have hx8 := Cr.xor_byte_lt hy8 HN2.out
            have hset := Ox_2.out.set_ rfl hT (x := y ^^^ n2) (u := .int .u8 ((y ^^^ n2 : Nat) : Int)) hx8 rfl
            have hxor := xor_u8_nat y n2 hy8 HN2.out
            obtain ⟨Z, hZ⟩ : ∃ Z, w2.setCell ⟨g, T, none⟩ (.int .u8 ((y ^^^ n2 : Nat) : Int)) = Z := ⟨_, rfl⟩
            rw [hZ] at hset
            have HZ : Hid (Below w.heap.size w Z) := by
              unfold Hid
              rw [← hZ]
              exact HB2.out.setCell (p := ⟨g, T, none⟩) (Nat.le_trans HBo.out hbg) _
            have HO := hset.1
            have hls : (x.set T (y ^^^ n2)).length = x.length := List.length_set
            have C9 := Lib.hid (pvget_any (x.set T (y ^^^ n2)) _ _ Z HO.form_ (Nat.le_refl _) (by rw [hls]; exact HPS.out))
            rw [HX.out] at C9
            obtain ⟨yn, hyn⟩ : ∃ yn, y ^^^ n2 = yn := ⟨_, rfl⟩
            rw [hyn] at hxor hZ
            clear hset HO hcell hfro hx8 hyn hls
            clear Fv_2
            clear Fx_2
            clear Ox_2
            go_wp2_with (fail)
            refine (C9.out).mono ?_
            rintro e w9 ⟨A9, c9, rfl, o9, b9⟩
            have HB9 := Lib.hid (HZ.out.trans (b9.mono HZ.out.size))
            obtain ⟨Y9, hY9⟩ : ∃ X, w9.alloc (.cells #[.slice A9 0 c9] 24) = X := ⟨_, rfl⟩
            obtain ⟨db9, hsz9, hbb9⟩ := boxed hY9
            have HB10 := Lib.hid (HB9.out.trans (hbb9.mono HB9.out.size))
            have C10 := Lib.hid (works_vf Y9)
            clear o9 b9 hbb9 hsz9 C9
            go_wp2_with (fail)
            refine (C10.out).mono ?_
            rintro e w10 ⟨rfl, b10⟩
            have HB11 := Lib.hid (HB10.out.trans (b10.mono HB10.out.size))
            clear b10 C10
            go_wp2
            go_ret
            exact ⟨rfl, HB11.out⟩
    · skip
      have HV : Hid (Vf.putE l0 = ([], 11)) := if_neg hmay
      clear hmay
      obtain ⟨W, hW⟩ : ∃ X, w.alloc (.cells #[v0] 24) = X := ⟨_, rfl⟩
      obtain ⟨db, hsz, hbb⟩ := boxed hW
      have HB0 := Lib.hid hbb
      have Fv_0 := Lib.hid ((h0.below_ hbb (Nat.le_refl _)).mono_ hbb.size)
      have Fbox_0 : Hid (BoxAt W W.heap.size w.heap.size v0) := ⟨by omega, db⟩
      obtain ⟨A, c, rfl, hc1, hc2, _, _⟩ := h0
      have hl0 : l0.length ≤ 9223372036854775807 := by simp only [maxLen] at hc2; omega
      have dbox_0 := Fbox_0.out.2
      clear hc1 hc2 hbb hsz db
      go_enter Try.func6, Try.ntmps6
      have C1 := Lib.hid (many_any l0 _ _ W Fv_0.out)
      rw [HM.out] at C1
      go_wp2_with (fail)
      refine (C1.out).mono ?_
      rintro e w1 ⟨rfl, b1⟩
      have HB1 := Lib.hid (HB0.out.trans (b1.mono HB0.out.size))
      have Fv_1 := Lib.hid ((Fv_0.out.below_ b1 (Nat.le_refl _)).mono_ b1.size)
      have Fbox_1 := Lib.hid ((Fbox_0.out.below_ b1 (Nat.le_refl _)).mono_ b1.size)
      have dbox_1 := Fbox_1.out.2
      clear C1 b1 HB0 Fv_0 Fbox_0 dbox_0
      have C2 := Lib.hid (pvput_any l0 _ _ w1 Fv_1.out (Nat.le_refl _) HP.out)
      rw [HV.out] at C2
      go_wp2_with (fail)
      refine (C2.out).mono ?_
      rintro e w2 ⟨A2, c2, rfl, o2, b2⟩
      have HB2 := Lib.hid (HB1.out.trans (b2.mono HB1.out.size))
      have Fv_2 := Lib.hid ((Fv_1.out.below_ b2 (Nat.le_refl _)).mono_ b2.size)
      have Fbox_2 := Lib.hid ((Fbox_1.out.below_ b2 (Nat.le_refl _)).mono_ b2.size)
      have dbox_2 := Fbox_2.out.2
      have Fx_2 := Lib.hid (o2.form_)
      clear C2 b2 HB1 Fv_1 Fbox_1 dbox_1 o2
      clear Fv_2
      clear Fx_2
      have C3 := Lib.hid (works_vf w2)
      go_wp2_with (fail)
      refine (C3.out).mono ?_
      rintro e w3 ⟨rfl, b3⟩
      have HB3 := Lib.hid (HB2.out.trans (b3.mono HB2.out.size))
      have Fbox_3 := Lib.hid ((Fbox_2.out.below_ b3 (Nat.le_refl _)).mono_ b3.size)
      have dbox_3 := Fbox_3.out.2
      clear C3 b3 HB2 Fbox_2 dbox_2
      go_wp2
      go_ret
      exact ⟨rfl, HB3.out⟩

/-! ### From the walk to the row -/
set_option maxRecDepth 100000 in
theorem lifted (os : Os) (started : os.Started) (H : Type) (enc : TypeId × Value → H) :
    ReturnsInHanded {} Try.checked os 6 .any (Rows.vocfileSpoiltSpec.pre6 enc Try.prog Try.f6 Rows.vocfileSpoiltRow.domain false) (Rows.vocfileSpoiltSpec.post enc Try.prog Try.f6 false true false false) := by
  refine returnsInHanded_of_change (C := Try.checked) own started (by kernel_rfl) Try.func6
    (ChangeSpec.witness6 (enc := enc) (C := Try.checked) false ⟨#[], #[.agg #[.slice none 0 0], .int .i64 0, .int .u8 0, .bool false], []⟩ 8 (by kernel_rfl) (by kernel_rfl) (by kernel_rfl) (by kernel_rfl)) ?_
  intro W base args ds gs before hval0 hW hcnd _
  have hval : ∀ (j : Nat) t v, Try.f6.params[j]? = some t → args[j]? = some v → Value.okWide Try.prog W .any base t v := hval0
  have hW' := hW
  obtain ⟨p, q, hA0, hV, rfl, hfz, hnd⟩ := hW
  have hA : DataW.TrodAll enc Try.prog W 0 (fun _ => true) true Try.f6.params.toList args.toList ds p := hA0
  rw [Try.params6] at hA hval
  obtain ⟨v0, vs0, d0, ds0, p0, q0, hargs, rfl, rfl, h0, r0⟩ := trodAll_cons hA
  obtain ⟨v1, vs1, d1, ds1, p1, q1, rfl, rfl, rfl, h1, r1⟩ := trodAll_cons r0
  obtain ⟨v2, vs2, d2, ds2, p2, q2, rfl, rfl, rfl, h2, r2⟩ := trodAll_cons r1
  obtain ⟨v3, vs3, d3, ds3, p3, q3, rfl, rfl, rfl, h3, r3⟩ := trodAll_cons r2
  obtain ⟨rfl, rfl, rfl⟩ := trodAll_nil r3
  obtain rfl : args = #[v0, v1, v2, v3] := by cases args; simp_all
  obtain ⟨rfl, rfl⟩ := trodVars_none hV
  have k0 := h0
  have lt0 : ∀ x ∈ p0, x.block < W.heap.size := by obtain ⟨m, hm⟩ := k0; exact DataW.trod_lt m _ _ _ hm
  obtain ⟨u0, l0, rfl, hb0⟩ := voc_in (hval 0 24 v0 rfl rfl) h0
  obtain ⟨a1, rfl, rfl, rfl, w1⟩ := open_int Try.underlying3 (hval 1 3 v1 rfl rfl) h1
  obtain ⟨a2, rfl, rfl, rfl, w2⟩ := open_int Try.underlying5 (hval 2 5 v2 rfl rfl) h2
  obtain ⟨n2, e2, b2⟩ := u8_nat w2
  subst e2
  obtain ⟨a3, rfl, rfl, rfl⟩ := open_bool Try.underlying4 (hval 3 4 v3 rfl rfl) h3
  clear hA0 hval0
  refine (walk W u0 l0 hb0 a1 w1 n2 b2 a3).mono fun e W' ⟨he, bel⟩ => ?_
  subst he
  exact ⟨_, rfl, _, _, _, [], _, [], hW', trodAll_mk1 (shut_bool Try.underlying4 _), (trodAll_cons_mk (Below.trod laidOut (by kernel_rfl) (of_decide_eq_true (by kernel_rfl)) k0 bel lt0) (trodAll_cons_mk (shut_int Try.underlying3 w1) (trodAll_cons_mk (shut_int Try.underlying5 w2) (trodAll_cons_mk (shut_bool Try.underlying4 a3) trodAll_mk0)))), rfl, bel.frame _, fun h => by cases h⟩

theorem proved : Rows.VocfileSpoiltSaid :=
  OpenClaim.holds_of_wide 6 Try.f6 rfl rfl rfl rfl rfl rfl rfl ⟨rfl, rfl, rfl, rfl, rfl⟩ rfl rfl rfl rfl rfl (by kernel_rfl) Try.func6 (by kernel_rfl)
    (of_decide_eq_true (by kernel_rfl)) (by unfold Func.isWrapper; first | (rw [if_pos (by decide +kernel)]; kernel_rfl) | (rw [if_neg (by decide +kernel)]; exact ⟨rfl, rfl⟩))
    (fun os started H enc _ => lifted os started H enc)

end Go.Proofs.Ytglkhgchbnkekaa.vocfileSpoilt
