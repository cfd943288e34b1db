/-
  DealTurned: a list that is taken by an order, and then by that order turned, is the list. No condition.
-/
import Derived.Test.YtggpldghdaggfaaFrameI
import Derived.Test.YtggpldghdaggfaaFrameWl
import Derived.Test.YtggpldghdaggfaaDlLaw
import Derived.Test.YtggpldghdaggfaaWrds
import Derived.Test.YtggpldghdaggfaaInts
namespace Go.Proofs.Ytggpldghdaggfaa.dealTurned
open Go.ChangeShapes Go.WideShapes Go.ChangeAt Go.RowKit
open Go.ChangeMaps (open_string shut_string)
set_option linter.unusedVariables false

set_option maxHeartbeats 400000 in
set_option maxRecDepth 100000 in
theorem walk (w : World) (n0 : Nat) (b0 : Mt.B64 n0) (v1 : Value) (l1 : List Nat) (h1 : Lv wK w w.heap.size v1 l1) :
    Calls Try.prog 8 #[.int .u64 n0, v1] w (IsBool true w) := by
  obtain ⟨z, rfl⟩ := nl_of_u64 b0
  clear b0
  have Fa_0 := Lib.hid (h1)
  obtain ⟨A, c, rfl, hc1, hc2, _⟩ := h1
  have hl : l1.length ≤ 9223372036854775807 := by simp only [maxLen] at hc2; omega
  clear hc1 hc2
  by_cases e1 : l1.length ≤ 65536
  · skip
    obtain ⟨p, hd, ho, hpl, hw⟩ := Dl.deal_ok z e1
    obtain ⟨ht, hw2⟩ := Dl.turn_ok hw
    have HD := Lib.hid hd
    have HT := Lib.hid ht
    have HA := Lib.hid (Dl.take_ok (l := l1) hw hpl.symm)
    have hb := Dl.take_ok (l := Dl.takes p l1) hw2 (by rw [Dl.takes_len, Dl.turn_len])
    rw [Dl.takes_turn ho hpl.symm] at hb
    have HB' := Lib.hid hb
    obtain ⟨t, hte⟩ : ∃ t, Dl.turn p = t := ⟨_, rfl⟩
    obtain ⟨x, hxe⟩ : ∃ x, Dl.takes p l1 = x := ⟨_, rfl⟩
    rw [hte] at HT HB'
    rw [hxe] at HA HB'
    clear hd ho hpl hw ht hw2 hb hte hxe e1
    have HB0 := Lib.hid (Below.refl w.heap.size w)
    go_enter Try.func8, Try.ntmps8
    have C1 := Lib.hid (pdeal_any z (l1.length : Nat) w)
    rw [HD.out] at C1
    go_wp2_with (fail)
    refine (C1.out).mono ?_
    rintro e w1 ⟨A1, c1, rfl, o1, b1⟩
    have HB1 := Lib.hid (HB0.out.trans (b1.mono HB0.out.size))
    have Fa_1 := Lib.hid ((Fa_0.out.below_ b1 (Nat.le_refl _)).mono_ b1.size)
    have Fp_1 := Lib.hid (o1.form_)
    clear C1 b1 HB0 Fa_0 o1
    have C2 := Lib.hid (pturn_any _ p _ w1 (Nat.le_refl _) Fp_1.out)
    rw [HT.out] at C2
    go_wp2_with (fail)
    refine (C2.out).mono ?_
    rintro e w2 ⟨A2, c2, rfl, o2, b2⟩
    have HB2 := Lib.hid (HB1.out.trans (b2.mono HB1.out.size))
    have Fa_2 := Lib.hid ((Fa_1.out.below_ b2 (Nat.le_refl _)).mono_ b2.size)
    have Fp_2 := Lib.hid ((Fp_1.out.below_ b2 (Nat.le_refl _)).mono_ b2.size)
    have Ft_2 := Lib.hid (o2.form_)
    clear C2 b2 HB1 Fa_1 Fp_1 o2
    have C3 := Lib.hid (ptake_any _ _ p l1 _ w2 (Nat.le_refl _) Fp_2.out Fa_2.out)
    rw [HA.out] at C3
    go_wp2_with (fail)
    refine (C3.out).mono ?_
    rintro e w3 ⟨A3, c3, rfl, o3, b3⟩
    have HB3 := Lib.hid (HB2.out.trans (b3.mono HB2.out.size))
    have Fa_3 := Lib.hid ((Fa_2.out.below_ b3 (Nat.le_refl _)).mono_ b3.size)
    have Fp_3 := Lib.hid ((Fp_2.out.below_ b3 (Nat.le_refl _)).mono_ b3.size)
    have Ft_3 := Lib.hid ((Ft_2.out.below_ b3 (Nat.le_refl _)).mono_ b3.size)
    have Fx_3 := Lib.hid (o3.form_)
    clear C3 b3 HB2 Fa_2 Fp_2 Ft_2 o3
    have C4 := Lib.hid (ptake_any _ _ t x _ w3 (Nat.le_refl _) Ft_3.out Fx_3.out)
    rw [HB'.out] at C4
    go_wp2_with (fail)
    refine (C4.out).mono ?_
    rintro e w4 ⟨A4, c4, rfl, o4, b4⟩
    have HB4 := Lib.hid (HB3.out.trans (b4.mono HB3.out.size))
    have Fa_4 := Lib.hid ((Fa_3.out.below_ b4 (Nat.le_refl _)).mono_ b4.size)
    have Fp_4 := Lib.hid ((Fp_3.out.below_ b4 (Nat.le_refl _)).mono_ b4.size)
    have Ft_4 := Lib.hid ((Ft_3.out.below_ b4 (Nat.le_refl _)).mono_ b4.size)
    have Fx_4 := Lib.hid ((Fx_3.out.below_ b4 (Nat.le_refl _)).mono_ b4.size)
    have Fy_4 := Lib.hid (o4.form_)
    clear C4 b4 HB3 Fa_3 Fp_3 Ft_3 Fx_3 o4
    have C5 := Lib.hid (wrds_lv _ _ _ _ _ _ w4 Fy_4.out Fa_4.out)
    simp only [decide_true] at C5
    go_wp2_with (fail)
    refine (C5.out).mono ?_
    rintro e w5 ⟨rfl, b5⟩
    have HB5 := Lib.hid (HB4.out.trans (b5.mono HB4.out.size))
    have Fa_5 := Lib.hid ((Fa_4.out.below_ b5 (Nat.le_refl _)).mono_ b5.size)
    have Fp_5 := Lib.hid ((Fp_4.out.below_ b5 (Nat.le_refl _)).mono_ b5.size)
    have Ft_5 := Lib.hid ((Ft_4.out.below_ b5 (Nat.le_refl _)).mono_ b5.size)
    have Fx_5 := Lib.hid ((Fx_4.out.below_ b5 (Nat.le_refl _)).mono_ b5.size)
    have Fy_5 := Lib.hid ((Fy_4.out.below_ b5 (Nat.le_refl _)).mono_ b5.size)
    clear C5 b5 HB4 Fa_4 Fp_4 Ft_4 Fx_4 Fy_4
    clear Fa_5
    clear Fp_5
    clear Ft_5
    clear Fx_5
    clear Fy_5
    have C6 := Lib.hid (works_any w5)
    go_wp2_with (fail)
    refine (C6.out).mono ?_
    rintro e w6 ⟨rfl, b6⟩
    have HB6 := Lib.hid (HB5.out.trans (b6.mono HB5.out.size))
    clear C6 b6 HB5
    go_wp2
    go_ret
    exact ⟨rfl, HB6.out⟩
  · skip
    obtain ⟨y, hd, hy⟩ := Dl.deal_bad z (n := (l1.length : Nat)) (.inr (by omega))
    have HD := Lib.hid hd
    have hye : ((y : Int) != 0) = true := by rw [bne_iff_ne]; omega
    have hgt : 65536 < l1.length := by omega
    clear hd hy e1
    have HB0 := Lib.hid (Below.refl w.heap.size w)
    go_enter Try.func8, Try.ntmps8
    have C1 := Lib.hid (pdeal_any z (l1.length : Nat) w)
    rw [HD.out] at C1
    go_wp2_with (fail)
    refine (C1.out).mono ?_
    rintro e w1 ⟨A1, c1, rfl, o1, b1⟩
    have HB1 := Lib.hid (HB0.out.trans (b1.mono HB0.out.size))
    have Fa_1 := Lib.hid ((Fa_0.out.below_ b1 (Nat.le_refl _)).mono_ b1.size)
    have Fp_1 := Lib.hid (o1.form_)
    clear C1 b1 HB0 Fa_0 o1
    clear Fp_1
    clear Fa_1
    have C2 := Lib.hid (works_any w1)
    go_wp2_with (fail)
    refine (C2.out).mono ?_
    rintro e w2 ⟨rfl, b2⟩
    have HB2 := Lib.hid (HB1.out.trans (b2.mono HB1.out.size))
    clear C2 b2 HB1
    go_wp2
    go_ret
    exact ⟨rfl, HB2.out⟩

/-! ### From the walk to the row -/
set_option maxRecDepth 100000 in
theorem lifted (os : Os) (started : os.Started) (H : Type) (enc : TypeId × Value → H) :
    ReturnsInHanded {} Try.checked os 8 .any (Rows.dealTurnedSpec.pre6 enc Try.prog Try.f8 Rows.dealTurnedRow.domain false) (Rows.dealTurnedSpec.post enc Try.prog Try.f8 false true false false) := by
  refine returnsInHanded_of_change (C := Try.checked) own started (by kernel_rfl) Try.func8
    (ChangeSpec.witness6 (enc := enc) (C := Try.checked) false ⟨#[], #[.int .u64 0, .slice none 0 0], []⟩ 8 (by kernel_rfl) (by kernel_rfl) (by kernel_rfl) (by kernel_rfl)) ?_
  intro W base args ds gs before hval0 hW hcnd _
  have hval : ∀ (j : Nat) t v, Try.f8.params[j]? = some t → args[j]? = some v → Value.okWide Try.prog W .any base t v := hval0
  have hW' := hW
  obtain ⟨p, q, hA0, hV, rfl, hfz, hnd⟩ := hW
  have hA : DataW.TrodAll enc Try.prog W 0 (fun _ => true) true Try.f8.params.toList args.toList ds p := hA0
  rw [Try.params8] at hA hval
  obtain ⟨v0, vs0, d0, ds0, p0, q0, hargs, rfl, rfl, h0, r0⟩ := trodAll_cons hA
  obtain ⟨v1, vs1, d1, ds1, p1, q1, rfl, rfl, rfl, h1, r1⟩ := trodAll_cons r0
  obtain ⟨rfl, rfl, rfl⟩ := trodAll_nil r1
  obtain rfl : args = #[v0, v1] := by cases args; simp_all
  obtain ⟨rfl, rfl⟩ := trodVars_none hV
  obtain ⟨a0, rfl, rfl, rfl, w0⟩ := open_int Try.underlying22 (hval 0 22 v0 rfl rfl) h0
  obtain ⟨n0, e0, b0⟩ := u64_nat w0
  subst e0
  obtain ⟨a1, len1, cap1, rfl⟩ := okWide_slice Try.underlying34 (hval 1 34 v1 rfl rfl)
  have k1 := h1
  have lt1 : ∀ x ∈ p1, x.block < W.heap.size := by obtain ⟨m, hm⟩ := k1; exact DataW.trod_lt m _ _ _ hm
  obtain ⟨l1, len_1, hb1⟩ : ∃ l : List Nat, l.length = len1 ∧ Lv wK W W.heap.size (.slice a1 len1 cap1) l := by
    obtain ⟨fuel, hf⟩ := h1
    rcases open_ints Try.underlying34 Try.underlying22 (by kernel_rfl) hf with ⟨hcs, _⟩ | ⟨x, l, c, zs, hcs, _, hl, hm, hz, _, hcell, hwz⟩
    · simp [Value.cells] at hcs
      obtain ⟨rfl, rfl, rfl⟩ := hcs
      exact wrds_in (.inl ⟨rfl, rfl, rfl⟩)
    · simp [Value.cells] at hcs
      obtain ⟨rfl, rfl, rfl⟩ := hcs
      exact wrds_in (.inr ⟨x, zs, rfl, hl, hm, by simpa using hz, hcell, hwz⟩)
  clear hA0 hval0
  refine (walk W n0 b0 (.slice a1 len1 cap1) l1 hb1).mono fun e W' ⟨he, bel⟩ => ?_
  subst he
  exact ⟨_, rfl, _, _, _, [], _, [], hW', trodAll_mk1 (shut_bool Try.underlying4 _), (trodAll_cons_mk (shut_int Try.underlying22 w0) (trodAll_cons_mk (Below.trod laidOut (by kernel_rfl) (of_decide_eq_true (by kernel_rfl)) k1 bel lt1) trodAll_mk0)), rfl, bel.frame _, fun h => by cases h⟩

theorem proved : Rows.DealTurnedSaid :=
  OpenClaim.holds_of_wide 8 Try.f8 rfl rfl rfl rfl rfl rfl rfl ⟨rfl, rfl, rfl, rfl, rfl⟩ rfl rfl rfl rfl rfl (by kernel_rfl) Try.func8 (by kernel_rfl)
    (of_decide_eq_true (by kernel_rfl)) (by unfold Func.isWrapper; first | (rw [if_pos (by decide +kernel)]; kernel_rfl) | (rw [if_neg (by decide +kernel)]; exact ⟨rfl, rfl⟩))
    (fun os started H enc _ => lifted os started H enc)

end Go.Proofs.Ytggpldghdaggfaa.dealTurned
