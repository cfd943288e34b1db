/-
  PackOne: where a row is read, the bytes that it was read of are those that are put of it. No condition.
-/
import Derived.Test.YtapedjcchcgoeaaFrameN
import Derived.Test.YtapedjcchcgoeaaFrameB
import Derived.Test.YtapedjcchcgoeaaPkLaw
import Derived.Test.YtapedjcchcgoeaaPkMathB
import Derived.Test.YtapedjcchcgoeaaBvLv
import Derived.Test.YtapedjcchcgoeaaCut
import Derived.Deep.RegionHeld3
namespace Go.Proofs.Ytapedjcchcgoeaa.packOne
open Go.ChangeShapes Go.WideShapes Go.ChangeAt Go.RowKit
open Go.ChangeMaps (open_string shut_string)
set_option linter.unusedVariables false

set_option maxHeartbeats 4000000 in
set_option maxRecDepth 100000 in
theorem walk (w : World) (v0 : Value) (l0 : List Nat) (h0 : Lv yK w w.heap.size v0 l0) (a1 : Int) (w1 : (Lit.int .i64 a1).wf = true) (a2 : Int) (w2 : (Lit.int .i64 a2).wf = true) (n3 : Nat) (b3 : Mt.B64 n3) :
    Calls Try.prog 7 #[v0, .int .i64 a1, .int .i64 a2, .int .u64 (n3 : Nat)] w (IsBool true w) := by
  have hI : I64 a2 := by have h := bounds_i64 w2; unfold I64; omega
  have HI := Lib.hid hI
  have HF : Hid (Pk.fold a2 < 18446744073709551616) := Pk.fold_lt hI
  have HU : Hid (n3 < 18446744073709551616) := by unfold Mt.B64 at b3; unfold Hid; omega
  have HUI : Hid (I64 (Pk.unfold n3)) := Pk.unfold_i64 HU.out
  have E1 : Hid (Pk.unfold (Pk.fold a2) = a2) := Pk.unfold_fold a2
  have E2 : Hid (Pk.fold (Pk.unfold n3) = n3) := Pk.fold_unfold n3
  have hb8 : ∀ x ∈ l0, x < 256 := fun x hx => h0.ok_ x hx
  clear hI w1 w2 b3
  have DN : ∀ {P : Program} {f : Nat} {ar : Array Value} {w : World} {x : Ending}, Calls P f ar w (fun e w' => e = x ∧ w = w') → Calls P f ar w (fun e w' => e = x ∧ Below w.heap.size w w') := fun h => h.mono fun e w' h => ⟨h.1, h.2 ▸ Below.refl _ _⟩
  obtain ⟨⟨x, nx, E⟩, hx⟩ : ∃ r, Pk.getE l0 a1 = r := ⟨_, rfl⟩
  by_cases hE : E = 0
  · skip
    subst hE
    obtain ⟨k, r, rfl, hput, hk, hnx, -⟩ := Pk.getE_inv hb8 hx
    obtain ⟨m, rfl⟩ : ∃ m, nx = k + m := ⟨nx - k, by omega⟩
    have em : k + m - k = m := by omega
    rw [em] at hput
    obtain ⟨q, hq⟩ : ∃ q, (l0.drop k).take m = q := ⟨_, rfl⟩
    rw [hq] at hput
    have HQ := Lib.hid hq
    have HX := Lib.hid hx
    have HPT := Lib.hid hput
    have hle : k + m ≤ l0.length := hnx
    have hm0 : 0 < m := by omega
    obtain ⟨A, c, rfl, hc1, hc2, hc3, h4⟩ := id h0.bv_
    obtain ⟨b, off, rfl, _⟩ := h4.2 (by omega)
    have H0 := Lib.hid h0
    clear hx hput hb8 h4 hc3 em hq
    have Fv_0 := Lib.hid (H0.out)
    clear h0
    have HB0 := Lib.hid (Below.refl w.heap.size w)
    go_enter Try.func7, Try.ntmps7
    have C1 := Lib.hid (DN (pfold_any a2 HI.out w))
    go_wp2_with (fail)
    refine (C1.out).mono ?_
    rintro e w1 ⟨rfl, b1⟩
    have HB1 := Lib.hid (HB0.out.trans (b1.mono HB0.out.size))
    have Fv_1 := Lib.hid ((Fv_0.out.below_ b1 (Nat.le_refl _)).mono_ b1.size)
    clear C1 b1 HB0 Fv_0
    have C2 := Lib.hid (DN (punfold_any (Pk.fold a2) HF.out w1))
    rw [E1.out] at C2
    go_wp2_with (fail)
    refine (C2.out).mono ?_
    rintro e w2 ⟨rfl, b2⟩
    have HB2 := Lib.hid (HB1.out.trans (b2.mono HB1.out.size))
    have Fv_2 := Lib.hid ((Fv_1.out.below_ b2 (Nat.le_refl _)).mono_ b2.size)
    clear C2 b2 HB1 Fv_1
    have C3 := Lib.hid (DN (punfold_any n3 HU.out w2))
    go_wp2_with (fail)
    refine (C3.out).mono ?_
    rintro e w3 ⟨rfl, b3⟩
    have HB3 := Lib.hid (HB2.out.trans (b3.mono HB2.out.size))
    have Fv_3 := Lib.hid ((Fv_2.out.below_ b3 (Nat.le_refl _)).mono_ b3.size)
    clear C3 b3 HB2 Fv_2
    have C4 := Lib.hid (DN (pfold_any (Pk.unfold n3) HUI.out w3))
    rw [E2.out] at C4
    go_wp2_with (fail)
    refine (C4.out).mono ?_
    rintro e w4 ⟨rfl, b4⟩
    have HB4 := Lib.hid (HB3.out.trans (b4.mono HB3.out.size))
    have Fv_4 := Lib.hid ((Fv_3.out.below_ b4 (Nat.le_refl _)).mono_ b4.size)
    clear C4 b4 HB3 Fv_3
    have C5 := Lib.hid (ppget_any l0 _ _ (k : Int) w4 Fv_4.out (Nat.le_refl _))
    rw [HX.out] at C5
    go_wp2_with (fail)
    refine (C5.out).mono ?_
    rintro e w5 ⟨A5, c5, rfl, o5, b5⟩
    have HB5 := Lib.hid (HB4.out.trans (b5.mono HB4.out.size))
    have Fv_5 := Lib.hid ((Fv_4.out.below_ b5 (Nat.le_refl _)).mono_ b5.size)
    have Fx_5 := Lib.hid (o5.form_)
    clear C5 b5 HB4 Fv_4 o5
    have C6 := Lib.hid (ppput_any x _ _ w5 Fx_5.out (Nat.le_refl _))
    rw [HPT.out] at C6
    go_wp2_with (fail)
    refine (C6.out).mono ?_
    rintro e w6 ⟨A6, c6, rfl, o6, b6⟩
    have HB6 := Lib.hid (HB5.out.trans (b6.mono HB5.out.size))
    have Fv_6 := Lib.hid ((Fv_5.out.below_ b6 (Nat.le_refl _)).mono_ b6.size)
    have Fx_6 := Lib.hid ((Fx_5.out.below_ b6 (Nat.le_refl _)).mono_ b6.size)
    have Fc_6 := Lib.hid (o6.form_)
    clear C6 b6 HB5 Fv_5 Fx_5 o6
    unfold maxLen at hc2
    have hx2 := Fv_6.out.bv_.cut_ hle
    rw [HQ.out] at hx2
    have HX2 := Lib.hid hx2
    clear hx2
    have e1 : (k : Int) < (k : Int) + (m : Nat) := by omega
    have e2 : (k : Int) + (m : Nat) ≤ (l0.length : Nat) := by omega
    have e3 : (k : Int) + (m : Nat) ≤ (c : Nat) := by omega
    have e0 : (0 : Int) ≤ (k : Int) := by omega
    have d0 : decide ((0 : Int) ≤ (k : Int)) = true := by simp
    have d1 : decide ((k : Int) < (k : Int) + ((m : Nat) : Int)) = true := by simp; omega
    have d2 : decide ((k : Int) + ((m : Nat) : Int) ≤ ((l0.length : Nat) : Int)) = true := by simp; omega
    have e4 : (k : Int) ≤ (k : Int) + ((m : Nat) : Int) := by omega
    have e11 : (0 : Int) ≤ (k : Int) + ((m : Nat) : Int) := by omega
    have e5 : k + m ≤ c := by omega
    have e6 : ¬ c = k := by omega
    have e7 : ¬ c ≤ k := by omega
    have e8 : k < c := by omega
    have e9 : ¬ c - k = 0 := by omega
    have e10 : ((k : Int) + ((m : Nat) : Int)).toNat = k + m := by omega
    clear HX HPT
    have C7 := Lib.hid (octs_lv _ _ _ _ _ _ w6 Fc_6.out HX2.out.lv_)
    simp only [decide_true] at C7
    go_wp2_with (fail)
    refine (C7.out).mono ?_
    rintro e w7 ⟨rfl, b7⟩
    have HB7 := Lib.hid (HB6.out.trans (b7.mono HB6.out.size))
    have Fv_7 := Lib.hid ((Fv_6.out.below_ b7 (Nat.le_refl _)).mono_ b7.size)
    have Fx_7 := Lib.hid ((Fx_6.out.below_ b7 (Nat.le_refl _)).mono_ b7.size)
    have Fc_7 := Lib.hid ((Fc_6.out.below_ b7 (Nat.le_refl _)).mono_ b7.size)
    clear C7 b7 HB6 Fv_6 Fx_6 Fc_6
    clear Fv_7
    clear Fx_7
    clear Fc_7
    have C8 := Lib.hid (works_pk w7)
    go_wp2_with (fail)
    refine (C8.out).mono ?_
    rintro e w8 ⟨rfl, b8⟩
    have HB8 := Lib.hid (HB7.out.trans (b8.mono HB7.out.size))
    clear C8 b8 HB7
    go_wp2
    go_ret
    exact ⟨rfl, HB8.out⟩
  · skip
    obtain ⟨rfl, rfl⟩ := Pk.getE_bad hx hE
    have hEi : ((E : Int) != 0) = true := by rw [bne_iff_ne]; omega
    have HX := Lib.hid hx
    clear hx hE hb8
    have Fv_0 := Lib.hid (h0)
    clear h0
    have HB0 := Lib.hid (Below.refl w.heap.size w)
    go_enter Try.func7, Try.ntmps7
    have C1 := Lib.hid (DN (pfold_any a2 HI.out w))
    go_wp2_with (fail)
    refine (C1.out).mono ?_
    rintro e w1 ⟨rfl, b1⟩
    have HB1 := Lib.hid (HB0.out.trans (b1.mono HB0.out.size))
    have Fv_1 := Lib.hid ((Fv_0.out.below_ b1 (Nat.le_refl _)).mono_ b1.size)
    clear C1 b1 HB0 Fv_0
    have C2 := Lib.hid (DN (punfold_any (Pk.fold a2) HF.out w1))
    rw [E1.out] at C2
    go_wp2_with (fail)
    refine (C2.out).mono ?_
    rintro e w2 ⟨rfl, b2⟩
    have HB2 := Lib.hid (HB1.out.trans (b2.mono HB1.out.size))
    have Fv_2 := Lib.hid ((Fv_1.out.below_ b2 (Nat.le_refl _)).mono_ b2.size)
    clear C2 b2 HB1 Fv_1
    have C3 := Lib.hid (DN (punfold_any n3 HU.out w2))
    go_wp2_with (fail)
    refine (C3.out).mono ?_
    rintro e w3 ⟨rfl, b3⟩
    have HB3 := Lib.hid (HB2.out.trans (b3.mono HB2.out.size))
    have Fv_3 := Lib.hid ((Fv_2.out.below_ b3 (Nat.le_refl _)).mono_ b3.size)
    clear C3 b3 HB2 Fv_2
    have C4 := Lib.hid (DN (pfold_any (Pk.unfold n3) HUI.out w3))
    rw [E2.out] at C4
    go_wp2_with (fail)
    refine (C4.out).mono ?_
    rintro e w4 ⟨rfl, b4⟩
    have HB4 := Lib.hid (HB3.out.trans (b4.mono HB3.out.size))
    have Fv_4 := Lib.hid ((Fv_3.out.below_ b4 (Nat.le_refl _)).mono_ b4.size)
    clear C4 b4 HB3 Fv_3
    have C5 := Lib.hid (ppget_any l0 _ _ a1 w4 Fv_4.out (Nat.le_refl _))
    rw [HX.out] at C5
    go_wp2_with (fail)
    refine (C5.out).mono ?_
    rintro e w5 ⟨A5, c5, rfl, o5, b5⟩
    have HB5 := Lib.hid (HB4.out.trans (b5.mono HB4.out.size))
    have Fv_5 := Lib.hid ((Fv_4.out.below_ b5 (Nat.le_refl _)).mono_ b5.size)
    have Fx_5 := Lib.hid (o5.form_)
    clear C5 b5 HB4 Fv_4 o5
    clear Fv_5
    clear Fx_5
    have C6 := Lib.hid (works_pk w5)
    go_wp2_with (fail)
    refine (C6.out).mono ?_
    rintro e w6 ⟨rfl, b6⟩
    have HB6 := Lib.hid (HB5.out.trans (b6.mono HB5.out.size))
    clear C6 b6 HB5
    go_wp2
    go_ret
    exact ⟨rfl, HB6.out⟩

/-! ### From the walk to the row -/
set_option maxRecDepth 100000 in
theorem lifted (os : Os) (started : os.Started) (H : Type) (enc : TypeId × Value → H) :
    ReturnsInHanded {} Try.checked os 7 .any (Rows.packOneSpec.pre6 enc Try.prog Try.f7 Rows.packOneRow.domain false) (Rows.packOneSpec.post enc Try.prog Try.f7 false true false false) := by
  refine returnsInHanded_of_change (C := Try.checked) own started (by kernel_rfl) Try.func7
    (ChangeSpec.witness6 (enc := enc) (C := Try.checked) false ⟨#[], #[.slice none 0 0, .int .i64 0, .int .i64 0, .int .u64 0], []⟩ 8 (by kernel_rfl) (by kernel_rfl) (by kernel_rfl) (by kernel_rfl)) ?_
  intro W base args ds gs before hval0 hW hcnd _
  have hval : ∀ (j : Nat) t v, Try.f7.params[j]? = some t → args[j]? = some v → Value.okWide Try.prog W .any base t v := hval0
  have hW' := hW
  obtain ⟨p, q, hA0, hV, rfl, hfz, hnd⟩ := hW
  have hA : DataW.TrodAll enc Try.prog W 0 (fun _ => true) true Try.f7.params.toList args.toList ds p := hA0
  rw [Try.params7] at hA hval
  obtain ⟨v0, vs0, d0, ds0, p0, q0, hargs, rfl, rfl, h0, r0⟩ := trodAll_cons hA
  obtain ⟨v1, vs1, d1, ds1, p1, q1, rfl, rfl, rfl, h1, r1⟩ := trodAll_cons r0
  obtain ⟨v2, vs2, d2, ds2, p2, q2, rfl, rfl, rfl, h2, r2⟩ := trodAll_cons r1
  obtain ⟨v3, vs3, d3, ds3, p3, q3, rfl, rfl, rfl, h3, r3⟩ := trodAll_cons r2
  obtain ⟨rfl, rfl, rfl⟩ := trodAll_nil r3
  obtain rfl : args = #[v0, v1, v2, v3] := by cases args; simp_all
  obtain ⟨rfl, rfl⟩ := trodVars_none hV
  obtain ⟨a0, len0, cap0, rfl⟩ := okWide_slice Try.underlying28 (hval 0 28 v0 rfl rfl)
  have k0 := h0
  have lt0 : ∀ x ∈ p0, x.block < W.heap.size := by obtain ⟨m, hm⟩ := k0; exact DataW.trod_lt m _ _ _ hm
  obtain ⟨l0, len_0, hb0⟩ : ∃ l : List Nat, l.length = len0 ∧ Lv yK W W.heap.size (.slice a0 len0 cap0) l := by
    obtain ⟨fuel, hf⟩ := h0
    exact octs_in hf
  obtain ⟨a1, rfl, rfl, rfl, w1⟩ := open_int Try.underlying3 (hval 1 3 v1 rfl rfl) h1
  obtain ⟨a2, rfl, rfl, rfl, w2⟩ := open_int Try.underlying2 (hval 2 2 v2 rfl rfl) h2
  obtain ⟨a3, rfl, rfl, rfl, w3⟩ := open_int Try.underlying22 (hval 3 22 v3 rfl rfl) h3
  obtain ⟨n3, e3, b3⟩ := u64_nat w3
  subst e3
  clear hA0 hval0
  refine (walk W (.slice a0 len0 cap0) l0 hb0 a1 w1 a2 w2 n3 b3).mono fun e W' ⟨he, bel⟩ => ?_
  subst he
  exact ⟨_, rfl, _, _, _, [], _, [], hW', trodAll_mk1 (shut_bool Try.underlying4 _), (trodAll_cons_mk (Below.trod laidOut (by kernel_rfl) (of_decide_eq_true (by kernel_rfl)) k0 bel lt0) (trodAll_cons_mk (shut_int Try.underlying3 w1) (trodAll_cons_mk (shut_int Try.underlying2 w2) (trodAll_cons_mk (shut_int Try.underlying22 w3) trodAll_mk0)))), rfl, bel.frame _, fun h => by cases h⟩

theorem proved : Rows.PackOneSaid :=
  OpenClaim.holds_of_wide 7 Try.f7 rfl rfl rfl rfl rfl rfl rfl ⟨rfl, rfl, rfl, rfl, rfl⟩ rfl rfl rfl rfl rfl (by kernel_rfl) Try.func7 (by kernel_rfl)
    (of_decide_eq_true (by kernel_rfl)) (by unfold Func.isWrapper; first | (rw [if_pos (by decide +kernel)]; kernel_rfl) | (rw [if_neg (by decide +kernel)]; exact ⟨rfl, rfl⟩))
    (fun os started H enc _ => lifted os started H enc)

end Go.Proofs.Ytapedjcchcgoeaa.packOne
