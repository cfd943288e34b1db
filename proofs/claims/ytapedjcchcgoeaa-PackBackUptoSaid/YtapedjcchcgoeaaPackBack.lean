/-
  PackBack: a row that is put anywhere among bytes is got there. Bound: what comes in is, all told, at most 1048576.
-/
import Derived.Test.YtapedjcchcgoeaaFrameI
import Derived.Test.YtapedjcchcgoeaaFrameB
import Derived.Test.YtapedjcchcgoeaaBulkL
import Derived.Test.YtapedjcchcgoeaaPkLaw
import Derived.Test.YtapedjcchcgoeaaPkMathB
import Derived.Test.YtapedjcchcgoeaaPkMathC
import Derived.Test.YtapedjcchcgoeaaBvLv
namespace Go.Proofs.Ytapedjcchcgoeaa.packBack
open Go.ChangeShapes Go.WideShapes Go.ChangeAt Go.RowKit
open Go.ChangeMaps (open_string shut_string)
set_option linter.unusedVariables false

set_option maxHeartbeats 2000000 in
set_option maxRecDepth 100000 in
theorem walk (w : World) (v0 : Value) (l0 : List Int) (h0 : Lv iK w w.heap.size v0 l0) (v1 : Value) (l1 : List Nat) (h1 : Lv yK w w.heap.size v1 l1) (v2 : Value) (l2 : List Nat) (h2 : Lv yK w w.heap.size v2 l2) (hs : l0.length + l1.length + l2.length ≤ 1048576) :
    Calls Try.prog 6 #[v0, v1, v2] w (IsBool true w) := by
  obtain ⟨⟨q, E⟩, hx⟩ : ∃ r, Pk.putE l0 = r := ⟨_, rfl⟩
  have H0 := Lib.hid h0
  have H1 := Lib.hid h1
  have H2 := Lib.hid h2
  obtain ⟨A1, c1, rfl, -, -, -, -, -⟩ := h1
  obtain ⟨A2, c2, rfl, -, -, -, -, -⟩ := h2
  by_cases hE : E = 0
  · skip
    subst hE
    have hq := Pk.putE_small hx
    have hg := Pk.getE_put hx l1 l2
    have hql : q.length ≤ 3145731 := by omega
    have hl1 : l1.length ≤ 1048576 := by omega
    have hl2 : l2.length ≤ 1048576 := by omega
    have HX := Lib.hid hx
    have HG := Lib.hid hg
    clear hx hq hg hs
    have Fl_0 := Lib.hid (H0.out)
    have Fb_0 := Lib.hid (H1.out)
    have Fd_0 := Lib.hid (H2.out)
    clear H0 H1 H2
    have HB0 := Lib.hid (Below.refl w.heap.size w)
    go_enter Try.func6, Try.ntmps6
    have C1 := Lib.hid (ppput_any l0 _ _ w Fl_0.out (Nat.le_refl _))
    rw [HX.out] at C1
    go_wp2_with (fail)
    refine (C1.out).mono ?_
    rintro e w1 ⟨A1, c1, rfl, o1, b1⟩
    have HB1 := Lib.hid (HB0.out.trans (b1.mono HB0.out.size))
    have Fl_1 := Lib.hid ((Fl_0.out.below_ b1 (Nat.le_refl _)).mono_ b1.size)
    have Fb_1 := Lib.hid ((Fb_0.out.below_ b1 (Nat.le_refl _)).mono_ b1.size)
    have Fd_1 := Lib.hid ((Fd_0.out.below_ b1 (Nat.le_refl _)).mono_ b1.size)
    have Fq_1 := Lib.hid (o1.form_)
    clear C1 b1 HB0 Fl_0 Fb_0 Fd_0 o1
    go_wp2_with (at_builtin; go_must (refine wpList_append_m _ yK rfl _ _ rfl w1.heap.size (.slice none 0 0) rfl [] (OwnL.nil_ _ _ _) _ rfl _ l1 Fb_1.out (by show (_ + _) * 1 ≤ _; simp only [List.length_nil]; omega) (by simp only [List.length_nil, maxLen]; omega) (Nat.le_refl _) ?_))
    intro A5 c5 w5 hA hG hM
    have HG5 := Lib.hid ((Below.refl w1.heap.size w1).grown hG (Nat.le_refl _) (by intro k hk; cases hk))
    have HA5 : Hid (OwnL yK w5 w1.heap.size (.slice A5 l1.length c5) l1) := by unfold Hid; simpa using hA
    have HQ5 := Lib.hid (Fq_1.out.below_ HG5.out (Nat.le_refl _))
    clear hA hG hM
    go_wp2_with (at_builtin; go_must (refine wpList_append_m _ yK rfl _ _ rfl w1.heap.size (.slice A5 l1.length c5) rfl l1 HA5.out _ rfl _ q HQ5.out (by show (_ + _) * 1 ≤ _; omega) (by simp only [maxLen]; omega) HG5.out.size ?_))
    intro A6 c6 w6 hA hG hM
    have HG6 := Lib.hid (HG5.out.grown hG HG5.out.size (fun k hk => (HA5.out.lt_ k hk).1))
    have HA6 : Hid (OwnL yK w6 w1.heap.size (.slice A6 (l1.length + q.length) c6) (l1 ++ q)) := hA
    have HD6 := Lib.hid (Fd_1.out.below_ HG6.out (Nat.le_refl _))
    clear hA hG hM HA5 HG5 HQ5
    go_wp2_with (at_builtin; go_must (refine wpList_append_m _ yK rfl _ _ rfl w1.heap.size (.slice A6 (l1.length + q.length) c6) rfl (l1 ++ q) HA6.out _ rfl _ l2 HD6.out (by show (_ + _) * 1 ≤ _; rw [List.length_append]; omega) (by rw [List.length_append]; simp only [maxLen]; omega) HG6.out.size ?_))
    intro A7 c7 w7 hA hG hM
    have hg7 := (HG6.out.grown hG HG6.out.size (fun k hk => (HA6.out.lt_ k hk).1))
    have HAL : Hid (OwnL yK w7 w1.heap.size (.slice A7 (l1.length + (q.length + l2.length)) c7) (l1 ++ (q ++ l2))) := hA
    clear hA hG hM HA6 HG6 HD6
    have b2 := hg7
    have HB2 := Lib.hid (HB1.out.trans (b2.mono HB1.out.size))
    have Fl_2 := Lib.hid ((Fl_1.out.below_ b2 (Nat.le_refl _)).mono_ b2.size)
    have Fb_2 := Lib.hid ((Fb_1.out.below_ b2 (Nat.le_refl _)).mono_ b2.size)
    have Fd_2 := Lib.hid ((Fd_1.out.below_ b2 (Nat.le_refl _)).mono_ b2.size)
    have Fq_2 := Lib.hid ((Fq_1.out.below_ b2 (Nat.le_refl _)).mono_ b2.size)
    clear b2 HB1 Fl_1 Fb_1 Fd_1 Fq_1
    clear Fd_2
    clear hg7
    have Fall_2 := Lib.hid HAL.out.form_
    clear HAL
    have C3 := Lib.hid (ppget_any (l1 ++ (q ++ l2)) _ _ (l1.length : Nat) w7 Fall_2.out (Nat.le_refl _))
    rw [HG.out] at C3
    go_wp2_with (fail)
    refine (C3.out).mono ?_
    rintro e w3 ⟨A3, c3, rfl, o3, b3⟩
    have HB3 := Lib.hid (HB2.out.trans (b3.mono HB2.out.size))
    have Fl_3 := Lib.hid ((Fl_2.out.below_ b3 (Nat.le_refl _)).mono_ b3.size)
    have Fb_3 := Lib.hid ((Fb_2.out.below_ b3 (Nat.le_refl _)).mono_ b3.size)
    have Fq_3 := Lib.hid ((Fq_2.out.below_ b3 (Nat.le_refl _)).mono_ b3.size)
    have Fall_3 := Lib.hid ((Fall_2.out.below_ b3 (Nat.le_refl _)).mono_ b3.size)
    have Fm_3 := Lib.hid (o3.form_)
    clear C3 b3 HB2 Fl_2 Fb_2 Fq_2 Fall_2 o3
    clear Fall_3
    clear Fq_3
    clear Fb_3
    have wk : IntKind.i64.wrap ((l1.length : Int) + (q.length : Int)) = (l1.length : Int) + (q.length : Int) := by rw [IntKind.wrap_i64]; omega
    have dn : (((l1.length + q.length : Nat) : Int) == (l1.length : Int) + (q.length : Int)) = true := by rw [beq_iff_eq]; omega
    have C4 := Lib.hid (ints_lv _ _ _ _ _ _ w3 Fl_3.out Fm_3.out)
    simp only [decide_true] at C4
    go_wp2_with (fail)
    refine (C4.out).mono ?_
    rintro e w4 ⟨rfl, b4⟩
    have HB4 := Lib.hid (HB3.out.trans (b4.mono HB3.out.size))
    have Fl_4 := Lib.hid ((Fl_3.out.below_ b4 (Nat.le_refl _)).mono_ b4.size)
    have Fm_4 := Lib.hid ((Fm_3.out.below_ b4 (Nat.le_refl _)).mono_ b4.size)
    clear C4 b4 HB3 Fl_3 Fm_3
    clear Fl_4
    clear Fm_4
    have C5 := Lib.hid (works_pk w4)
    go_wp2_with (fail)
    refine (C5.out).mono ?_
    rintro e w5 ⟨rfl, b5⟩
    have HB5 := Lib.hid (HB4.out.trans (b5.mono HB4.out.size))
    clear C5 b5 HB4
    go_wp2
    go_ret
    exact ⟨rfl, HB5.out⟩
  · skip
    have hq : q = [] := by
      unfold Pk.putE at hx
      split at hx
      · exact (Prod.mk.inj hx).1.symm
      · split at hx
        · exact absurd (Prod.mk.inj hx).2.symm hE
        · exact (Prod.mk.inj hx).1.symm
    subst hq
    have hEi : ((E : Int) != 0) = true := by rw [bne_iff_ne]; omega
    have HX := Lib.hid hx
    clear hx hE hs H1 H2
    have Fl_0 := Lib.hid (H0.out)
    clear H0
    have HB0 := Lib.hid (Below.refl w.heap.size w)
    go_enter Try.func6, Try.ntmps6
    have C1 := Lib.hid (ppput_any l0 _ _ w Fl_0.out (Nat.le_refl _))
    rw [HX.out] at C1
    go_wp2_with (fail)
    refine (C1.out).mono ?_
    rintro e w1 ⟨A1, c1, rfl, o1, b1⟩
    have HB1 := Lib.hid (HB0.out.trans (b1.mono HB0.out.size))
    have Fl_1 := Lib.hid ((Fl_0.out.below_ b1 (Nat.le_refl _)).mono_ b1.size)
    have Fq_1 := Lib.hid (o1.form_)
    clear C1 b1 HB0 Fl_0 o1
    clear Fl_1
    clear Fq_1
    have C2 := Lib.hid (works_pk w1)
    go_wp2_with (fail)
    refine (C2.out).mono ?_
    rintro e w2 ⟨rfl, b2⟩
    have HB2 := Lib.hid (HB1.out.trans (b2.mono HB1.out.size))
    clear C2 b2 HB1
    go_wp2
    go_ret
    exact ⟨rfl, HB2.out⟩

/-! ### From the walk to the row -/
set_option maxRecDepth 100000 in
theorem lifted (os : Os) (started : os.Started) (H : Type) (enc : TypeId × Value → H) (F : Stop.Interp) :
    ReturnsInHanded {} Try.checked os 6 .any ((Rows.OpenSpec.upto Rows.packBackSpec).pre6 enc Try.prog Try.f6 Rows.packBackUptoRow.domain false) (((Rows.OpenSpec.upto Rows.packBackSpec).at F).post enc Try.prog Try.f6 false true false false) := by
  refine returnsInHanded_of_cond (C := Try.checked) (s := Rows.OpenSpec.upto Rows.packBackSpec) (k := Rows.uptoSmall) rfl own started (by kernel_rfl) Try.func6
    (OpenSpec.witness (enc := enc) (C := Try.checked) (s := Rows.OpenSpec.upto Rows.packBackSpec) (k := Rows.uptoSmall) rfl false ⟨#[], #[.slice none 0 0, .slice none 0 0, .slice none 0 0], []⟩ 8 (by kernel_rfl) (by kernel_rfl) (by kernel_rfl)
      (x := ([.nil, .nil, .nil], [], [])) (by kernel_rfl) rfl (by kernel_rfl)) ?_
  intro W base args ds gs before hval0 hW hcnd hsmall _
  have hval : ∀ (j : Nat) t v, Try.f6.params[j]? = some t → args[j]? = some v → Value.okWide Try.prog W .any base t v := hval0
  have hW' := hW
  obtain ⟨p, q, hA0, hV, rfl, hfz, hnd⟩ := hW
  have hA : DataW.TrodAll enc Try.prog W 0 (fun _ => true) true Try.f6.params.toList args.toList ds p := hA0
  rw [Try.params6] at hA hval
  obtain ⟨v0, vs0, d0, ds0, p0, q0, hargs, rfl, rfl, h0, r0⟩ := trodAll_cons hA
  obtain ⟨v1, vs1, d1, ds1, p1, q1, rfl, rfl, rfl, h1, r1⟩ := trodAll_cons r0
  obtain ⟨v2, vs2, d2, ds2, p2, q2, rfl, rfl, rfl, h2, r2⟩ := trodAll_cons r1
  obtain ⟨rfl, rfl, rfl⟩ := trodAll_nil r2
  obtain rfl : args = #[v0, v1, v2] := by cases args; simp_all
  obtain ⟨rfl, rfl⟩ := trodVars_none hV
  obtain ⟨a0, len0, cap0, rfl⟩ := okWide_slice Try.underlying27 (hval 0 27 v0 rfl rfl)
  have k0 := h0
  have lt0 : ∀ x ∈ p0, x.block < W.heap.size := by obtain ⟨m, hm⟩ := k0; exact DataW.trod_lt m _ _ _ hm
  have bulk0 : len0 ≤ Rows.uptoBulk d0 := by
    obtain ⟨fuel, hf⟩ := h0
    exact bulk_slice Try.underlying27 hf
  obtain ⟨l0, len_0, hb0⟩ : ∃ l : List Int, l.length = len0 ∧ Lv iK W W.heap.size (.slice a0 len0 cap0) l := by
    obtain ⟨fuel, hf⟩ := h0
    rcases open_ints Try.underlying27 Try.underlying3 (by kernel_rfl) hf with ⟨hcs, _⟩ | ⟨x, l, c, zs, hcs, _, hl, hm, hz, _, hcell, hwz⟩
    · simp [Value.cells] at hcs
      obtain ⟨rfl, rfl, rfl⟩ := hcs
      exact ints_in (.inl ⟨rfl, rfl, rfl⟩)
    · simp [Value.cells] at hcs
      obtain ⟨rfl, rfl, rfl⟩ := hcs
      exact ints_in (.inr ⟨x, zs, rfl, hl, hm, by simpa using hz, hcell, hwz⟩)
  obtain ⟨a1, len1, cap1, rfl⟩ := okWide_slice Try.underlying28 (hval 1 28 v1 rfl rfl)
  have k1 := h1
  have lt1 : ∀ x ∈ p1, x.block < W.heap.size := by obtain ⟨m, hm⟩ := k1; exact DataW.trod_lt m _ _ _ hm
  have bulk1 : len1 ≤ Rows.uptoBulk d1 := by
    obtain ⟨fuel, hf⟩ := h1
    exact bulk_slice Try.underlying28 hf
  obtain ⟨l1, len_1, hb1⟩ : ∃ l : List Nat, l.length = len1 ∧ Lv yK W W.heap.size (.slice a1 len1 cap1) l := by
    obtain ⟨fuel, hf⟩ := h1
    exact octs_in hf
  obtain ⟨a2, len2, cap2, rfl⟩ := okWide_slice Try.underlying28 (hval 2 28 v2 rfl rfl)
  have k2 := h2
  have lt2 : ∀ x ∈ p2, x.block < W.heap.size := by obtain ⟨m, hm⟩ := k2; exact DataW.trod_lt m _ _ _ hm
  have bulk2 : len2 ≤ Rows.uptoBulk d2 := by
    obtain ⟨fuel, hf⟩ := h2
    exact bulk_slice Try.underlying28 hf
  obtain ⟨l2, len_2, hb2⟩ : ∃ l : List Nat, l.length = len2 ∧ Lv yK W W.heap.size (.slice a2 len2 cap2) l := by
    obtain ⟨fuel, hf⟩ := h2
    exact octs_in hf
  clear hA0 hval0
  have hsum := bulk_whole hsmall
  simp only [List.append_nil, Rows.uptoBulkAll] at hsum
  have hsum2 : l0.length + l1.length + l2.length ≤ 1048576 := by omega
  refine (walk W (.slice a0 len0 cap0) l0 hb0 (.slice a1 len1 cap1) l1 hb1 (.slice a2 len2 cap2) l2 hb2 hsum2).mono fun e W' ⟨he, bel⟩ => ?_
  subst he
  exact ⟨_, rfl, _, _, _, [], _, [], hW', trodAll_mk1 (shut_bool Try.underlying4 _), (trodAll_cons_mk (Below.trod laidOut (by kernel_rfl) (of_decide_eq_true (by kernel_rfl)) k0 bel lt0) (trodAll_cons_mk (Below.trod laidOut (by kernel_rfl) (of_decide_eq_true (by kernel_rfl)) k1 bel lt1) (trodAll_cons_mk (Below.trod laidOut (by kernel_rfl) (of_decide_eq_true (by kernel_rfl)) k2 bel lt2) trodAll_mk0))), rfl, bel.frame _, fun h => by cases h⟩

theorem proved : Rows.PackBackUptoSaid :=
  OpenClaim.holds_of_cond 6 Try.f6 rfl rfl rfl rfl rfl rfl rfl ⟨rfl, rfl, rfl, rfl, rfl⟩ rfl rfl rfl rfl rfl (by kernel_rfl) Try.func6 (by kernel_rfl)
    (of_decide_eq_true (by kernel_rfl)) (by unfold Func.isWrapper; first | (rw [if_pos (by decide +kernel)]; kernel_rfl) | (rw [if_neg (by decide +kernel)]; exact ⟨rfl, rfl⟩))
    (fun os started H enc _ F => lifted os started H enc F)

end Go.Proofs.Ytapedjcchcgoeaa.packBack
