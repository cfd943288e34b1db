/-
  PackFresh: what is handed in stays, the room behind it, too; what is answered is new memory. Reach: each slice that comes in has at most 140737488351232 bytes.
-/
import Derived.Test.YtapedjcchcgoeaaFrameI
import Derived.Test.YtapedjcchcgoeaaFrame
import Derived.Test.YtapedjcchcgoeaaPkLaw
import Derived.Test.YtapedjcchcgoeaaBvLv
import Derived.Test.YtapedjcchcgoeaaCopyI
import Derived.Test.YtapedjcchcgoeaaSpoilI
import Derived.Test.YtapedjcchcgoeaaSpoilO
import Derived.Test.YtapedjcchcgoeaaFreshA
import Derived.Test.YtapedjcchcgoeaaLeft
namespace Go.Proofs.Ytapedjcchcgoeaa.packFresh
open Go.ChangeShapes Go.WideShapes Go.ChangeAt Go.RowKit
open Go.ChangeMaps (open_string shut_string)
set_option linter.unusedVariables false

set_option maxHeartbeats 2000000 in
set_option maxRecDepth 100000 in
theorem walk (w : World) (v0 : Value) (l0 : List Int) (h0 : Lv iK w w.heap.size v0 l0) (v1 : Value) (l1 : List Nat) (g1 : Bv w w.heap.size v1 l1) (r0 : l0.length * 8 ≤ 140737488351232) (r1 : l1.length * 1 ≤ 140737488351232) :
    Calls Try.prog 8 #[v0, v1] w (IsBool true w) := by
  have HR0 : Hid (l0.length ≤ 17592186044416) := by unfold Hid; omega
  have HR1 : Hid (l1.length ≤ 140737488351232) := by unfold Hid; omega
  obtain ⟨⟨x, E⟩, hx⟩ : ∃ r, Pk.putE l0 = r := ⟨_, rfl⟩
  obtain ⟨⟨y, k, E2⟩, hy⟩ : ∃ r, Pk.getE l1 0 = r := ⟨_, rfl⟩
  have HX := Lib.hid hx
  have HY := Lib.hid hy
  clear hx hy r0 r1
  have Fv_0 := Lib.hid (h0)
  have Fb_0 := Lib.hid (g1.lv_)
  clear h0 g1
  have HB0 := Lib.hid (Below.refl w.heap.size w)
  go_enter Try.func8, Try.ntmps8
  have C1 := Lib.hid (copyInts_any _ l0 _ w Fv_0.out HR0.out)
  go_wp2_with (fail)
  refine (C1.out).mono ?_
  rintro e w1 ⟨A1, c1, rfl, o1, b1⟩
  have HB1 := Lib.hid (HB0.out.trans (b1.mono HB0.out.size))
  have Fv_1 := Lib.hid ((Fv_0.out.below_ b1 (Nat.le_refl _)).mono_ b1.size)
  have Fb_1 := Lib.hid ((Fb_0.out.below_ b1 (Nat.le_refl _)).mono_ b1.size)
  have Fown_1 := Lib.hid (o1.form_)
  clear C1 b1 HB0 Fv_0 Fb_0 o1
  have C2 := Lib.hid (ppput_any l0 _ _ w1 Fown_1.out (Nat.le_refl _))
  rw [HX.out] at C2
  go_wp2_with (fail)
  refine (C2.out).mono ?_
  rintro e w2 ⟨A2, c2, rfl, o2, b2⟩
  have C3 := Lib.hid (spoilO_any _ _ _ w2 o2)
  have Oz2 := Lib.hid o2
  have Bz2 := Lib.hid b2
  clear C2 o2 b2
  go_wp2_with (fail)
  refine (C3.out).mono ?_
  rintro e w3 ⟨⟨xx3, rfl⟩, g3⟩
  have b3 := Bz2.out.grown g3 Bz2.out.size (fun k hk => (Oz2.out.lt_ k hk).1)
  have HB3 := Lib.hid (HB1.out.trans (b3.mono HB1.out.size))
  have Fv_3 := Lib.hid ((Fv_1.out.below_ b3 (Nat.le_refl _)).mono_ b3.size)
  have Fb_3 := Lib.hid ((Fb_1.out.below_ b3 (Nat.le_refl _)).mono_ b3.size)
  have Fown_3 := Lib.hid ((Fown_1.out.below_ b3 (Nat.le_refl _)).mono_ b3.size)
  clear C3 b3 g3 Oz2 Bz2 HB1 Fv_1 Fb_1 Fown_1
  have C4 := Lib.hid (wide_far _ l1 _ w3 (Nat.le_refl _) Fb_3.out.bv_ HR1.out)
  go_wp2_with (fail)
  refine (C4.out).mono ?_
  rintro e w4 ⟨g4, rfl, o4, b4⟩
  have HB4 := Lib.hid (HB3.out.trans (b4.mono HB3.out.size))
  have Fv_4 := Lib.hid ((Fv_3.out.below_ b4 (Nat.le_refl _)).mono_ b4.size)
  have Fb_4 := Lib.hid ((Fb_3.out.below_ b4 (Nat.le_refl _)).mono_ b4.size)
  have Fown_4 := Lib.hid ((Fown_3.out.below_ b4 (Nat.le_refl _)).mono_ b4.size)
  clear C4 b4 HB3 Fv_3 Fb_3 Fown_3
  have ht := o4.form_.take_ (k := l1.length) (by simp)
  rw [List.take_left] at ht
  have Ft_4 : Hid (Lv yK w4 w4.heap.size (.slice (some ⟨g4, 0, none⟩) l1.length (l1.length + 3)) l1) := ht.lv_
  have Ftw_4 : Hid (Lv yK w4 w4.heap.size (.slice (some ⟨g4, 0, none⟩) (l1.length + 3) (l1.length + 3)) (l1 ++ [7, 7, 7])) := o4.form_.lv_
  clear ht o4
  have C5 := Lib.hid (ppget_any l1 _ _ 0 w4 Ft_4.out (Nat.le_refl _))
  rw [HY.out] at C5
  go_wp2_with (fail)
  refine (C5.out).mono ?_
  rintro e w5 ⟨A5, c5, rfl, o5, b5⟩
  have C6 := Lib.hid (spoilInts_any _ _ _ w5 o5)
  have Oz5 := Lib.hid o5
  have Bz5 := Lib.hid b5
  clear C5 o5 b5
  go_wp2_with (fail)
  refine (C6.out).mono ?_
  rintro e w6 ⟨⟨xx6, rfl⟩, g6⟩
  have b6 := Bz5.out.grown g6 Bz5.out.size (fun k hk => (Oz5.out.lt_ k hk).1)
  have HB6 := Lib.hid (HB4.out.trans (b6.mono HB4.out.size))
  have Fv_6 := Lib.hid ((Fv_4.out.below_ b6 (Nat.le_refl _)).mono_ b6.size)
  have Fb_6 := Lib.hid ((Fb_4.out.below_ b6 (Nat.le_refl _)).mono_ b6.size)
  have Fown_6 := Lib.hid ((Fown_4.out.below_ b6 (Nat.le_refl _)).mono_ b6.size)
  have Ft_6 := Lib.hid ((Ft_4.out.below_ b6 (Nat.le_refl _)).mono_ b6.size)
  have Ftw_6 := Lib.hid ((Ftw_4.out.below_ b6 (Nat.le_refl _)).mono_ b6.size)
  clear C6 b6 g6 Oz5 Bz5 HB4 Fv_4 Fb_4 Fown_4 Ft_4 Ftw_4
  clear Ft_6
  have C7 := Lib.hid (ints_lv _ _ _ _ _ _ w6 Fown_6.out Fv_6.out)
  simp only [decide_true] at C7
  go_wp2_with (fail)
  refine (C7.out).mono ?_
  rintro e w7 ⟨rfl, b7⟩
  have HB7 := Lib.hid (HB6.out.trans (b7.mono HB6.out.size))
  have Fv_7 := Lib.hid ((Fv_6.out.below_ b7 (Nat.le_refl _)).mono_ b7.size)
  have Fb_7 := Lib.hid ((Fb_6.out.below_ b7 (Nat.le_refl _)).mono_ b7.size)
  have Fown_7 := Lib.hid ((Fown_6.out.below_ b7 (Nat.le_refl _)).mono_ b7.size)
  have Ftw_7 := Lib.hid ((Ftw_6.out.below_ b7 (Nat.le_refl _)).mono_ b7.size)
  clear C7 b7 HB6 Fv_6 Fb_6 Fown_6 Ftw_6
  have C8 := Lib.hid (left_any g4 l1 _ _ _ w7 Ftw_7.out.bv_ Fb_7.out.bv_)
  go_wp2_with (fail)
  refine (C8.out).mono ?_
  rintro e w8 ⟨rfl, b8⟩
  have HB8 := Lib.hid (HB7.out.trans (b8.mono HB7.out.size))
  have Fv_8 := Lib.hid ((Fv_7.out.below_ b8 (Nat.le_refl _)).mono_ b8.size)
  have Fb_8 := Lib.hid ((Fb_7.out.below_ b8 (Nat.le_refl _)).mono_ b8.size)
  have Fown_8 := Lib.hid ((Fown_7.out.below_ b8 (Nat.le_refl _)).mono_ b8.size)
  have Ftw_8 := Lib.hid ((Ftw_7.out.below_ b8 (Nat.le_refl _)).mono_ b8.size)
  clear C8 b8 HB7 Fv_7 Fb_7 Fown_7 Ftw_7
  clear Fown_8
  clear Fv_8
  clear Ftw_8
  clear Fb_8
  have C9 := Lib.hid (works_pk w8)
  go_wp2_with (fail)
  refine (C9.out).mono ?_
  rintro e w9 ⟨rfl, b9⟩
  have HB9 := Lib.hid (HB8.out.trans (b9.mono HB8.out.size))
  clear C9 b9 HB8
  go_wp2
  go_ret
  exact ⟨rfl, HB9.out⟩

/-! ### From the walk to the row -/
set_option maxRecDepth 100000 in
theorem lifted (os : Os) (started : os.Started) (H : Type) (enc : TypeId × Value → H) :
    ReturnsInHanded {} Try.checked os 8 .any (Rows.packFreshSpec.pre6 enc Try.prog Try.f8 Rows.packFreshRow.domain false) (Rows.packFreshSpec.post enc Try.prog Try.f8 false true false false) := by
  refine returnsInHanded_of_change_sized (C := Try.checked) own started (by kernel_rfl) Try.func8
    (ChangeSpec.witness6 (enc := enc) (C := Try.checked) false ⟨#[], #[.slice none 0 0, .slice none 0 0], []⟩ 8 (by kernel_rfl) (by kernel_rfl) (by kernel_rfl) (by kernel_rfl)) ?_
  intro W base args ds gs before hval0 hW hcnd hreach _
  have hval : ∀ (j : Nat) t v, Try.f8.params[j]? = some t → args[j]? = some v → Value.okWide Try.prog W .any base t v := hval0
  have hW' := hW
  obtain ⟨p, q, hA0, hV, rfl, hfz, hnd⟩ := hW
  have hA : DataW.TrodAll enc Try.prog W 0 (fun _ => true) true Try.f8.params.toList args.toList ds p := hA0
  rw [Try.params8] at hA hval
  obtain ⟨v0, vs0, d0, ds0, p0, q0, hargs, rfl, rfl, h0, r0⟩ := trodAll_cons hA
  obtain ⟨v1, vs1, d1, ds1, p1, q1, rfl, rfl, rfl, h1, r1⟩ := trodAll_cons r0
  obtain ⟨rfl, rfl, rfl⟩ := trodAll_nil r1
  obtain rfl : args = #[v0, v1] := by cases args; simp_all
  obtain ⟨rfl, rfl⟩ := trodVars_none hV
  obtain ⟨a0, len0, cap0, rfl⟩ := okWide_slice Try.underlying27 (hval 0 27 v0 rfl rfl)
  have k0 := h0
  have lt0 : ∀ x ∈ p0, x.block < W.heap.size := by obtain ⟨m, hm⟩ := k0; exact DataW.trod_lt m _ _ _ hm
  obtain ⟨l0, len_0, hb0⟩ : ∃ l : List Int, l.length = len0 ∧ Lv iK W W.heap.size (.slice a0 len0 cap0) l := by
    obtain ⟨fuel, hf⟩ := h0
    rcases open_ints Try.underlying27 Try.underlying3 (by kernel_rfl) hf with ⟨hcs, _⟩ | ⟨x, l, c, zs, hcs, _, hl, hm, hz, _, hcell, hwz⟩
    · simp [Value.cells] at hcs
      obtain ⟨rfl, rfl, rfl⟩ := hcs
      exact ints_in (.inl ⟨rfl, rfl, rfl⟩)
    · simp [Value.cells] at hcs
      obtain ⟨rfl, rfl, rfl⟩ := hcs
      exact ints_in (.inr ⟨x, zs, rfl, hl, hm, by simpa using hz, hcell, hwz⟩)
  obtain ⟨a1, len1, cap1, rfl⟩ := okWide_slice Try.underlying28 (hval 1 28 v1 rfl rfl)
  have k1 := h1
  have lt1 : ∀ x ∈ p1, x.block < W.heap.size := by obtain ⟨m, hm⟩ := k1; exact DataW.trod_lt m _ _ _ hm
  obtain ⟨l1, len_1, hb1⟩ : ∃ l : List Nat, l.length = len1 ∧ Bv W W.heap.size (.slice a1 len1 cap1) l := by
    obtain ⟨fuel, hf⟩ := h1
    rcases open_ints Try.underlying28 Try.underlying5 (by kernel_rfl) hf with ⟨hcs, _⟩ | ⟨x, l, c, zs, hcs, _, hl, hm, hz, _, hcell, hwz⟩
    · simp [Value.cells] at hcs
      obtain ⟨rfl, rfl, rfl⟩ := hcs
      exact bytes_in (.inl ⟨rfl, rfl, rfl⟩)
    · simp [Value.cells] at hcs
      obtain ⟨rfl, rfl, rfl⟩ := hcs
      exact bytes_in (.inr ⟨x, zs, rfl, hl, hm, by simpa using hz, hcell, hwz⟩)
  have reach0 : len0 * 8 ≤ 140737488351232 := by
    obtain ⟨fuel, hf⟩ := k0
    rcases open_ints Try.underlying27 Try.underlying3 (by kernel_rfl) hf with ⟨hcs, _⟩ | ⟨x, l, c, zs, hcs, _, hl, hm, hz, hx, hcell, hwz⟩
    · simp [Value.cells] at hcs
      omega
    · simp [Value.cells] at hcs
      obtain ⟨rfl, rfl, rfl⟩ := hcs
      rw [Prod.mk.injEq] at hx
      have hs := sized_slice hreach (j := 0) (t := 27) (e := 3) (elems := lits .i64 (zs.take len0)) (spare := lits .i64 (zs.drop len0)) rfl (by rw [hx.1]; rfl) Try.underlying27
      have hb : Try.prog.bytesOf 3 = 8 := by kernel_rfl
      change _ * Try.prog.bytesOf 3 ≤ _ at hs
      rw [hb] at hs
      simp [lits, reachBytes] at hs hz
      omega
  have reach1 : len1 * 1 ≤ 140737488351232 := by
    obtain ⟨fuel, hf⟩ := k1
    rcases open_ints Try.underlying28 Try.underlying5 (by kernel_rfl) hf with ⟨hcs, _⟩ | ⟨x, l, c, zs, hcs, _, hl, hm, hz, hx, hcell, hwz⟩
    · simp [Value.cells] at hcs
      omega
    · simp [Value.cells] at hcs
      obtain ⟨rfl, rfl, rfl⟩ := hcs
      rw [Prod.mk.injEq] at hx
      have hs := sized_slice hreach (j := 1) (t := 28) (e := 5) (elems := lits .u8 (zs.take len1)) (spare := lits .u8 (zs.drop len1)) rfl (by rw [hx.1]; rfl) Try.underlying28
      have hb : Try.prog.bytesOf 5 = 1 := by kernel_rfl
      change _ * Try.prog.bytesOf 5 ≤ _ at hs
      rw [hb] at hs
      simp [lits, reachBytes] at hs hz
      omega
  clear hA0 hval0
  refine (walk W (.slice a0 len0 cap0) l0 hb0 (.slice a1 len1 cap1) l1 hb1 (by rw [len_0]; exact reach0) (by rw [len_1]; exact reach1)).mono fun e W' ⟨he, bel⟩ => ?_
  subst he
  exact ⟨_, rfl, _, _, _, [], _, [], hW', trodAll_mk1 (shut_bool Try.underlying4 _), (trodAll_cons_mk (Below.trod laidOut (by kernel_rfl) (of_decide_eq_true (by kernel_rfl)) k0 bel lt0) (trodAll_cons_mk (Below.trod laidOut (by kernel_rfl) (of_decide_eq_true (by kernel_rfl)) k1 bel lt1) trodAll_mk0)), rfl, bel.frame _, fun h => by cases h⟩

theorem proved : Rows.PackFreshSaid :=
  OpenClaim.holds_of_wide 8 Try.f8 rfl rfl rfl rfl rfl rfl rfl ⟨rfl, rfl, rfl, rfl, rfl⟩ rfl rfl rfl rfl rfl (by kernel_rfl) Try.func8 (by kernel_rfl)
    (of_decide_eq_true (by kernel_rfl)) (by unfold Func.isWrapper; first | (rw [if_pos (by decide +kernel)]; kernel_rfl) | (rw [if_neg (by decide +kernel)]; exact ⟨rfl, rfl⟩))
    (fun os started H enc _ => lifted os started H enc)

end Go.Proofs.Ytapedjcchcgoeaa.packFresh
