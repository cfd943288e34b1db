/-
  CrcParts: the sum of two pieces is that of the first with the second behind, and both sums joined. No condition.
-/
import Derived.Test.YtgljncmegpamaaaCFrame
import Derived.Test.YtgljncmegpamaaaCWorks
import Derived.Test.YtgljncmegpamaaaCJoin
import Derived.Test.YtgljncmegpamaaaAppW
import Derived.SizedLaws
namespace Go.Proofs.Ytgljncmegpamaaa.crcParts
open Go.ChangeShapes Go.WideShapes Go.ChangeAt Go.RowKit
open Go.ChangeMaps (open_string shut_string)
set_option linter.unusedVariables false

set_option maxHeartbeats 1000000 in
set_option maxRecDepth 100000 in
theorem walk_long (w : World) (v0 : Value) (l0 : List Nat) (h0 : Bv w w.heap.size v0 l0) (v1 : Value) (l1 : List Nat) (h1 : Bv w w.heap.size v1 l1) (r1 : l1.length * 1 ≤ 140737488351232) (hl : 1048576 < l1.length) :
    Calls Try.prog 6 #[v0, v1] w (IsBool true w) := by
  have HW := Lib.hid (works_any w)
  obtain ⟨A0, c0, rfl, _⟩ := h0
  obtain ⟨A1, c1, rfl, _⟩ := h1
  go_enter Try.func6, Try.ntmps6
  go_wp2_with fail
  ((with_reducible refine HW.out.mono ?_); rintro e w2 ⟨rfl, hb⟩)
  go_wp2
  go_ret
  exact ⟨rfl, hb⟩

set_option maxHeartbeats 2000000 in
set_option maxRecDepth 100000 in
theorem walk_short (w : World) (v0 : Value) (l0 : List Nat) (h0 : Bv w w.heap.size v0 l0) (v1 : Value) (l1 : List Nat) (h1 : Bv w w.heap.size v1 l1) (r0 : l0.length * 1 ≤ 140737488351232) (hl : l1.length ≤ 1048576) :
    Calls Try.prog 6 #[v0, v1] w (IsBool true w) := by
  have H0 := Lib.hid h0
  have H1 := Lib.hid h1
  obtain ⟨A0, c0, rfl, _⟩ := h0
  obtain ⟨A1, c1, rfl, _⟩ := h1
  have hnil := Lib.hid (OwnB.nil_ w w.heap.size)
  go_enter Try.func6, Try.ntmps6
  go_wp2_with (first
    | (at_builtin; refine wpList_append_bytes2 (o := ⟨some 14, _, _, _, _, _⟩) _ rfl _ _ rfl rfl w.heap.size _ rfl [] hnil.out _ rfl _ l0 H0.out (by simp) (by omega) (by simp; omega) (Nat.le_refl _) ?_
       intro A3 c3 w1 hA1
       have ho1 := hA1.own
       have hb1 := (Below.refl w.heap.size w).grown hA1.grown (Nat.le_refl _) (by intro k hk; cases hk)
       simp only [List.nil_append] at ho1
       have HO1 := Lib.hid ho1
       have HB1 := Lib.hid hb1
       have hz1 := hb1.size
       have H11 := Lib.hid (H1.out.below_ hb1 (Nat.le_refl _))
       clear hA1 ho1 hb1)
    | (at_builtin; refine wpList_append_bytes2 (o := ⟨some 17, _, _, _, _, _⟩) _ rfl _ _ rfl rfl w.heap.size _ rfl l0 HO1.out _ rfl _ l1 H11.out (by omega) (by omega) (by omega) hz1 ?_
       intro A5 c5 w2 hA3))
  have HB2 := Lib.hid (HB1.out.grown hA3.grown hz1 (fun k hk => (HO1.out.lt_ k hk).1))
  have hf := hA3.own.form_
  rw [List.length_append] at hf
  have HC := Lib.hid (of_any _ _ _ w2 hf)
  have b0 := H0.out.below_ HB2.out (Nat.le_refl _)
  have b1 := H1.out.below_ HB2.out (Nat.le_refl _)
  have u0 := Cr.of_b32 b0.lt_
  have u1 := Cr.of_b32 b1.lt_
  have HC0 := Lib.hid (of_any _ _ _ w2 b0)
  have HC1 := Lib.hid (of_any _ _ _ w2 b1)
  have HJ := join_any (Cr.of l0) (Cr.of l1) l1.length u0 u1 w2
  have HM := more_any (Cr.of l0) u0 _ l1 _ w2 b1
  rw [joined_good hl, Cr.join_of] at HJ
  rw [← Cr.of_append] at HM
  have HJ := Lib.hid HJ
  have HM := Lib.hid HM
  have HW := Lib.hid (works_any w2)
  obtain ⟨t, ht⟩ : ∃ t, Cr.of (l0 ++ l1) = t := ⟨_, rfl⟩
  obtain ⟨s0, e0⟩ : ∃ t, Cr.of l0 = t := ⟨_, rfl⟩
  obtain ⟨s1, e1⟩ : ∃ t, Cr.of l1 = t := ⟨_, rfl⟩
  rw [ht] at HC HJ HM
  rw [e0] at HC0 HJ HM
  rw [e1] at HC1 HJ
  clear hA3 HB1 HO1 H11 hz1 hf b0 b1 u0 u1 ht e0 e1 H0 H1 hnil
  ((with_reducible refine HC0.out.mono ?_); rintro e w' ⟨rfl, rfl⟩)
  go_wp2_with fail
  ((with_reducible refine HC1.out.mono ?_); rintro e w' ⟨rfl, rfl⟩)
  go_wp2_with fail
  ((with_reducible refine HJ.out.mono ?_); rintro e w' ⟨rfl, rfl⟩)
  go_wp2_with fail
  ((with_reducible refine HC.out.mono ?_); rintro e w' ⟨rfl, rfl⟩)
  go_wp2_with fail
  ((with_reducible refine HC0.out.mono ?_); rintro e w' ⟨rfl, rfl⟩)
  go_wp2_with fail
  ((with_reducible refine HM.out.mono ?_); rintro e w' ⟨rfl, rfl⟩)
  go_wp2_with fail
  ((with_reducible refine HC.out.mono ?_); rintro e w' ⟨rfl, rfl⟩)
  go_wp2_with fail
  ((with_reducible refine HW.out.mono ?_); rintro e w3 ⟨rfl, hb⟩)
  go_wp2
  go_ret
  exact ⟨rfl, HB2.out.trans (hb.mono HB2.out.size)⟩

theorem walk (w : World) (v0 : Value) (l0 : List Nat) (h0 : Bv w w.heap.size v0 l0) (v1 : Value) (l1 : List Nat) (h1 : Bv w w.heap.size v1 l1) (r0 : l0.length * 1 ≤ 140737488351232) (r1 : l1.length * 1 ≤ 140737488351232) :
    Calls Try.prog 6 #[v0, v1] w (IsBool true w) := by
  by_cases hl : l1.length ≤ 1048576
  · exact walk_short w v0 l0 h0 v1 l1 h1 r0 hl
  · exact walk_long w v0 l0 h0 v1 l1 h1 r1 (by omega)

/-! ### From the walk to the row -/
set_option maxRecDepth 100000 in
theorem lifted (os : Os) (started : os.Started) (H : Type) (enc : TypeId × Value → H) :
    ReturnsInHanded {} Try.checked os 6 .any (Rows.crcPartsSpec.pre6 enc Try.prog Try.f6 Rows.crcPartsRow.domain false) (Rows.crcPartsSpec.post enc Try.prog Try.f6 false true false false) := by
  refine returnsInHanded_of_change_sized (C := Try.checked) own started (by kernel_rfl) Try.func6
    (ChangeSpec.witness6 (enc := enc) (C := Try.checked) false ⟨#[], #[.slice none 0 0, .slice none 0 0], []⟩ 8 (by kernel_rfl) (by kernel_rfl) (by kernel_rfl) (by kernel_rfl)) ?_
  intro W base args ds gs before hval0 hW hcnd hreach _
  have hval : ∀ (j : Nat) t v, Try.f6.params[j]? = some t → args[j]? = some v → Value.okWide Try.prog W .any base t v := hval0
  have hW' := hW
  obtain ⟨p, q, hA0, hV, rfl, hfz, hnd⟩ := hW
  have hA : DataW.TrodAll enc Try.prog W 0 (fun _ => true) true Try.f6.params.toList args.toList ds p := hA0
  rw [Try.params6] at hA hval
  obtain ⟨v0, vs0, d0, ds0, p0, q0, hargs, rfl, rfl, h0, r0⟩ := trodAll_cons hA
  obtain ⟨v1, vs1, d1, ds1, p1, q1, rfl, rfl, rfl, h1, r1⟩ := trodAll_cons r0
  obtain ⟨rfl, rfl, rfl⟩ := trodAll_nil r1
  obtain rfl : args = #[v0, v1] := by cases args; simp_all
  obtain ⟨rfl, rfl⟩ := trodVars_none hV
  obtain ⟨a0, len0, cap0, rfl⟩ := okWide_slice Try.underlying27 (hval 0 27 v0 rfl rfl)
  have k0 := h0
  have lt0 : ∀ x ∈ p0, x.block < W.heap.size := by obtain ⟨m, hm⟩ := k0; exact DataW.trod_lt m _ _ _ hm
  obtain ⟨l0, len_0, hb0⟩ : ∃ l : List Nat, l.length = len0 ∧ Bv W W.heap.size (.slice a0 len0 cap0) l := by
    obtain ⟨fuel, hf⟩ := h0
    rcases open_ints Try.underlying27 Try.underlying5 (by kernel_rfl) hf with ⟨hcs, _⟩ | ⟨x, l, c, zs, hcs, _, hl, hm, hz, _, hcell, hwz⟩
    · simp [Value.cells] at hcs
      obtain ⟨rfl, rfl, rfl⟩ := hcs
      exact bytes_in (.inl ⟨rfl, rfl, rfl⟩)
    · simp [Value.cells] at hcs
      obtain ⟨rfl, rfl, rfl⟩ := hcs
      exact bytes_in (.inr ⟨x, zs, rfl, hl, hm, by simpa using hz, hcell, hwz⟩)
  obtain ⟨a1, len1, cap1, rfl⟩ := okWide_slice Try.underlying27 (hval 1 27 v1 rfl rfl)
  have k1 := h1
  have lt1 : ∀ x ∈ p1, x.block < W.heap.size := by obtain ⟨m, hm⟩ := k1; exact DataW.trod_lt m _ _ _ hm
  obtain ⟨l1, len_1, hb1⟩ : ∃ l : List Nat, l.length = len1 ∧ Bv W W.heap.size (.slice a1 len1 cap1) l := by
    obtain ⟨fuel, hf⟩ := h1
    rcases open_ints Try.underlying27 Try.underlying5 (by kernel_rfl) hf with ⟨hcs, _⟩ | ⟨x, l, c, zs, hcs, _, hl, hm, hz, _, hcell, hwz⟩
    · simp [Value.cells] at hcs
      obtain ⟨rfl, rfl, rfl⟩ := hcs
      exact bytes_in (.inl ⟨rfl, rfl, rfl⟩)
    · simp [Value.cells] at hcs
      obtain ⟨rfl, rfl, rfl⟩ := hcs
      exact bytes_in (.inr ⟨x, zs, rfl, hl, hm, by simpa using hz, hcell, hwz⟩)
  have reach0 : len0 * 1 ≤ 140737488351232 := by
    obtain ⟨fuel, hf⟩ := k0
    rcases open_ints Try.underlying27 Try.underlying5 (by kernel_rfl) hf with ⟨hcs, _⟩ | ⟨x, l, c, zs, hcs, _, hl, hm, hz, hx, hcell, hwz⟩
    · simp [Value.cells] at hcs
      omega
    · simp [Value.cells] at hcs
      obtain ⟨rfl, rfl, rfl⟩ := hcs
      rw [Prod.mk.injEq] at hx
      have hs := sized_slice hreach (j := 0) (t := 27) (e := 5) (elems := lits .u8 (zs.take len0)) (spare := lits .u8 (zs.drop len0)) rfl (by rw [hx.1]; rfl) Try.underlying27
      have hb : Try.prog.bytesOf 5 = 1 := by kernel_rfl
      change _ * Try.prog.bytesOf 5 ≤ _ at hs
      rw [hb] at hs
      simp [lits, reachBytes] at hs hz
      omega
  have reach1 : len1 * 1 ≤ 140737488351232 := by
    obtain ⟨fuel, hf⟩ := k1
    rcases open_ints Try.underlying27 Try.underlying5 (by kernel_rfl) hf with ⟨hcs, _⟩ | ⟨x, l, c, zs, hcs, _, hl, hm, hz, hx, hcell, hwz⟩
    · simp [Value.cells] at hcs
      omega
    · simp [Value.cells] at hcs
      obtain ⟨rfl, rfl, rfl⟩ := hcs
      rw [Prod.mk.injEq] at hx
      have hs := sized_slice hreach (j := 1) (t := 27) (e := 5) (elems := lits .u8 (zs.take len1)) (spare := lits .u8 (zs.drop len1)) rfl (by rw [hx.1]; rfl) Try.underlying27
      have hb : Try.prog.bytesOf 5 = 1 := by kernel_rfl
      change _ * Try.prog.bytesOf 5 ≤ _ at hs
      rw [hb] at hs
      simp [lits, reachBytes] at hs hz
      omega
  clear hA0 hval0
  refine (walk W (.slice a0 len0 cap0) l0 hb0 (.slice a1 len1 cap1) l1 hb1 (by rw [len_0]; exact reach0) (by rw [len_1]; exact reach1)).mono fun e W' ⟨he, bel⟩ => ?_
  subst he
  exact ⟨_, rfl, _, _, _, [], _, [], hW', trodAll_mk1 (shut_bool Try.underlying4 _), (trodAll_cons_mk (Below.trod laidOut (by kernel_rfl) (of_decide_eq_true (by kernel_rfl)) k0 bel lt0) (trodAll_cons_mk (Below.trod laidOut (by kernel_rfl) (of_decide_eq_true (by kernel_rfl)) k1 bel lt1) trodAll_mk0)), rfl, bel.frame _, fun h => by cases h⟩

theorem proved : Rows.CrcPartsSaid :=
  OpenClaim.holds_of_wide 6 Try.f6 rfl rfl rfl rfl rfl rfl rfl ⟨rfl, rfl, rfl, rfl, rfl⟩ rfl rfl rfl rfl rfl (by kernel_rfl) Try.func6 (by kernel_rfl)
    (of_decide_eq_true (by kernel_rfl)) (by unfold Func.isWrapper; first | (rw [if_pos (by decide +kernel)]; kernel_rfl) | (rw [if_neg (by decide +kernel)]; exact ⟨rfl, rfl⟩))
    (fun os started H enc _ => lifted os started H enc)

end Go.Proofs.Ytgljncmegpamaaa.crcParts
