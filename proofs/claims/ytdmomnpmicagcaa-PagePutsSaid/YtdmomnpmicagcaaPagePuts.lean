/-
  PagePuts: a page's bytes, or the error, are the document's; what is handed in stays. Reach: each slice that comes in has at most 140737488351232 bytes.
-/
import Derived.Test.YtdmomnpmicagcaaFrame
import Derived.Test.YtdmomnpmicagcaaCFrame
import Derived.Test.YtdmomnpmicagcaaPgLaw
import Derived.Test.YtdmomnpmicagcaaBvLv
import Derived.Test.YtdmomnpmicagcaaFreshA
import Derived.Test.YtdmomnpmicagcaaLeft
namespace Go.Proofs.Ytdmomnpmicagcaa.pagePuts
open Go.ChangeShapes Go.WideShapes Go.ChangeAt Go.RowKit
open Go.ChangeMaps (open_string shut_string)
set_option linter.unusedVariables false

set_option maxHeartbeats 2000000 in
set_option maxRecDepth 100000 in
theorem walk (w : World) (a0 : Int) (w0 : (Lit.int .i64 a0).wf = true) (n1 : Nat) (b1 : n1 < 256) (v2 : Value) (l2 : List Nat) (g2 : Bv w w.heap.size v2 l2) (q2 : l2.length * 1 ≤ 140737488351232) :
    Calls Try.prog 3 #[.int .i64 a0, .int .u8 (n1 : Nat), v2] w (IsBool true w) := by
  have HR : Hid (l2.length ≤ 140737488351232) := by unfold Hid; omega
  have HK := Lib.hid b1
  obtain ⟨⟨x, E⟩, hx⟩ : ∃ r, Pg.putE a0 n1 l2 = r := ⟨_, rfl⟩
  have HX := Lib.hid hx
  clear hx q2 w0 b1
  have Fb_0 := Lib.hid (g2.lv_)
  clear g2
  have HB0 := Lib.hid (Below.refl w.heap.size w)
  go_enter Try.func3, Try.ntmps3
  have C1 := Lib.hid (wide_far _ l2 _ w (Nat.le_refl _) Fb_0.out.bv_ HR.out)
  go_wp2_with (fail)
  refine (C1.out).mono ?_
  rintro e w1 ⟨g1, rfl, o1, b1⟩
  have HB1 := Lib.hid (HB0.out.trans (b1.mono HB0.out.size))
  have Fb_1 := Lib.hid ((Fb_0.out.below_ b1 (Nat.le_refl _)).mono_ b1.size)
  clear C1 b1 HB0 Fb_0
  have ht := o1.form_.take_ (k := l2.length) (by simp)
  rw [List.take_left] at ht
  have Fz_1 : Hid (Lv yK w1 w1.heap.size (.slice (some ⟨g1, 0, none⟩) l2.length (l2.length + 3)) l2) := ht.lv_
  have Fzw_1 : Hid (Lv yK w1 w1.heap.size (.slice (some ⟨g1, 0, none⟩) (l2.length + 3) (l2.length + 3)) (l2 ++ [7, 7, 7])) := o1.form_.lv_
  clear ht o1
  have C2 := Lib.hid (ppgput_any a0 n1 _ l2 _ w1 HK.out Fz_1.out (Nat.le_refl _))
  rw [HX.out] at C2
  go_wp2_with (fail)
  refine (C2.out).mono ?_
  rintro e w2 ⟨A2, c2, rfl, o2, b2⟩
  have HB2 := Lib.hid (HB1.out.trans (b2.mono HB1.out.size))
  have Fb_2 := Lib.hid ((Fb_1.out.below_ b2 (Nat.le_refl _)).mono_ b2.size)
  have Fz_2 := Lib.hid ((Fz_1.out.below_ b2 (Nat.le_refl _)).mono_ b2.size)
  have Fzw_2 := Lib.hid ((Fzw_1.out.below_ b2 (Nat.le_refl _)).mono_ b2.size)
  have Fx_2 := Lib.hid (o2.form_)
  clear C2 b2 HB1 Fb_1 Fz_1 Fzw_1 o2
  have C3 := Lib.hid (rpgput_any a0 n1 _ l2 _ w2 HK.out Fb_2.out (Nat.le_refl _))
  rw [HX.out] at C3
  go_wp2_with (fail)
  refine (C3.out).mono ?_
  rintro e w3 ⟨A3, c3, rfl, o3, b3⟩
  have HB3 := Lib.hid (HB2.out.trans (b3.mono HB2.out.size))
  have Fb_3 := Lib.hid ((Fb_2.out.below_ b3 (Nat.le_refl _)).mono_ b3.size)
  have Fz_3 := Lib.hid ((Fz_2.out.below_ b3 (Nat.le_refl _)).mono_ b3.size)
  have Fzw_3 := Lib.hid ((Fzw_2.out.below_ b3 (Nat.le_refl _)).mono_ b3.size)
  have Fx_3 := Lib.hid ((Fx_2.out.below_ b3 (Nat.le_refl _)).mono_ b3.size)
  have Fy_3 := Lib.hid (o3.form_)
  clear C3 b3 HB2 Fb_2 Fz_2 Fzw_2 Fx_2 o3
  clear Fz_3
  have C4 := Lib.hid (octs_lv _ _ _ _ _ _ w3 Fx_3.out Fy_3.out)
  simp only [decide_true] at C4
  go_wp2_with (fail)
  refine (C4.out).mono ?_
  rintro e w4 ⟨rfl, b4⟩
  have HB4 := Lib.hid (HB3.out.trans (b4.mono HB3.out.size))
  have Fb_4 := Lib.hid ((Fb_3.out.below_ b4 (Nat.le_refl _)).mono_ b4.size)
  have Fzw_4 := Lib.hid ((Fzw_3.out.below_ b4 (Nat.le_refl _)).mono_ b4.size)
  have Fx_4 := Lib.hid ((Fx_3.out.below_ b4 (Nat.le_refl _)).mono_ b4.size)
  have Fy_4 := Lib.hid ((Fy_3.out.below_ b4 (Nat.le_refl _)).mono_ b4.size)
  clear C4 b4 HB3 Fb_3 Fzw_3 Fx_3 Fy_3
  clear Fx_4
  clear Fy_4
  have C5 := Lib.hid (left_any g1 l2 _ _ _ w4 Fzw_4.out.bv_ Fb_4.out.bv_)
  go_wp2_with (fail)
  refine (C5.out).mono ?_
  rintro e w5 ⟨rfl, b5⟩
  have HB5 := Lib.hid (HB4.out.trans (b5.mono HB4.out.size))
  have Fb_5 := Lib.hid ((Fb_4.out.below_ b5 (Nat.le_refl _)).mono_ b5.size)
  have Fzw_5 := Lib.hid ((Fzw_4.out.below_ b5 (Nat.le_refl _)).mono_ b5.size)
  clear C5 b5 HB4 Fb_4 Fzw_4
  clear Fzw_5
  clear Fb_5
  have C6 := Lib.hid (lives_pg w5)
  go_wp2_with (fail)
  refine (C6.out).mono ?_
  rintro e w6 ⟨rfl, b6⟩
  have HB6 := Lib.hid (HB5.out.trans (b6.mono HB5.out.size))
  clear C6 b6 HB5
  go_wp2
  go_ret
  exact ⟨rfl, HB6.out⟩

/-! ### From the walk to the row -/
set_option maxRecDepth 100000 in
theorem lifted (os : Os) (started : os.Started) (H : Type) (enc : TypeId × Value → H) :
    ReturnsInHanded {} Try.checked os 3 .any (Rows.pagePutsSpec.pre6 enc Try.prog Try.f3 Rows.pagePutsRow.domain false) (Rows.pagePutsSpec.post enc Try.prog Try.f3 false true false false) := by
  refine returnsInHanded_of_change_sized (C := Try.checked) own started (by kernel_rfl) Try.func3
    (ChangeSpec.witness6 (enc := enc) (C := Try.checked) false ⟨#[], #[.int .i64 0, .int .u8 0, .slice none 0 0], []⟩ 8 (by kernel_rfl) (by kernel_rfl) (by kernel_rfl) (by kernel_rfl)) ?_
  intro W base args ds gs before hval0 hW hcnd hreach _
  have hval : ∀ (j : Nat) t v, Try.f3.params[j]? = some t → args[j]? = some v → Value.okWide Try.prog W .any base t v := hval0
  have hW' := hW
  obtain ⟨p, q, hA0, hV, rfl, hfz, hnd⟩ := hW
  have hA : DataW.TrodAll enc Try.prog W 0 (fun _ => true) true Try.f3.params.toList args.toList ds p := hA0
  rw [Try.params3] at hA hval
  obtain ⟨v0, vs0, d0, ds0, p0, q0, hargs, rfl, rfl, h0, r0⟩ := trodAll_cons hA
  obtain ⟨v1, vs1, d1, ds1, p1, q1, rfl, rfl, rfl, h1, r1⟩ := trodAll_cons r0
  obtain ⟨v2, vs2, d2, ds2, p2, q2, rfl, rfl, rfl, h2, r2⟩ := trodAll_cons r1
  obtain ⟨rfl, rfl, rfl⟩ := trodAll_nil r2
  obtain rfl : args = #[v0, v1, v2] := by cases args; simp_all
  obtain ⟨rfl, rfl⟩ := trodVars_none hV
  obtain ⟨a0, rfl, rfl, rfl, w0⟩ := open_int Try.underlying3 (hval 0 3 v0 rfl rfl) h0
  obtain ⟨a1, rfl, rfl, rfl, w1⟩ := open_int Try.underlying5 (hval 1 5 v1 rfl rfl) h1
  obtain ⟨n1, e1, b1⟩ := u8_nat w1
  subst e1
  obtain ⟨a2, len2, cap2, rfl⟩ := okWide_slice Try.underlying22 (hval 2 22 v2 rfl rfl)
  have k2 := h2
  have lt2 : ∀ x ∈ p2, x.block < W.heap.size := by obtain ⟨m, hm⟩ := k2; exact DataW.trod_lt m _ _ _ hm
  obtain ⟨l2, len_2, hb2⟩ : ∃ l : List Nat, l.length = len2 ∧ Bv W W.heap.size (.slice a2 len2 cap2) l := by
    obtain ⟨fuel, hf⟩ := h2
    rcases open_ints Try.underlying22 Try.underlying5 (by kernel_rfl) hf with ⟨hcs, _⟩ | ⟨x, l, c, zs, hcs, _, hl, hm, hz, _, hcell, hwz⟩
    · simp [Value.cells] at hcs
      obtain ⟨rfl, rfl, rfl⟩ := hcs
      exact bytes_in (.inl ⟨rfl, rfl, rfl⟩)
    · simp [Value.cells] at hcs
      obtain ⟨rfl, rfl, rfl⟩ := hcs
      exact bytes_in (.inr ⟨x, zs, rfl, hl, hm, by simpa using hz, hcell, hwz⟩)
  have reach2 : len2 * 1 ≤ 140737488351232 := by
    obtain ⟨fuel, hf⟩ := k2
    rcases open_ints Try.underlying22 Try.underlying5 (by kernel_rfl) hf with ⟨hcs, _⟩ | ⟨x, l, c, zs, hcs, _, hl, hm, hz, hx, hcell, hwz⟩
    · simp [Value.cells] at hcs
      omega
    · simp [Value.cells] at hcs
      obtain ⟨rfl, rfl, rfl⟩ := hcs
      rw [Prod.mk.injEq] at hx
      have hs := sized_slice hreach (j := 2) (t := 22) (e := 5) (elems := lits .u8 (zs.take len2)) (spare := lits .u8 (zs.drop len2)) rfl (by rw [hx.1]; rfl) Try.underlying22
      have hb : Try.prog.bytesOf 5 = 1 := by kernel_rfl
      change _ * Try.prog.bytesOf 5 ≤ _ at hs
      rw [hb] at hs
      simp [lits, reachBytes] at hs hz
      omega
  clear hA0 hval0
  refine (walk W a0 w0 n1 b1 (.slice a2 len2 cap2) l2 hb2 (by rw [len_2]; exact reach2)).mono fun e W' ⟨he, bel⟩ => ?_
  subst he
  exact ⟨_, rfl, _, _, _, [], _, [], hW', trodAll_mk1 (shut_bool Try.underlying4 _), (trodAll_cons_mk (shut_int Try.underlying3 w0) (trodAll_cons_mk (shut_int Try.underlying5 w1) (trodAll_cons_mk (Below.trod laidOut (by kernel_rfl) (of_decide_eq_true (by kernel_rfl)) k2 bel lt2) trodAll_mk0))), rfl, bel.frame _, fun h => by cases h⟩

theorem proved : Rows.PagePutsSaid :=
  OpenClaim.holds_of_wide 3 Try.f3 rfl rfl rfl rfl rfl rfl rfl ⟨rfl, rfl, rfl, rfl, rfl⟩ rfl rfl rfl rfl rfl (by kernel_rfl) Try.func3 (by kernel_rfl)
    (of_decide_eq_true (by kernel_rfl)) (by unfold Func.isWrapper; first | (rw [if_pos (by decide +kernel)]; kernel_rfl) | (rw [if_neg (by decide +kernel)]; exact ⟨rfl, rfl⟩))
    (fun os started H enc _ => lifted os started H enc)

end Go.Proofs.Ytdmomnpmicagcaa.pagePuts
