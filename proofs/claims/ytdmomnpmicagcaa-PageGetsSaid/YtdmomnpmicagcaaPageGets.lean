/-
  PageGets: what is read of any bytes is what the document says; what is handed in stays. Reach: each slice that comes in has at most 140737488351232 bytes.
-/
import Derived.Test.YtdmomnpmicagcaaFrame
import Derived.Test.YtdmomnpmicagcaaCFrame
import Derived.Test.YtdmomnpmicagcaaPgLaw
import Derived.Test.YtdmomnpmicagcaaBvLv
import Derived.Test.YtdmomnpmicagcaaFreshA
import Derived.Test.YtdmomnpmicagcaaLeft
import Derived.Test.YtdmomnpmicagcaaSpoilB
namespace Go.Proofs.Ytdmomnpmicagcaa.pageGets
open Go.ChangeShapes Go.WideShapes Go.ChangeAt Go.RowKit
open Go.ChangeMaps (open_string shut_string)
set_option linter.unusedVariables false

set_option maxHeartbeats 2000000 in
set_option maxRecDepth 100000 in
theorem walk (w : World) (a0 : Int) (w0 : (Lit.int .i64 a0).wf = true) (v1 : Value) (l1 : List Nat) (g1 : Bv w w.heap.size v1 l1) (q1 : l1.length * 1 ≤ 140737488351232) :
    Calls Try.prog 4 #[.int .i64 a0, v1] w (IsBool true w) := by
  have HR : Hid (l1.length ≤ 140737488351232) := by unfold Hid; omega
  obtain ⟨⟨k0, x, E⟩, hx⟩ : ∃ r, Pg.getE a0 l1 = r := ⟨_, rfl⟩
  have HX := Lib.hid hx
  clear hx q1 w0
  have Fb_0 := Lib.hid (g1.lv_)
  clear g1
  have HB0 := Lib.hid (Below.refl w.heap.size w)
  go_enter Try.func4, Try.ntmps4
  have C1 := Lib.hid (wide_far _ l1 _ w (Nat.le_refl _) Fb_0.out.bv_ HR.out)
  go_wp2_with (fail)
  refine (C1.out).mono ?_
  rintro e w1 ⟨g1, rfl, o1, b1⟩
  have HB1 := Lib.hid (HB0.out.trans (b1.mono HB0.out.size))
  have Fb_1 := Lib.hid ((Fb_0.out.below_ b1 (Nat.le_refl _)).mono_ b1.size)
  clear C1 b1 HB0 Fb_0
  have ht := o1.form_.take_ (k := l1.length) (by simp)
  rw [List.take_left] at ht
  have Fz_1 : Hid (Lv yK w1 w1.heap.size (.slice (some ⟨g1, 0, none⟩) l1.length (l1.length + 3)) l1) := ht.lv_
  have Fzw_1 : Hid (Lv yK w1 w1.heap.size (.slice (some ⟨g1, 0, none⟩) (l1.length + 3) (l1.length + 3)) (l1 ++ [7, 7, 7])) := o1.form_.lv_
  clear ht o1
  have Kb := Fb_1
  have Kzw := Fzw_1
  have KH := HB1
  have Mp_1 := Lib.hid (Below.refl w1.heap.size w1)
  have C2 := Lib.hid (ppgget_any a0 _ l1 _ w1 Fz_1.out (Nat.le_refl _))
  rw [HX.out] at C2
  go_wp2_with (fail)
  refine (C2.out).mono ?_
  rintro e w2 ⟨A2, c2, rfl, o2, b2⟩
  have HB2 := Lib.hid (HB1.out.trans (b2.mono HB1.out.size))
  have Fb_2 := Lib.hid ((Fb_1.out.below_ b2 (Nat.le_refl _)).mono_ b2.size)
  have Fz_2 := Lib.hid ((Fz_1.out.below_ b2 (Nat.le_refl _)).mono_ b2.size)
  have Fzw_2 := Lib.hid ((Fzw_1.out.below_ b2 (Nat.le_refl _)).mono_ b2.size)
  have Mp_2 := Lib.hid (Mp_1.out.trans (b2.mono Mp_1.out.size))
  have Fx_2 := Lib.hid (o2.form_)
  have Ox_2 := Lib.hid o2
  clear C2 b2 HB1 Fb_1 Fz_1 Fzw_1 Mp_1 o2
  clear Fz_2
  clear Fzw_2
  have C3 := Lib.hid (rpgget_any a0 _ l1 _ w2 Fb_2.out (Nat.le_refl _))
  rw [HX.out] at C3
  go_wp2_with (fail)
  refine (C3.out).mono ?_
  rintro e w3 ⟨A3, c3, rfl, o3, b3⟩
  have HB3 := Lib.hid (HB2.out.trans (b3.mono HB2.out.size))
  have Fb_3 := Lib.hid ((Fb_2.out.below_ b3 (Nat.le_refl _)).mono_ b3.size)
  have Fx_3 := Lib.hid ((Fx_2.out.below_ b3 (Nat.le_refl _)).mono_ b3.size)
  have Ox_3 := Lib.hid (Ox_2.out.below_ b3 (Nat.le_refl _))
  have Mp_3 := Lib.hid (Mp_2.out.trans (b3.mono Mp_2.out.size))
  have Fy_3 := Lib.hid (o3.form_)
  clear C3 b3 HB2 Fb_2 Fx_2 Ox_2 Mp_2 o3
  clear Fb_3
  have C4 := Lib.hid (octs_lv _ _ _ _ _ _ w3 Fx_3.out Fy_3.out)
  simp only [decide_true] at C4
  go_wp2_with (fail)
  refine (C4.out).mono ?_
  rintro e w4 ⟨rfl, b4⟩
  have HB4 := Lib.hid (HB3.out.trans (b4.mono HB3.out.size))
  have Fx_4 := Lib.hid ((Fx_3.out.below_ b4 (Nat.le_refl _)).mono_ b4.size)
  have Fy_4 := Lib.hid ((Fy_3.out.below_ b4 (Nat.le_refl _)).mono_ b4.size)
  have Ox_4 := Lib.hid (Ox_3.out.below_ b4 (Nat.le_refl _))
  have Mp_4 := Lib.hid (Mp_3.out.trans (b4.mono Mp_3.out.size))
  clear C4 b4 HB3 Fx_3 Fy_3 Ox_3 Mp_3
  clear Fy_4
  have C5 := Lib.hid (spoilB_any 9 _ _ _ w4 Ox_4.out)
  go_wp2_with (fail)
  refine (C5.out).mono ?_
  rintro e w5 ⟨⟨xx5, rfl⟩, g5⟩
  have b5 := Mp_4.out.grown g5 Mp_4.out.size (fun k hk => (Ox_4.out.lt_ k hk).1)
  have HB5 := Lib.hid (KH.out.trans (b5.mono KH.out.size))
  have Fb_5 := Lib.hid ((Kb.out.below_ b5 (Nat.le_refl _)).mono_ b5.size)
  have Fzw_5 := Lib.hid ((Kzw.out.below_ b5 (Nat.le_refl _)).mono_ b5.size)
  clear C5 b5 g5 HB4 Kb Kzw KH Mp_4 Fx_4 Ox_4
  have C6 := Lib.hid (left_any g1 l1 _ _ _ w5 Fzw_5.out.bv_ Fb_5.out.bv_)
  go_wp2_with (fail)
  refine (C6.out).mono ?_
  rintro e w6 ⟨rfl, b6⟩
  have HB6 := Lib.hid (HB5.out.trans (b6.mono HB5.out.size))
  have Fb_6 := Lib.hid ((Fb_5.out.below_ b6 (Nat.le_refl _)).mono_ b6.size)
  have Fzw_6 := Lib.hid ((Fzw_5.out.below_ b6 (Nat.le_refl _)).mono_ b6.size)
  clear C6 b6 HB5 Fb_5 Fzw_5
  clear Fzw_6
  clear Fb_6
  have C7 := Lib.hid (lives_pg w6)
  go_wp2_with (fail)
  refine (C7.out).mono ?_
  rintro e w7 ⟨rfl, b7⟩
  have HB7 := Lib.hid (HB6.out.trans (b7.mono HB6.out.size))
  clear C7 b7 HB6
  go_wp2
  go_ret
  exact ⟨rfl, HB7.out⟩

/-! ### From the walk to the row -/
set_option maxRecDepth 100000 in
theorem lifted (os : Os) (started : os.Started) (H : Type) (enc : TypeId × Value → H) :
    ReturnsInHanded {} Try.checked os 4 .any (Rows.pageGetsSpec.pre6 enc Try.prog Try.f4 Rows.pageGetsRow.domain false) (Rows.pageGetsSpec.post enc Try.prog Try.f4 false true false false) := by
  refine returnsInHanded_of_change_sized (C := Try.checked) own started (by kernel_rfl) Try.func4
    (ChangeSpec.witness6 (enc := enc) (C := Try.checked) false ⟨#[], #[.int .i64 0, .slice none 0 0], []⟩ 8 (by kernel_rfl) (by kernel_rfl) (by kernel_rfl) (by kernel_rfl)) ?_
  intro W base args ds gs before hval0 hW hcnd hreach _
  have hval : ∀ (j : Nat) t v, Try.f4.params[j]? = some t → args[j]? = some v → Value.okWide Try.prog W .any base t v := hval0
  have hW' := hW
  obtain ⟨p, q, hA0, hV, rfl, hfz, hnd⟩ := hW
  have hA : DataW.TrodAll enc Try.prog W 0 (fun _ => true) true Try.f4.params.toList args.toList ds p := hA0
  rw [Try.params4] at hA hval
  obtain ⟨v0, vs0, d0, ds0, p0, q0, hargs, rfl, rfl, h0, r0⟩ := trodAll_cons hA
  obtain ⟨v1, vs1, d1, ds1, p1, q1, rfl, rfl, rfl, h1, r1⟩ := trodAll_cons r0
  obtain ⟨rfl, rfl, rfl⟩ := trodAll_nil r1
  obtain rfl : args = #[v0, v1] := by cases args; simp_all
  obtain ⟨rfl, rfl⟩ := trodVars_none hV
  obtain ⟨a0, rfl, rfl, rfl, w0⟩ := open_int Try.underlying3 (hval 0 3 v0 rfl rfl) h0
  obtain ⟨a1, len1, cap1, rfl⟩ := okWide_slice Try.underlying22 (hval 1 22 v1 rfl rfl)
  have k1 := h1
  have lt1 : ∀ x ∈ p1, x.block < W.heap.size := by obtain ⟨m, hm⟩ := k1; exact DataW.trod_lt m _ _ _ hm
  obtain ⟨l1, len_1, hb1⟩ : ∃ l : List Nat, l.length = len1 ∧ Bv W W.heap.size (.slice a1 len1 cap1) l := by
    obtain ⟨fuel, hf⟩ := h1
    rcases open_ints Try.underlying22 Try.underlying5 (by kernel_rfl) hf with ⟨hcs, _⟩ | ⟨x, l, c, zs, hcs, _, hl, hm, hz, _, hcell, hwz⟩
    · simp [Value.cells] at hcs
      obtain ⟨rfl, rfl, rfl⟩ := hcs
      exact bytes_in (.inl ⟨rfl, rfl, rfl⟩)
    · simp [Value.cells] at hcs
      obtain ⟨rfl, rfl, rfl⟩ := hcs
      exact bytes_in (.inr ⟨x, zs, rfl, hl, hm, by simpa using hz, hcell, hwz⟩)
  have reach1 : len1 * 1 ≤ 140737488351232 := by
    obtain ⟨fuel, hf⟩ := k1
    rcases open_ints Try.underlying22 Try.underlying5 (by kernel_rfl) hf with ⟨hcs, _⟩ | ⟨x, l, c, zs, hcs, _, hl, hm, hz, hx, hcell, hwz⟩
    · simp [Value.cells] at hcs
      omega
    · simp [Value.cells] at hcs
      obtain ⟨rfl, rfl, rfl⟩ := hcs
      rw [Prod.mk.injEq] at hx
      have hs := sized_slice hreach (j := 1) (t := 22) (e := 5) (elems := lits .u8 (zs.take len1)) (spare := lits .u8 (zs.drop len1)) rfl (by rw [hx.1]; rfl) Try.underlying22
      have hb : Try.prog.bytesOf 5 = 1 := by kernel_rfl
      change _ * Try.prog.bytesOf 5 ≤ _ at hs
      rw [hb] at hs
      simp [lits, reachBytes] at hs hz
      omega
  clear hA0 hval0
  refine (walk W a0 w0 (.slice a1 len1 cap1) l1 hb1 (by rw [len_1]; exact reach1)).mono fun e W' ⟨he, bel⟩ => ?_
  subst he
  exact ⟨_, rfl, _, _, _, [], _, [], hW', trodAll_mk1 (shut_bool Try.underlying4 _), (trodAll_cons_mk (shut_int Try.underlying3 w0) (trodAll_cons_mk (Below.trod laidOut (by kernel_rfl) (of_decide_eq_true (by kernel_rfl)) k1 bel lt1) trodAll_mk0)), rfl, bel.frame _, fun h => by cases h⟩

theorem proved : Rows.PageGetsSaid :=
  OpenClaim.holds_of_wide 4 Try.f4 rfl rfl rfl rfl rfl rfl rfl ⟨rfl, rfl, rfl, rfl, rfl⟩ rfl rfl rfl rfl rfl (by kernel_rfl) Try.func4 (by kernel_rfl)
    (of_decide_eq_true (by kernel_rfl)) (by unfold Func.isWrapper; first | (rw [if_pos (by decide +kernel)]; kernel_rfl) | (rw [if_neg (by decide +kernel)]; exact ⟨rfl, rfl⟩))
    (fun os started H enc _ => lifted os started H enc)

end Go.Proofs.Ytdmomnpmicagcaa.pageGets
