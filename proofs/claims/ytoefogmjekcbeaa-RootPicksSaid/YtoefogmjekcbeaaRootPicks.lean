/-
  RootPicks: the newest of two is the document's, whatever bytes stand there. No condition.
-/
import Derived.Test.YtoefogmjekcbeaaPk09
import Derived.Test.YtoefogmjekcbeaaPk28
import Derived.Test.YtoefogmjekcbeaaPk23
namespace Go.Proofs.Ytoefogmjekcbeaa.rootPicks
open Go.ChangeShapes Go.WideShapes Go.ChangeAt Go.RowKit
open Go.ChangeMaps (open_string shut_string)
set_option linter.unusedVariables false

set_option maxHeartbeats 2000000 in
set_option maxRecDepth 100000 in
theorem walk (w : World) (v0 : Value) (l0 : List Nat) (h0 : Lv yK w w.heap.size v0 l0) (v1 : Value) (l1 : List Nat) (h1 : Lv yK w w.heap.size v1 l1) :
    Calls Try.prog 4 #[v0, v1] w (IsBool true w) := by
  have hz7 := (zero_of_info (n := 7) rt_zero).1
  have HNS : Hid (none7.size = 7) := rfl
  have HN0 : Hid (rtC Rt.zero = none7) := rfl
  obtain ⟨N, hN⟩ : ∃ N, none7 = N := ⟨_, rfl⟩
  rw [hN] at hz7 HNS HN0
  have hn35 : N.size = 7 := HNS.out
  clear hN
  obtain ⟨⟨x, E⟩, hx⟩ : ∃ r, Rt.pickE l0 l1 = r := ⟨_, rfl⟩
  have HX := Lib.hid hx
  clear hx
  have Fa_0 := Lib.hid (h0)
  have Fb_0 := Lib.hid (h1)
  clear h0 h1
  have HB0 := Lib.hid (Below.refl w.heap.size w)
  go_enter Try.func4, Try.ntmps4
  have C1 := Lib.hid (prtpick_any _ _ l0 l1 _ _ w Fa_0.out Fb_0.out (Nat.le_refl _) (Nat.le_refl _))
  rw [HX.out] at C1
  go_wp2_with (fail)
  refine (C1.out).mono ?_
  rintro e w1 ⟨rfl, f1, b1⟩
  have HB1 := Lib.hid (HB0.out.trans (b1.mono HB0.out.size))
  have Fa_1 := Lib.hid ((Fa_0.out.below_ b1 (Nat.le_refl _)).mono_ b1.size)
  have Fb_1 := Lib.hid ((Fb_0.out.below_ b1 (Nat.le_refl _)).mono_ b1.size)
  clear C1 b1 HB0 Fa_0 Fb_0
  have fit1 := Lib.hid f1
  obtain ⟨D1, hD1⟩ : ∃ C, rtC x = C := ⟨_, rfl⟩
  have vs1 : (Try.prog.info? 24).map (·.size) = some D1.size := by rw [← hD1]; exact rt_size
  have vo1 : D1.all (·.oneCell') = true := by rw [← hD1]; exact rtC_one _
  have vz1 : Hid (D1.size = 7) := by unfold Hid; rw [← hD1]; rfl
  rw [hD1]
  replace hD1 := Lib.hid hD1
  clear f1
  obtain ⟨X1, hX1⟩ : ∃ X, (w1.alloc (.cells N 24)).setRow w1.heap.size D1 = X := ⟨_, rfl⟩
  obtain ⟨hxa1, hxb1⟩ := bxt_stored hX1
  have b2 := hxb1
  have HB2 := Lib.hid (HB1.out.trans (b2.mono HB1.out.size))
  have Fa_2 := Lib.hid ((Fa_1.out.below_ b2 (Nat.le_refl _)).mono_ b2.size)
  have Fb_2 := Lib.hid ((Fb_1.out.below_ b2 (Nat.le_refl _)).mono_ b2.size)
  clear b2 HB1 Fa_1 Fb_1
  have Fbx_2 := Lib.hid hxa1
  clear hxa1 hxb1
  have C3 := Lib.hid (rrtpick_any _ _ l0 l1 _ _ X1 Fa_2.out Fb_2.out (Nat.le_refl _) (Nat.le_refl _))
  rw [HX.out] at C3
  go_wp2_with (first
    | (refine wpList_store_row rfl _ _ _ rfl w1.heap.size D1 rfl rfl 24 N (Rw.new w1 _ _) vs1 (by rw [vz1.out, hn35]) vo1 ?_; rw [hX1])
    | (refine wpList_load_row rfl _ _ rfl w1.heap.size rfl 24 D1 (0, 0) _ Fbx_2.out.2 Try.underlying24 rfl (by rw [vs1]) ?_))
  refine (C3.out).mono ?_
  rintro e w3 ⟨rfl, f3, b3⟩
  have HB3 := Lib.hid (HB2.out.trans (b3.mono HB2.out.size))
  have Fa_3 := Lib.hid ((Fa_2.out.below_ b3 (Nat.le_refl _)).mono_ b3.size)
  have Fb_3 := Lib.hid ((Fb_2.out.below_ b3 (Nat.le_refl _)).mono_ b3.size)
  have Fbx_3 := Lib.hid ((Fbx_2.out.below_ b3 (Nat.le_refl _)).mono_ b3.size)
  clear C3 b3 HB2 Fa_2 Fb_2 Fbx_2
  clear hX1
  have fit3 := Lib.hid f3
  obtain ⟨D3, hD3⟩ : ∃ C, rtC x = C := ⟨_, rfl⟩
  have vs3 : (Try.prog.info? 24).map (·.size) = some D3.size := by rw [← hD3]; exact rt_size
  have vo3 : D3.all (·.oneCell') = true := by rw [← hD3]; exact rtC_one _
  have vz3 : Hid (D3.size = 7) := by unfold Hid; rw [← hD3]; rfl
  rw [hD3]
  replace hD3 := Lib.hid hD3
  clear f3
  obtain ⟨X3, hX3⟩ : ∃ X, (w3.alloc (.cells N 24)).setRow w3.heap.size D3 = X := ⟨_, rfl⟩
  obtain ⟨hxa3, hxb3⟩ := bxt_stored hX3
  have b4 := hxb3
  have HB4 := Lib.hid (HB3.out.trans (b4.mono HB3.out.size))
  have Fa_4 := Lib.hid ((Fa_3.out.below_ b4 (Nat.le_refl _)).mono_ b4.size)
  have Fb_4 := Lib.hid ((Fb_3.out.below_ b4 (Nat.le_refl _)).mono_ b4.size)
  have Fbx_4 := Lib.hid ((Fbx_3.out.below_ b4 (Nat.le_refl _)).mono_ b4.size)
  clear b4 HB3 Fa_3 Fb_3 Fbx_3
  have Fby_4 := Lib.hid hxa3
  clear hxa3 hxb3
  have heq : ∀ w', (Op.equalIn 10000 24 (.agg D1) (.agg D3)).run Try.prog w' = .ok true w' := fun w' => by
    rw [← hD1.out, ← hD3.out]
    have := rt_equalIn x x w'
    simpa using this
  clear Fa_4
  clear Fb_4
  have C5 := Lib.hid (lives_rt X3)
  go_wp2_with (first
    | (refine wpList_store_row rfl _ _ _ rfl w3.heap.size D3 rfl rfl 24 N (Rw.new w3 _ _) vs3 (by rw [vz3.out, hn35]) vo3 ?_; rw [hX3])
    | (refine wpList_load_row rfl _ _ rfl w1.heap.size rfl 24 D1 (0, 0) _ Fbx_4.out.2 Try.underlying24 rfl (by rw [vs1]) ?_)
    | (refine wpList_load_row rfl _ _ rfl w3.heap.size rfl 24 D3 (0, 0) _ Fby_4.out.2 Try.underlying24 rfl (by rw [vs3]) ?_))
  refine (C5.out).mono ?_
  rintro e w5 ⟨rfl, b5⟩
  have HB5 := Lib.hid (HB4.out.trans (b5.mono HB4.out.size))
  have Fbx_5 := Lib.hid ((Fbx_4.out.below_ b5 (Nat.le_refl _)).mono_ b5.size)
  have Fby_5 := Lib.hid ((Fby_4.out.below_ b5 (Nat.le_refl _)).mono_ b5.size)
  clear C5 b5 HB4 Fbx_4 Fby_4
  clear hX3
  go_wp2_with (first
    | (refine wpList_load_row rfl _ _ rfl w1.heap.size rfl 24 D1 (0, 0) _ Fbx_5.out.2 Try.underlying24 rfl (by rw [vs1]) ?_)
    | (refine wpList_load_row rfl _ _ rfl w3.heap.size rfl 24 D3 (0, 0) _ Fby_5.out.2 Try.underlying24 rfl (by rw [vs3]) ?_))
  go_ret
  exact ⟨rfl, HB5.out⟩

/-! ### From the walk to the row -/
set_option maxRecDepth 100000 in
theorem lifted (os : Os) (started : os.Started) (H : Type) (enc : TypeId × Value → H) :
    ReturnsInHanded {} Try.checked os 4 .any (Rows.rootPicksSpec.pre6 enc Try.prog Try.f4 Rows.rootPicksRow.domain false) (Rows.rootPicksSpec.post enc Try.prog Try.f4 false true false false) := by
  refine returnsInHanded_of_change (C := Try.checked) own started (by kernel_rfl) Try.func4
    (ChangeSpec.witness6 (enc := enc) (C := Try.checked) false ⟨#[], #[.slice none 0 0, .slice none 0 0], []⟩ 8 (by kernel_rfl) (by kernel_rfl) (by kernel_rfl) (by kernel_rfl)) ?_
  intro W base args ds gs before hval0 hW hcnd _
  have hval : ∀ (j : Nat) t v, Try.f4.params[j]? = some t → args[j]? = some v → Value.okWide Try.prog W .any base t v := hval0
  have hW' := hW
  obtain ⟨p, q, hA0, hV, rfl, hfz, hnd⟩ := hW
  have hA : DataW.TrodAll enc Try.prog W 0 (fun _ => true) true Try.f4.params.toList args.toList ds p := hA0
  rw [Try.params4] at hA hval
  obtain ⟨v0, vs0, d0, ds0, p0, q0, hargs, rfl, rfl, h0, r0⟩ := trodAll_cons hA
  obtain ⟨v1, vs1, d1, ds1, p1, q1, rfl, rfl, rfl, h1, r1⟩ := trodAll_cons r0
  obtain ⟨rfl, rfl, rfl⟩ := trodAll_nil r1
  obtain rfl : args = #[v0, v1] := by cases args; simp_all
  obtain ⟨rfl, rfl⟩ := trodVars_none hV
  obtain ⟨a0, len0, cap0, rfl⟩ := okWide_slice Try.underlying25 (hval 0 25 v0 rfl rfl)
  have k0 := h0
  have lt0 : ∀ x ∈ p0, x.block < W.heap.size := by obtain ⟨m, hm⟩ := k0; exact DataW.trod_lt m _ _ _ hm
  obtain ⟨l0, len_0, hb0⟩ : ∃ l : List Nat, l.length = len0 ∧ Lv yK W W.heap.size (.slice a0 len0 cap0) l := by
    obtain ⟨fuel, hf⟩ := h0
    exact octs_in hf
  obtain ⟨a1, len1, cap1, rfl⟩ := okWide_slice Try.underlying25 (hval 1 25 v1 rfl rfl)
  have k1 := h1
  have lt1 : ∀ x ∈ p1, x.block < W.heap.size := by obtain ⟨m, hm⟩ := k1; exact DataW.trod_lt m _ _ _ hm
  obtain ⟨l1, len_1, hb1⟩ : ∃ l : List Nat, l.length = len1 ∧ Lv yK W W.heap.size (.slice a1 len1 cap1) l := by
    obtain ⟨fuel, hf⟩ := h1
    exact octs_in hf
  clear hA0 hval0
  refine (walk W (.slice a0 len0 cap0) l0 hb0 (.slice a1 len1 cap1) l1 hb1).mono fun e W' ⟨he, bel⟩ => ?_
  subst he
  exact ⟨_, rfl, _, _, _, [], _, [], hW', trodAll_mk1 (shut_bool Try.underlying4 _), (trodAll_cons_mk (Below.trod laidOut (by kernel_rfl) (of_decide_eq_true (by kernel_rfl)) k0 bel lt0) (trodAll_cons_mk (Below.trod laidOut (by kernel_rfl) (of_decide_eq_true (by kernel_rfl)) k1 bel lt1) trodAll_mk0)), rfl, bel.frame _, fun h => by cases h⟩

theorem proved : Rows.RootPicksSaid :=
  OpenClaim.holds_of_wide 4 Try.f4 rfl rfl rfl rfl rfl rfl rfl ⟨rfl, rfl, rfl, rfl, rfl⟩ rfl rfl rfl rfl rfl (by kernel_rfl) Try.func4 (by kernel_rfl)
    (of_decide_eq_true (by kernel_rfl)) (by unfold Func.isWrapper; first | (rw [if_pos (by decide +kernel)]; kernel_rfl) | (rw [if_neg (by decide +kernel)]; exact ⟨rfl, rfl⟩))
    (fun os started H enc _ => lifted os started H enc)

end Go.Proofs.Ytoefogmjekcbeaa.rootPicks
