/-
  RecordGets: whatever bytes are read, the record, or the error, is the document's. No condition.
-/
import Derived.Test.YtkialijipcbgkaaPk10
import Derived.Test.YtkialijipcbgkaaPk45
import Derived.Test.YtkialijipcbgkaaPk43
import Derived.Test.YtkialijipcbgkaaPk21
namespace Go.Proofs.Ytkialijipcbgkaa.recordGets
open Go.ChangeShapes Go.WideShapes Go.ChangeAt Go.RowKit
open Go.ChangeMaps (open_string shut_string)
set_option linter.unusedVariables false

set_option maxHeartbeats 2000000 in
set_option maxRecDepth 100000 in
theorem walk (w : World) (v0 : Value) (l0 : List Nat) (h0 : Lv yK w w.heap.size v0 l0) :
    Calls Try.prog 4 #[v0] w (IsBool true w) := by
  have hz35 := rc_zeroV
  have hn35 := rc_n35
  obtain ⟨N, hN⟩ : ∃ N, none35 = N := ⟨_, rfl⟩
  rw [hN] at hz35 hn35
  clear hN
  obtain ⟨⟨x, E⟩, hx⟩ : ∃ r, Rc.getE l0 = r := ⟨_, rfl⟩
  have HX := Lib.hid hx
  clear hx
  have Fv_0 := Lib.hid (h0)
  clear h0
  have HB0 := Lib.hid (Below.refl w.heap.size w)
  go_enter Try.func4, Try.ntmps4
  have C1 := Lib.hid (prcget_any _ l0 _ w Fv_0.out (Nat.le_refl _))
  rw [HX.out] at C1
  go_wp2_with (fail)
  refine (C1.out).mono ?_
  rintro e w1 ⟨A1, c1, rfl, f1, o1, b1⟩
  have HB1 := Lib.hid (HB0.out.trans (b1.mono HB0.out.size))
  have Fv_1 := Lib.hid ((Fv_0.out.below_ b1 (Nat.le_refl _)).mono_ b1.size)
  have Fx_1 := Lib.hid (o1.form_)
  clear C1 b1 HB0 Fv_0 o1
  have fit1 := Lib.hid f1
  obtain ⟨D1, hD1⟩ : ∃ C, rcC x (.slice A1 x.toks.length c1) = C := ⟨_, rfl⟩
  obtain ⟨vs1, vo1, vz1⟩ := rc_val f1 hD1
  replace vz1 := Lib.hid vz1
  rw [hD1]
  replace hD1 := Lib.hid hD1
  clear f1
  obtain ⟨X1, hX1⟩ : ∃ X, (w1.alloc (.cells N 27)).setRow w1.heap.size D1 = X := ⟨_, rfl⟩
  obtain ⟨hxa1, hxb1⟩ := rc_stored hX1
  have b2 := hxb1
  have HB2 := Lib.hid (HB1.out.trans (b2.mono HB1.out.size))
  have Fv_2 := Lib.hid ((Fv_1.out.below_ b2 (Nat.le_refl _)).mono_ b2.size)
  have Fx_2 := Lib.hid ((Fx_1.out.below_ b2 (Nat.le_refl _)).mono_ b2.size)
  clear b2 HB1 Fv_1 Fx_1
  have Fbx_2 := Lib.hid hxa1
  clear hxa1 hxb1
  have C3 := Lib.hid (rrcget_any _ l0 _ X1 (Nat.le_refl _) Fv_2.out.bv_)
  rw [HX.out] at C3
  go_wp2_with (first
    | (refine wpList_store_row rfl _ _ _ rfl w1.heap.size D1 rfl rfl 27 N (Rw.new w1 _ _) vs1 (by rw [vz1.out, hn35]) vo1 ?_; rw [hX1])
    | (refine wpList_load_row rfl _ _ rfl w1.heap.size rfl 27 D1 (0, 0) _ Fbx_2.out.2 Try.underlying27 rfl (by rw [vs1]) ?_))
  refine (C3.out).mono ?_
  rintro e w3 ⟨A3, c3, rfl, f3, o3, b3⟩
  have HB3 := Lib.hid (HB2.out.trans (b3.mono HB2.out.size))
  have Fv_3 := Lib.hid ((Fv_2.out.below_ b3 (Nat.le_refl _)).mono_ b3.size)
  have Fx_3 := Lib.hid ((Fx_2.out.below_ b3 (Nat.le_refl _)).mono_ b3.size)
  have Fbx_3 := Lib.hid ((Fbx_2.out.below_ b3 (Nat.le_refl _)).mono_ b3.size)
  have Fy_3 := Lib.hid (o3.form_)
  clear C3 b3 HB2 Fv_2 Fx_2 Fbx_2 o3
  clear hX1
  have fit3 := Lib.hid f3
  obtain ⟨D3, hD3⟩ : ∃ C, rcC x (.slice A3 x.toks.length c3) = C := ⟨_, rfl⟩
  obtain ⟨vs3, vo3, vz3⟩ := rc_val f3 hD3
  replace vz3 := Lib.hid vz3
  rw [hD3]
  replace hD3 := Lib.hid hD3
  clear f3
  obtain ⟨X3, hX3⟩ : ∃ X, (w3.alloc (.cells N 27)).setRow w3.heap.size D3 = X := ⟨_, rfl⟩
  obtain ⟨hxa3, hxb3⟩ := rc_stored hX3
  have b4 := hxb3
  have HB4 := Lib.hid (HB3.out.trans (b4.mono HB3.out.size))
  have Fv_4 := Lib.hid ((Fv_3.out.below_ b4 (Nat.le_refl _)).mono_ b4.size)
  have Fx_4 := Lib.hid ((Fx_3.out.below_ b4 (Nat.le_refl _)).mono_ b4.size)
  have Fbx_4 := Lib.hid ((Fbx_3.out.below_ b4 (Nat.le_refl _)).mono_ b4.size)
  have Fy_4 := Lib.hid ((Fy_3.out.below_ b4 (Nat.le_refl _)).mono_ b4.size)
  clear b4 HB3 Fv_3 Fx_3 Fbx_3 Fy_3
  have Fby_4 := Lib.hid hxa3
  clear hxa3 hxb3
  have C5 := Lib.hid (rec_lv x x _ _ _ _ X3 fit1.out fit3.out Fx_4.out Fy_4.out (Nat.le_refl _) (Nat.le_refl _))
  rw [hD1.out, hD3.out] at C5
  simp only [decide_true] at C5
  go_wp2_with (first
    | (refine wpList_store_row rfl _ _ _ rfl w3.heap.size D3 rfl rfl 27 N (Rw.new w3 _ _) vs3 (by rw [vz3.out, hn35]) vo3 ?_; rw [hX3])
    | (refine wpList_load_row rfl _ _ rfl w1.heap.size rfl 27 D1 (0, 0) _ Fbx_4.out.2 Try.underlying27 rfl (by rw [vs1]) ?_)
    | (refine wpList_load_row rfl _ _ rfl w3.heap.size rfl 27 D3 (0, 0) _ Fby_4.out.2 Try.underlying27 rfl (by rw [vs3]) ?_))
  refine (C5.out).mono ?_
  rintro e w5 ⟨rfl, b5⟩
  have HB5 := Lib.hid (HB4.out.trans (b5.mono HB4.out.size))
  have Fv_5 := Lib.hid ((Fv_4.out.below_ b5 (Nat.le_refl _)).mono_ b5.size)
  have Fx_5 := Lib.hid ((Fx_4.out.below_ b5 (Nat.le_refl _)).mono_ b5.size)
  have Fbx_5 := Lib.hid ((Fbx_4.out.below_ b5 (Nat.le_refl _)).mono_ b5.size)
  have Fy_5 := Lib.hid ((Fy_4.out.below_ b5 (Nat.le_refl _)).mono_ b5.size)
  have Fby_5 := Lib.hid ((Fby_4.out.below_ b5 (Nat.le_refl _)).mono_ b5.size)
  clear C5 b5 HB4 Fv_4 Fx_4 Fbx_4 Fy_4 Fby_4
  clear hX3
  clear Fv_5
  clear Fx_5
  clear Fy_5
  clear Fbx_5
  clear Fby_5
  have C6 := Lib.hid (works_rc w5)
  go_wp2_with (fail)
  refine (C6.out).mono ?_
  rintro e w6 ⟨rfl, b6⟩
  have HB6 := Lib.hid (HB5.out.trans (b6.mono HB5.out.size))
  clear C6 b6 HB5
  go_wp2
  go_ret
  exact ⟨rfl, HB6.out⟩

/-! ### From the walk to the row -/
set_option maxRecDepth 100000 in
theorem lifted (os : Os) (started : os.Started) (H : Type) (enc : TypeId × Value → H) :
    ReturnsInHanded {} Try.checked os 4 .any (Rows.recordGetsSpec.pre6 enc Try.prog Try.f4 Rows.recordGetsRow.domain false) (Rows.recordGetsSpec.post enc Try.prog Try.f4 false true false false) := by
  refine returnsInHanded_of_change (C := Try.checked) own started (by kernel_rfl) Try.func4
    (ChangeSpec.witness6 (enc := enc) (C := Try.checked) false ⟨#[], #[.slice none 0 0], []⟩ 8 (by kernel_rfl) (by kernel_rfl) (by kernel_rfl) (by kernel_rfl)) ?_
  intro W base args ds gs before hval0 hW hcnd _
  have hval : ∀ (j : Nat) t v, Try.f4.params[j]? = some t → args[j]? = some v → Value.okWide Try.prog W .any base t v := hval0
  have hW' := hW
  obtain ⟨p, q, hA0, hV, rfl, hfz, hnd⟩ := hW
  have hA : DataW.TrodAll enc Try.prog W 0 (fun _ => true) true Try.f4.params.toList args.toList ds p := hA0
  rw [Try.params4] at hA hval
  obtain ⟨v0, vs0, d0, ds0, p0, q0, hargs, rfl, rfl, h0, r0⟩ := trodAll_cons hA
  obtain ⟨rfl, rfl, rfl⟩ := trodAll_nil r0
  obtain rfl : args = #[v0] := by cases args; simp_all
  obtain ⟨rfl, rfl⟩ := trodVars_none hV
  obtain ⟨a0, len0, cap0, rfl⟩ := okWide_slice Try.underlying28 (hval 0 28 v0 rfl rfl)
  have k0 := h0
  have lt0 : ∀ x ∈ p0, x.block < W.heap.size := by obtain ⟨m, hm⟩ := k0; exact DataW.trod_lt m _ _ _ hm
  obtain ⟨l0, len_0, hb0⟩ : ∃ l : List Nat, l.length = len0 ∧ Lv yK W W.heap.size (.slice a0 len0 cap0) l := by
    obtain ⟨fuel, hf⟩ := h0
    exact octs_in hf
  clear hA0 hval0
  refine (walk W (.slice a0 len0 cap0) l0 hb0).mono fun e W' ⟨he, bel⟩ => ?_
  subst he
  exact ⟨_, rfl, _, _, _, [], _, [], hW', trodAll_mk1 (shut_bool Try.underlying4 _), (trodAll_cons_mk (Below.trod laidOut (by kernel_rfl) (of_decide_eq_true (by kernel_rfl)) k0 bel lt0) trodAll_mk0), rfl, bel.frame _, fun h => by cases h⟩

theorem proved : Rows.RecordGetsSaid :=
  OpenClaim.holds_of_wide 4 Try.f4 rfl rfl rfl rfl rfl rfl rfl ⟨rfl, rfl, rfl, rfl, rfl⟩ rfl rfl rfl rfl rfl (by kernel_rfl) Try.func4 (by kernel_rfl)
    (of_decide_eq_true (by kernel_rfl)) (by unfold Func.isWrapper; first | (rw [if_pos (by decide +kernel)]; kernel_rfl) | (rw [if_neg (by decide +kernel)]; exact ⟨rfl, rfl⟩))
    (fun os started H enc _ => lifted os started H enc)

end Go.Proofs.Ytkialijipcbgkaa.recordGets
