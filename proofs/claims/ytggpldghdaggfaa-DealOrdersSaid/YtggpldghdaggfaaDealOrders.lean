/-
  DealOrders: the order of steps is the document's, or its error. No condition.
-/
import Derived.Test.YtggpldghdaggfaaFrameI
import Derived.Test.YtggpldghdaggfaaFrameWl
import Derived.Test.YtggpldghdaggfaaDlLaw
import Derived.Test.YtggpldghdaggfaaWrds
import Derived.Test.YtggpldghdaggfaaInts
namespace Go.Proofs.Ytggpldghdaggfaa.dealOrders
open Go.ChangeShapes Go.WideShapes Go.ChangeAt Go.RowKit
open Go.ChangeMaps (open_string shut_string)
set_option linter.unusedVariables false

set_option maxHeartbeats 400000 in
set_option maxRecDepth 100000 in
theorem walk (w : World) (a0 : Int) (w0 : (Lit.int .i64 a0).wf = true) (v1 : Value) (l1 : List Int) (h1 : Lv iK w w.heap.size v1 l1) :
    Calls Try.prog 4 #[.int .i64 a0, v1] w (IsBool true w) := by
  clear w0
  obtain ⟨r1, e1⟩ : ∃ r, Dl.of a0 l1 = r := ⟨_, rfl⟩
  have H1 := Lib.hid e1
  clear e1
  have Fa_0 := Lib.hid (h1)
  have HB0 := Lib.hid (Below.refl w.heap.size w)
  go_enter Try.func4, Try.ntmps4
  have C1 := Lib.hid (pof_any _ l1 a0 _ w (Nat.le_refl _) Fa_0.out)
  rw [H1.out] at C1
  go_wp2_with (fail)
  refine (C1.out).mono ?_
  rintro e w1 ⟨A1, c1, rfl, o1, b1⟩
  have HB1 := Lib.hid (HB0.out.trans (b1.mono HB0.out.size))
  have Fa_1 := Lib.hid ((Fa_0.out.below_ b1 (Nat.le_refl _)).mono_ b1.size)
  have Fl_1 := Lib.hid (o1.form_)
  clear C1 b1 HB0 Fa_0 o1
  have C2 := Lib.hid (rof_any _ l1 a0 _ w1 (Nat.le_refl _) Fa_1.out)
  rw [H1.out] at C2
  go_wp2_with (fail)
  refine (C2.out).mono ?_
  rintro e w2 ⟨A2, c2, rfl, o2, b2⟩
  have HB2 := Lib.hid (HB1.out.trans (b2.mono HB1.out.size))
  have Fa_2 := Lib.hid ((Fa_1.out.below_ b2 (Nat.le_refl _)).mono_ b2.size)
  have Fl_2 := Lib.hid ((Fl_1.out.below_ b2 (Nat.le_refl _)).mono_ b2.size)
  have Fm_2 := Lib.hid (o2.form_)
  clear C2 b2 HB1 Fa_1 Fl_1 o2
  have C3 := Lib.hid (ints_lv _ _ _ _ _ _ w2 Fl_2.out Fm_2.out)
  simp only [decide_true] at C3
  go_wp2_with (fail)
  refine (C3.out).mono ?_
  rintro e w3 ⟨rfl, b3⟩
  have HB3 := Lib.hid (HB2.out.trans (b3.mono HB2.out.size))
  have Fa_3 := Lib.hid ((Fa_2.out.below_ b3 (Nat.le_refl _)).mono_ b3.size)
  have Fl_3 := Lib.hid ((Fl_2.out.below_ b3 (Nat.le_refl _)).mono_ b3.size)
  have Fm_3 := Lib.hid ((Fm_2.out.below_ b3 (Nat.le_refl _)).mono_ b3.size)
  clear C3 b3 HB2 Fa_2 Fl_2 Fm_2
  clear Fa_3
  clear Fl_3
  clear Fm_3
  have C4 := Lib.hid (works_any w3)
  go_wp2_with (fail)
  refine (C4.out).mono ?_
  rintro e w4 ⟨rfl, b4⟩
  have HB4 := Lib.hid (HB3.out.trans (b4.mono HB3.out.size))
  clear C4 b4 HB3
  go_wp2
  go_ret
  exact ⟨rfl, HB4.out⟩

/-! ### From the walk to the row -/
set_option maxRecDepth 100000 in
theorem lifted (os : Os) (started : os.Started) (H : Type) (enc : TypeId × Value → H) :
    ReturnsInHanded {} Try.checked os 4 .any (Rows.dealOrdersSpec.pre6 enc Try.prog Try.f4 Rows.dealOrdersRow.domain false) (Rows.dealOrdersSpec.post enc Try.prog Try.f4 false true false false) := by
  refine returnsInHanded_of_change (C := Try.checked) own started (by kernel_rfl) Try.func4
    (ChangeSpec.witness6 (enc := enc) (C := Try.checked) false ⟨#[], #[.int .i64 0, .slice none 0 0], []⟩ 8 (by kernel_rfl) (by kernel_rfl) (by kernel_rfl) (by kernel_rfl)) ?_
  intro W base args ds gs before hval0 hW hcnd _
  have hval : ∀ (j : Nat) t v, Try.f4.params[j]? = some t → args[j]? = some v → Value.okWide Try.prog W .any base t v := hval0
  have hW' := hW
  obtain ⟨p, q, hA0, hV, rfl, hfz, hnd⟩ := hW
  have hA : DataW.TrodAll enc Try.prog W 0 (fun _ => true) true Try.f4.params.toList args.toList ds p := hA0
  rw [Try.params4] at hA hval
  obtain ⟨v0, vs0, d0, ds0, p0, q0, hargs, rfl, rfl, h0, r0⟩ := trodAll_cons hA
  obtain ⟨v1, vs1, d1, ds1, p1, q1, rfl, rfl, rfl, h1, r1⟩ := trodAll_cons r0
  obtain ⟨rfl, rfl, rfl⟩ := trodAll_nil r1
  obtain rfl : args = #[v0, v1] := by cases args; simp_all
  obtain ⟨rfl, rfl⟩ := trodVars_none hV
  obtain ⟨a0, rfl, rfl, rfl, w0⟩ := open_int Try.underlying3 (hval 0 3 v0 rfl rfl) h0
  obtain ⟨a1, len1, cap1, rfl⟩ := okWide_slice Try.underlying23 (hval 1 23 v1 rfl rfl)
  have k1 := h1
  have lt1 : ∀ x ∈ p1, x.block < W.heap.size := by obtain ⟨m, hm⟩ := k1; exact DataW.trod_lt m _ _ _ hm
  obtain ⟨l1, len_1, hb1⟩ : ∃ l : List Int, l.length = len1 ∧ Lv iK W W.heap.size (.slice a1 len1 cap1) l := by
    obtain ⟨fuel, hf⟩ := h1
    rcases open_ints Try.underlying23 Try.underlying3 (by kernel_rfl) hf with ⟨hcs, _⟩ | ⟨x, l, c, zs, hcs, _, hl, hm, hz, _, hcell, hwz⟩
    · simp [Value.cells] at hcs
      obtain ⟨rfl, rfl, rfl⟩ := hcs
      exact ints_in (.inl ⟨rfl, rfl, rfl⟩)
    · simp [Value.cells] at hcs
      obtain ⟨rfl, rfl, rfl⟩ := hcs
      exact ints_in (.inr ⟨x, zs, rfl, hl, hm, by simpa using hz, hcell, hwz⟩)
  clear hA0 hval0
  refine (walk W a0 w0 (.slice a1 len1 cap1) l1 hb1).mono fun e W' ⟨he, bel⟩ => ?_
  subst he
  exact ⟨_, rfl, _, _, _, [], _, [], hW', trodAll_mk1 (shut_bool Try.underlying4 _), (trodAll_cons_mk (shut_int Try.underlying3 w0) (trodAll_cons_mk (Below.trod laidOut (by kernel_rfl) (of_decide_eq_true (by kernel_rfl)) k1 bel lt1) trodAll_mk0)), rfl, bel.frame _, fun h => by cases h⟩

theorem proved : Rows.DealOrdersSaid :=
  OpenClaim.holds_of_wide 4 Try.f4 rfl rfl rfl rfl rfl rfl rfl ⟨rfl, rfl, rfl, rfl, rfl⟩ rfl rfl rfl rfl rfl (by kernel_rfl) Try.func4 (by kernel_rfl)
    (of_decide_eq_true (by kernel_rfl)) (by unfold Func.isWrapper; first | (rw [if_pos (by decide +kernel)]; kernel_rfl) | (rw [if_neg (by decide +kernel)]; exact ⟨rfl, rfl⟩))
    (fun os started H enc _ => lifted os started H enc)

end Go.Proofs.Ytggpldghdaggfaa.dealOrders
