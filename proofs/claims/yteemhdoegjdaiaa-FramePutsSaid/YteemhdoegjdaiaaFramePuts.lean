/-
  FramePuts: of every payload and every number, the frame, and how many bytes one has, are the document's, or its error. No condition.
-/
import Derived.Test.YteemhdoegjdaiaaFrame
import Derived.Test.YteemhdoegjdaiaaFWorks
import Derived.Test.YteemhdoegjdaiaaFRows
namespace Go.Proofs.Yteemhdoegjdaiaa.framePuts
open Go.ChangeShapes Go.WideShapes Go.ChangeAt Go.RowKit
open Go.ChangeMaps (open_string shut_string)
set_option linter.unusedVariables false

theorem size_put {p y : List Nat} {e : Nat} (h : Fr.put p = (y, e)) : Fr.size (p.length : Nat) = y.length := by
  by_cases hl : 65536 < p.length
  · rw [Fr.put_out hl] at h
    simp only [Prod.mk.injEq] at h
    rw [← h.1, Fr.size_out (.inr (by omega))]; rfl
  · rw [Fr.put_in (by omega)] at h
    simp only [Prod.mk.injEq] at h
    rw [← h.1, Fr.size_frm (by omega)]

set_option maxHeartbeats 2000000 in
set_option maxRecDepth 100000 in
theorem walk (w : World) (v0 : Value) (l0 : List Nat) (h0 : Bv w w.heap.size v0 l0) (a1 : Int) (w1 : (Lit.int .i64 a1).wf = true) :
    Calls Try.prog 3 #[v0, .int .i64 a1] w (IsBool true w) := by
  have HC := Lib.hid (fput_any v0 l0 _ w (Nat.le_refl _) h0)
  obtain ⟨y, e, hr⟩ : ∃ y e, Fr.put l0 = (y, e) := ⟨_, _, rfl⟩
  have HG := Lib.hid hr
  have HZ := Lib.hid (size_put hr)
  have H0 := Lib.hid h0
  obtain ⟨A0, c0, rfl, hc1, hc2, _, _⟩ := h0
  unfold maxLen at hc2
  clear hr w1
  go_enter Try.func3, Try.ntmps3
  go_wp2_with fail
  ((with_reducible refine HC.out.mono ?_); rintro e' w1 ⟨A, he, ho, hb⟩)
  rw [HG.out] at he ho
  subst he
  have HR := Lib.hid (rfput_any _ l0 w.heap.size w1 hb.size (H0.out.below_ hb (Nat.le_refl _)))
  have HX := Lib.hid ho.form_
  have HB := Lib.hid hb
  clear HC ho hb
  go_wp2_with fail
  ((with_reducible refine HR.out.mono ?_); rintro e' w2 ⟨A2, c2, he, ho2, hb2⟩)
  rw [HG.out] at he ho2
  subst he
  have HS := Lib.hid (same_bv _ _ _ _ _ _ w2 (HX.out.below_ hb2 (Nat.le_refl _)) ho2.form_)
  have HB2 := Lib.hid (HB.out.trans (hb2.mono HB.out.size))
  clear HX HB ho2 hb2 HR H0
  go_wp2_with fail
  ((with_reducible refine HS.out.mono ?_); rintro e' w3 ⟨he, hb3⟩)
  simp only [decide_true] at he
  subst he
  have HB3 := Lib.hid (HB2.out.trans (hb3.mono HB2.out.size))
  clear HS HB2 hb3
  have HT := Lib.hid (size_any a1 w3)
  go_wp2_with fail
  ((with_reducible refine HT.out.mono ?_); rintro e w4 ⟨rfl, hb4⟩)
  have HB4 := Lib.hid (HB3.out.trans (hb4.mono HB3.out.size))
  have HU := Lib.hid (rsize_any a1 w4)
  clear HT HB3 hb4
  go_wp2_with fail
  ((with_reducible refine HU.out.mono ?_); rintro e w5 ⟨rfl, hb5⟩)
  have HB5 := Lib.hid (HB4.out.trans (hb5.mono HB4.out.size))
  have HV := Lib.hid (size_any (l0.length : Nat) w5)
  rw [HZ.out] at HV
  clear HU HB4 hb5
  go_wp2_with fail
  ((with_reducible refine HV.out.mono ?_); rintro e w6 ⟨rfl, hb6⟩)
  have HB6 := Lib.hid (HB5.out.trans (hb6.mono HB5.out.size))
  have HW := Lib.hid (works_any w6)
  clear HV HB5 hb6
  go_wp2_with fail
  ((with_reducible refine HW.out.mono ?_); rintro e w7 ⟨rfl, hb7⟩)
  go_wp2
  go_ret
  exact ⟨rfl, HB6.out.trans (hb7.mono HB6.out.size)⟩

/-! ### From the walk to the row -/
set_option maxRecDepth 100000 in
theorem lifted (os : Os) (started : os.Started) (H : Type) (enc : TypeId × Value → H) :
    ReturnsInHanded {} Try.checked os 3 .any (Rows.framePutsSpec.pre6 enc Try.prog Try.f3 Rows.framePutsRow.domain false) (Rows.framePutsSpec.post enc Try.prog Try.f3 false true false false) := by
  refine returnsInHanded_of_change (C := Try.checked) own started (by kernel_rfl) Try.func3
    (ChangeSpec.witness6 (enc := enc) (C := Try.checked) false ⟨#[], #[.slice none 0 0, .int .i64 0], []⟩ 8 (by kernel_rfl) (by kernel_rfl) (by kernel_rfl) (by kernel_rfl)) ?_
  intro W base args ds gs before hval0 hW hcnd _
  have hval : ∀ (j : Nat) t v, Try.f3.params[j]? = some t → args[j]? = some v → Value.okWide Try.prog W .any base t v := hval0
  have hW' := hW
  obtain ⟨p, q, hA0, hV, rfl, hfz, hnd⟩ := hW
  have hA : DataW.TrodAll enc Try.prog W 0 (fun _ => true) true Try.f3.params.toList args.toList ds p := hA0
  rw [Try.params3] at hA hval
  obtain ⟨v0, vs0, d0, ds0, p0, q0, hargs, rfl, rfl, h0, r0⟩ := trodAll_cons hA
  obtain ⟨v1, vs1, d1, ds1, p1, q1, rfl, rfl, rfl, h1, r1⟩ := trodAll_cons r0
  obtain ⟨rfl, rfl, rfl⟩ := trodAll_nil r1
  obtain rfl : args = #[v0, v1] := by cases args; simp_all
  obtain ⟨rfl, rfl⟩ := trodVars_none hV
  obtain ⟨a0, len0, cap0, rfl⟩ := okWide_slice Try.underlying22 (hval 0 22 v0 rfl rfl)
  have k0 := h0
  have lt0 : ∀ x ∈ p0, x.block < W.heap.size := by obtain ⟨m, hm⟩ := k0; exact DataW.trod_lt m _ _ _ hm
  obtain ⟨l0, len_0, hb0⟩ : ∃ l : List Nat, l.length = len0 ∧ Bv W W.heap.size (.slice a0 len0 cap0) l := by
    obtain ⟨fuel, hf⟩ := h0
    rcases open_ints Try.underlying22 Try.underlying5 (by kernel_rfl) hf with ⟨hcs, _⟩ | ⟨x, l, c, zs, hcs, _, hl, hm, hz, _, hcell, hwz⟩
    · simp [Value.cells] at hcs
      obtain ⟨rfl, rfl, rfl⟩ := hcs
      exact bytes_in (.inl ⟨rfl, rfl, rfl⟩)
    · simp [Value.cells] at hcs
      obtain ⟨rfl, rfl, rfl⟩ := hcs
      exact bytes_in (.inr ⟨x, zs, rfl, hl, hm, by simpa using hz, hcell, hwz⟩)
  obtain ⟨a1, rfl, rfl, rfl, w1⟩ := open_int Try.underlying3 (hval 1 3 v1 rfl rfl) h1
  clear hA0 hval0
  refine (walk W (.slice a0 len0 cap0) l0 hb0 a1 w1).mono fun e W' ⟨he, bel⟩ => ?_
  subst he
  exact ⟨_, rfl, _, _, _, [], _, [], hW', trodAll_mk1 (shut_bool Try.underlying4 _), (trodAll_cons_mk (Below.trod laidOut (by kernel_rfl) (of_decide_eq_true (by kernel_rfl)) k0 bel lt0) (trodAll_cons_mk (shut_int Try.underlying3 w1) trodAll_mk0)), rfl, bel.frame _, fun h => by cases h⟩

theorem proved : Rows.FramePutsSaid :=
  OpenClaim.holds_of_wide 3 Try.f3 rfl rfl rfl rfl rfl rfl rfl ⟨rfl, rfl, rfl, rfl, rfl⟩ rfl rfl rfl rfl rfl (by kernel_rfl) Try.func3 (by kernel_rfl)
    (of_decide_eq_true (by kernel_rfl)) (by unfold Func.isWrapper; first | (rw [if_pos (by decide +kernel)]; kernel_rfl) | (rw [if_neg (by decide +kernel)]; exact ⟨rfl, rfl⟩))
    (fun os started H enc _ => lifted os started H enc)

end Go.Proofs.Yteemhdoegjdaiaa.framePuts
