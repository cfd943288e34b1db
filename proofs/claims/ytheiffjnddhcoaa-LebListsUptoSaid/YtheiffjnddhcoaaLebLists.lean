/-
  LebLists, the upto form: of every numbers and bytes, a counted list is laid and read as the document says, or refused so. The condition: what comes in is of bulk at most 1048576.
-/
import Derived.Test.YtheiffjnddhcoaaFrameW
import Derived.Test.YtheiffjnddhcoaaWorks
import Derived.Test.YtheiffjnddhcoaaGetList
import Derived.Test.YtheiffjnddhcoaaPutListI
import Derived.Test.YtheiffjnddhcoaaSameW
namespace Go.Proofs.Ytheiffjnddhcoaa.lebLists
open Go.ChangeShapes Go.WideShapes Go.ChangeAt Go.RowKit
open Go.ChangeMaps (open_string shut_string)
set_option linter.unusedVariables false

theorem tell (r : List Nat × Nat × Nat) : ∃ y k e, r = (y, k, e) := ⟨r.1, r.2.1, r.2.2, rfl⟩

set_option maxHeartbeats 2000000 in
set_option maxRecDepth 100000 in
theorem walk (w : World) (v0 : Value) (l0 : List Nat) (h0 : Wv w w.heap.size v0 l0) (v1 : Value) (l1 : List Nat) (h1 : Bv w w.heap.size v1 l1) (a2 : Int) (w2 : (Lit.int .i64 a2).wf = true) (a3 : Int) (w3 : (Lit.int .i64 a3).wf = true)
    (hsz : l0.length + l1.length ≤ 1048576) :
    Calls Try.prog 6 #[v0, v1, .int .i64 a2, .int .i64 a3] w (IsBool true w) := by
  have hm : a3 ≤ 9223372036854775807 := by have := bounds_i64 w3; omega
  have HM := Lib.hid hm
  have HC := Lib.hid (getList_any v1 l1 _ a2 a3 w (Nat.le_refl _) h1 hm (by omega))
  obtain ⟨y, k, e, hr⟩ := tell (Mt.getList l1 a2 a3)
  have HG := Lib.hid hr
  have H0 := Lib.hid h0
  have H1 := Lib.hid h1
  clear hr h0 h1 hm w2 w3
  go_enter Try.func6, Try.ntmps6
  go_wp2_with fail
  ((with_reducible refine HC.out.mono ?_); rintro e' w1 ⟨A, c, he, ho, hb⟩)
  rw [HG.out] at he ho
  subst he
  have HR := Lib.hid (rgetList_any v1 l1 w.heap.size a2 a3 w1 hb.size (H1.out.below_ hb (Nat.le_refl _)) HM.out (by omega))
  have HX := Lib.hid ho.form_
  have HB := Lib.hid hb
  have H0a := Lib.hid (H0.out.below_ hb (Nat.le_refl _))
  clear HC ho hb
  go_wp2_with fail
  ((with_reducible refine HR.out.mono ?_); rintro e' w2 ⟨A2, c2, he, ho2, hb2⟩)
  rw [HG.out] at he ho2
  subst he
  have HXa := Lib.hid (HX.out.below_ hb2 (Nat.le_refl _))
  have HY := Lib.hid ho2.form_
  have HB2 := Lib.hid (HB.out.trans (hb2.mono HB.out.size))
  have H0b := Lib.hid (H0a.out.below_ hb2 HB.out.size)
  have HP := Lib.hid (putList_any v0 l0 w.heap.size w2 HB2.out.size H0b.out (by omega))
  have hb2s : w1.heap.size ≤ w2.heap.size := hb2.size
  clear HX HB H0a ho2 hb2 HR H0 H1
  go_wp2_with fail
  ((with_reducible refine HP.out.mono ?_); rintro e' w4 ⟨g, rfl, ho4, hb4⟩)
  have HZ := Lib.hid ho4.form_
  have HB4 := Lib.hid (HB2.out.trans (hb4.mono HB2.out.size))
  have HQ := Lib.hid (rputList_any v0 l0 w.heap.size w4 HB4.out.size (H0b.out.below_ hb4 HB2.out.size) (by omega))
  have HXb := Lib.hid (HXa.out.below_ hb4 hb2s)
  have HYb := Lib.hid (HY.out.below_ hb4 (Nat.le_refl _))
  have hb4t : w2.heap.size ≤ w4.heap.size := hb4.size
  have hb4s : w1.heap.size ≤ w4.heap.size := by omega
  clear HXa HY HB2 H0b HP ho4 hb4
  go_wp2_with fail
  ((with_reducible refine HQ.out.mono ?_); rintro e' w5 ⟨A5, c5, rfl, ho5, hb5⟩)
  have HS := Lib.hid (same_bv _ _ _ _ _ _ w5 (HZ.out.below_ hb5 (Nat.le_refl _)) ho5.form_)
  have HB5 := Lib.hid (HB4.out.trans (hb5.mono HB4.out.size))
  have HXc := Lib.hid (HXb.out.below_ hb5 hb4s)
  have HYc := Lib.hid (HYb.out.below_ hb5 hb4t)
  have hb5u : w4.heap.size ≤ w5.heap.size := hb5.size
  have hb5s : w1.heap.size ≤ w5.heap.size := by omega
  have hb5t : w2.heap.size ≤ w5.heap.size := by omega
  clear HZ ho5 hb5 HB4 HXb HYb HQ
  go_wp2_with fail
  ((with_reducible refine HS.out.mono ?_); rintro e' w6 ⟨he, hb6⟩)
  simp only [decide_true] at he
  subst he
  have HB6 := Lib.hid (HB5.out.trans (hb6.mono HB5.out.size))
  have HT := Lib.hid (words_wv _ _ _ _ _ _ w6 (HXc.out.below_ hb6 hb5s) (HYc.out.below_ hb6 hb5t))
  clear HXc HYc HB5 hb6 HS
  go_wp2_with fail
  ((with_reducible refine HT.out.mono ?_); rintro e' w7 ⟨he, hb7⟩)
  simp only [decide_true] at he
  subst he
  have HB7 := Lib.hid (HB6.out.trans (hb7.mono HB6.out.size))
  clear HT HB6 hb7
  have HW := Lib.hid (works_any w7)
  go_wp2_with fail
  ((with_reducible refine HW.out.mono ?_); rintro e w8 ⟨rfl, hb8⟩)
  go_wp2
  go_ret
  exact ⟨rfl, HB7.out.trans (hb8.mono HB7.out.size)⟩

/-! ### From the walk to the row -/
set_option maxRecDepth 100000 in
theorem lifted (os : Os) (started : os.Started) (H : Type) (enc : TypeId × Value → H) (F : Stop.Interp) :
    ReturnsInHanded {} Try.checked os 6 .any ((Rows.OpenSpec.upto Rows.lebListsSpec).pre6 enc Try.prog Try.f6 Rows.lebListsUptoRow.domain false) (((Rows.OpenSpec.upto Rows.lebListsSpec).at F).post enc Try.prog Try.f6 false true false false) := by
  refine returnsInHanded_of_cond (C := Try.checked) (s := Rows.OpenSpec.upto Rows.lebListsSpec) (k := Rows.uptoSmall) rfl own started (by kernel_rfl) Try.func6
    (OpenSpec.witness (enc := enc) (C := Try.checked) (s := Rows.OpenSpec.upto Rows.lebListsSpec) (k := Rows.uptoSmall) rfl false ⟨#[], #[.slice none 0 0, .slice none 0 0, .int .i64 0, .int .i64 0], []⟩ 8 (by kernel_rfl) (by kernel_rfl) (by kernel_rfl)
      (x := ([.nil, .nil, .lit (.int .i64 0), .lit (.int .i64 0)], [], [])) (by kernel_rfl) rfl (by kernel_rfl)) ?_
  intro W base args ds gs before hval0 hW hcnd hsmall _
  have hval : ∀ (j : Nat) t v, Try.f6.params[j]? = some t → args[j]? = some v → Value.okWide Try.prog W .any base t v := hval0
  have hW' := hW
  obtain ⟨p, q, hA0, hV, rfl, hfz, hnd⟩ := hW
  have hA : DataW.TrodAll enc Try.prog W 0 (fun _ => true) true Try.f6.params.toList args.toList ds p := hA0
  rw [Try.params6] at hA hval
  obtain ⟨v0, vs0, d0, ds0, p0, q0, hargs, rfl, rfl, h0, r0⟩ := trodAll_cons hA
  obtain ⟨v1, vs1, d1, ds1, p1, q1, rfl, rfl, rfl, h1, r1⟩ := trodAll_cons r0
  obtain ⟨v2, vs2, d2, ds2, p2, q2, rfl, rfl, rfl, h2, r2⟩ := trodAll_cons r1
  obtain ⟨v3, vs3, d3, ds3, p3, q3, rfl, rfl, rfl, h3, r3⟩ := trodAll_cons r2
  obtain ⟨rfl, rfl, rfl⟩ := trodAll_nil r3
  obtain rfl : args = #[v0, v1, v2, v3] := by cases args; simp_all
  obtain ⟨rfl, rfl⟩ := trodVars_none hV
  obtain ⟨a0, len0, cap0, rfl⟩ := okWide_slice Try.underlying37 (hval 0 37 v0 rfl rfl)
  have k0 := h0
  have lt0 : ∀ x ∈ p0, x.block < W.heap.size := by obtain ⟨m, hm⟩ := k0; exact DataW.trod_lt m _ _ _ hm
  have bulk0 : len0 ≤ Rows.uptoBulk d0 := by
    obtain ⟨fuel, hf⟩ := h0
    rcases open_ints Try.underlying37 Try.underlying22 (by kernel_rfl) hf with ⟨hcs, _⟩ | ⟨x, l, c, zs, hcs, _, hl, hm, hz, hx, hcell, hwz⟩
    · simp [Value.cells] at hcs
      omega
    · simp [Value.cells] at hcs
      obtain ⟨rfl, rfl, rfl⟩ := hcs
      rw [Prod.mk.injEq] at hx
      rw [hx.1]
      exact bulk_ints _ _ _ (by rw [hz]; simp; omega)
  obtain ⟨l0, len_0, hb0⟩ : ∃ l : List Nat, l.length = len0 ∧ Wv W W.heap.size (.slice a0 len0 cap0) l := by
    obtain ⟨fuel, hf⟩ := h0
    rcases open_ints Try.underlying37 Try.underlying22 (by kernel_rfl) hf with ⟨hcs, _⟩ | ⟨x, l, c, zs, hcs, _, hl, hm, hz, _, hcell, hwz⟩
    · simp [Value.cells] at hcs
      obtain ⟨rfl, rfl, rfl⟩ := hcs
      exact words_in (.inl ⟨rfl, rfl, rfl⟩)
    · simp [Value.cells] at hcs
      obtain ⟨rfl, rfl, rfl⟩ := hcs
      exact words_in (.inr ⟨x, zs, rfl, hl, hm, by simpa using hz, hcell, hwz⟩)
  obtain ⟨a1, len1, cap1, rfl⟩ := okWide_slice Try.underlying23 (hval 1 23 v1 rfl rfl)
  have k1 := h1
  have lt1 : ∀ x ∈ p1, x.block < W.heap.size := by obtain ⟨m, hm⟩ := k1; exact DataW.trod_lt m _ _ _ hm
  have bulk1 : len1 ≤ Rows.uptoBulk d1 := by
    obtain ⟨fuel, hf⟩ := h1
    rcases open_ints Try.underlying23 Try.underlying5 (by kernel_rfl) hf with ⟨hcs, _⟩ | ⟨x, l, c, zs, hcs, _, hl, hm, hz, hx, hcell, hwz⟩
    · simp [Value.cells] at hcs
      omega
    · simp [Value.cells] at hcs
      obtain ⟨rfl, rfl, rfl⟩ := hcs
      rw [Prod.mk.injEq] at hx
      rw [hx.1]
      exact bulk_ints _ _ _ (by rw [hz]; simp; omega)
  obtain ⟨l1, len_1, hb1⟩ : ∃ l : List Nat, l.length = len1 ∧ Bv W W.heap.size (.slice a1 len1 cap1) l := by
    obtain ⟨fuel, hf⟩ := h1
    rcases open_ints Try.underlying23 Try.underlying5 (by kernel_rfl) hf with ⟨hcs, _⟩ | ⟨x, l, c, zs, hcs, _, hl, hm, hz, _, hcell, hwz⟩
    · simp [Value.cells] at hcs
      obtain ⟨rfl, rfl, rfl⟩ := hcs
      exact bytes_in (.inl ⟨rfl, rfl, rfl⟩)
    · simp [Value.cells] at hcs
      obtain ⟨rfl, rfl, rfl⟩ := hcs
      exact bytes_in (.inr ⟨x, zs, rfl, hl, hm, by simpa using hz, hcell, hwz⟩)
  obtain ⟨a2, rfl, rfl, rfl, w2⟩ := open_int Try.underlying3 (hval 2 3 v2 rfl rfl) h2
  obtain ⟨a3, rfl, rfl, rfl, w3⟩ := open_int Try.underlying3 (hval 3 3 v3 rfl rfl) h3
  clear hA0 hval0
  have hsum := bulk_all hsmall
  simp only [List.append_nil, Rows.uptoBulkAll] at hsum
  have hsum2 : l0.length + l1.length ≤ 1048576 := by omega
  refine (walk W (.slice a0 len0 cap0) l0 hb0 (.slice a1 len1 cap1) l1 hb1 a2 w2 a3 w3 hsum2).mono fun e W' ⟨he, bel⟩ => ?_
  subst he
  exact ⟨_, rfl, _, _, _, [], _, [], hW', trodAll_mk1 (shut_bool Try.underlying4 _), (trodAll_cons_mk (Below.trod laidOut (by kernel_rfl) (of_decide_eq_true (by kernel_rfl)) k0 bel lt0) (trodAll_cons_mk (Below.trod laidOut (by kernel_rfl) (of_decide_eq_true (by kernel_rfl)) k1 bel lt1) (trodAll_cons_mk (shut_int Try.underlying3 w2) (trodAll_cons_mk (shut_int Try.underlying3 w3) trodAll_mk0)))), rfl, bel.frame _, fun h => by cases h⟩

theorem proved : Rows.LebListsUptoSaid :=
  OpenClaim.holds_of_cond 6 Try.f6 rfl rfl rfl rfl rfl rfl rfl ⟨rfl, rfl, rfl, rfl, rfl⟩ rfl rfl rfl rfl rfl (by kernel_rfl) Try.func6 (by kernel_rfl)
    (of_decide_eq_true (by kernel_rfl)) (by unfold Func.isWrapper; first | (rw [if_pos (by decide +kernel)]; kernel_rfl) | (rw [if_neg (by decide +kernel)]; exact ⟨rfl, rfl⟩))
    (fun os started H enc _ F => lifted os started H enc F)

end Go.Proofs.Ytheiffjnddhcoaa.lebLists
