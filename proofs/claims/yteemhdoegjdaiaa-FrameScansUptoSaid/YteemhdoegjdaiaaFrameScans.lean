/-
  FrameScans, the upto form: whatever bytes are scanned, what is told is the document's. The condition: what comes in is of bulk at most 1048576.
-/
import Derived.Test.YteemhdoegjdaiaaFrame
import Derived.Test.YteemhdoegjdaiaaBulk
import Derived.Test.YteemhdoegjdaiaaFWorks
import Derived.Test.YteemhdoegjdaiaaRFScan
import Derived.Test.YteemhdoegjdaiaaFRows
namespace Go.Proofs.Yteemhdoegjdaiaa.frameScans
open Go.ChangeShapes Go.WideShapes Go.ChangeAt Go.RowKit
open Go.ChangeMaps (open_string shut_string)
set_option linter.unusedVariables false

set_option maxHeartbeats 2000000 in
set_option maxRecDepth 100000 in
theorem walk (w : World) (v0 : Value) (l0 : List Nat) (h0 : Bv w w.heap.size v0 l0) (hsz : l0.length ≤ 1048576) :
    Calls Try.prog 5 #[v0] w (IsBool true w) := by
  have H0 := Lib.hid h0
  have H1 := Lib.hid (scan_any v0 l0 _ w (Nat.le_refl _) h0 (by omega))
  obtain ⟨ls, k, e, hr⟩ : ∃ ls k e, Fr.scan l0 = (ls, k, e) := ⟨_, _, _, rfl⟩
  obtain ⟨ys, f, ha⟩ : ∃ ys f, Fr.all l0 = (ys, f) := ⟨_, _, rfl⟩
  have HS := Lib.hid hr
  have HA := Lib.hid ha
  rw [hr] at H1
  obtain ⟨A0, c0, rfl, _, _, _, _⟩ := h0
  clear hr ha
  go_enter Try.func5, Try.ntmps5
  go_wp2_with fail
  ((with_reducible refine H1.out.mono ?_); rintro e' w1 ⟨A1, c1, rfl, ho1, hb1⟩)
  have HB1 := Lib.hid hb1
  have HR1 := Lib.hid ho1.form_
  have H2 := rscan_any _ l0 w.heap.size w1 hb1.size (H0.out.below_ hb1 (Nat.le_refl _)) (by omega)
  rw [HS.out] at H2
  have H2 := Lib.hid H2
  clear ho1 hb1 H1
  go_wp2_with fail
  ((with_reducible refine H2.out.mono ?_); rintro e' w2 ⟨A2, c2, rfl, ho2, hb2⟩)
  have HB2 := Lib.hid (HB1.out.trans (hb2.mono HB1.out.size))
  have HR1a := Lib.hid (HR1.out.below_ hb2 (Nat.le_refl _))
  have HR2 := Lib.hid ho2.form_
  have z12 : w1.heap.size ≤ w2.heap.size := hb2.size
  have H3 := all_any _ l0 w.heap.size w2 HB2.out.size (H0.out.below_ HB2.out (Nat.le_refl _)) (by omega)
  rw [HA.out] at H3
  have H3 := Lib.hid H3
  clear ho2 hb2 H2 HB1 HR1
  go_wp2_with fail
  ((with_reducible refine H3.out.mono ?_); rintro e' w3 ⟨A3, c3, rfl, ho3, hb3⟩)
  have HB3 := Lib.hid (HB2.out.trans (hb3.mono HB2.out.size))
  have HR1b := Lib.hid (HR1a.out.below_ hb3 z12)
  have HR2a := Lib.hid (HR2.out.below_ hb3 (Nat.le_refl _))
  have HR3 := Lib.hid ho3.form_
  have z23 : w2.heap.size ≤ w3.heap.size := hb3.size
  have H4 := rall_any _ l0 w.heap.size w3 HB3.out.size (H0.out.below_ HB3.out (Nat.le_refl _)) (by omega)
  rw [HA.out] at H4
  have H4 := Lib.hid H4
  clear ho3 hb3 H3 HB2 HR1a HR2
  go_wp2_with fail
  ((with_reducible refine H4.out.mono ?_); rintro e' w4 ⟨A4, c4, rfl, ho4, hb4⟩)
  have HB4 := Lib.hid (HB3.out.trans (hb4.mono HB3.out.size))
  have HR1c := Lib.hid (HR1b.out.below_ hb4 (by omega))
  have HR2b := Lib.hid (HR2a.out.below_ hb4 z23)
  have HR3a := Lib.hid (HR3.out.below_ hb4 (Nat.le_refl _))
  have HR4 := Lib.hid ho4.form_
  have z34 : w3.heap.size ≤ w4.heap.size := hb4.size
  have H5 := Lib.hid (rows_any _ _ _ _ _ _ w4 HR1c.out HR2b.out (by omega) (by omega))
  clear ho4 hb4 H4 HB3 HR1b HR2a HR3
  go_wp2_with fail
  ((with_reducible refine H5.out.mono ?_); rintro e' w5 ⟨he, hb5⟩)
  simp only [decide_true] at he
  subst he
  have HB5 := Lib.hid (HB4.out.trans (hb5.mono HB4.out.size))
  have z45 : w4.heap.size ≤ w5.heap.size := hb5.size
  have H6 := Lib.hid (rows_any _ _ _ _ _ _ w5 (HR3a.out.below_ hb5 z34) (HR4.out.below_ hb5 (Nat.le_refl _)) (by omega) (by omega))
  clear hb5 H5 HB4 HR1c HR2b HR3a HR4
  go_wp2_with fail
  ((with_reducible refine H6.out.mono ?_); rintro e' w6 ⟨he, hb6⟩)
  simp only [decide_true] at he
  subst he
  have HB6 := Lib.hid (HB5.out.trans (hb6.mono HB5.out.size))
  have HW := Lib.hid (works_any w6)
  clear hb6 H6 HB5
  go_wp2_with fail
  ((with_reducible refine HW.out.mono ?_); rintro e w7 ⟨rfl, hb7⟩)
  go_wp2
  go_ret
  exact ⟨rfl, HB6.out.trans (hb7.mono HB6.out.size)⟩

/-! ### From the walk to the row -/
set_option maxRecDepth 100000 in
theorem lifted (os : Os) (started : os.Started) (H : Type) (enc : TypeId × Value → H) (F : Stop.Interp) :
    ReturnsInHanded {} Try.checked os 5 .any ((Rows.OpenSpec.upto Rows.frameScansSpec).pre6 enc Try.prog Try.f5 Rows.frameScansUptoRow.domain false) (((Rows.OpenSpec.upto Rows.frameScansSpec).at F).post enc Try.prog Try.f5 false true false false) := by
  refine returnsInHanded_of_cond (C := Try.checked) (s := Rows.OpenSpec.upto Rows.frameScansSpec) (k := Rows.uptoSmall) rfl own started (by kernel_rfl) Try.func5
    (OpenSpec.witness (enc := enc) (C := Try.checked) (s := Rows.OpenSpec.upto Rows.frameScansSpec) (k := Rows.uptoSmall) rfl false ⟨#[], #[.slice none 0 0], []⟩ 8 (by kernel_rfl) (by kernel_rfl) (by kernel_rfl)
      (x := ([.nil], [], [])) (by kernel_rfl) rfl (by kernel_rfl)) ?_
  intro W base args ds gs before hval0 hW hcnd hsmall _
  have hval : ∀ (j : Nat) t v, Try.f5.params[j]? = some t → args[j]? = some v → Value.okWide Try.prog W .any base t v := hval0
  have hW' := hW
  obtain ⟨p, q, hA0, hV, rfl, hfz, hnd⟩ := hW
  have hA : DataW.TrodAll enc Try.prog W 0 (fun _ => true) true Try.f5.params.toList args.toList ds p := hA0
  rw [Try.params5] at hA hval
  obtain ⟨v0, vs0, d0, ds0, p0, q0, hargs, rfl, rfl, h0, r0⟩ := trodAll_cons hA
  obtain ⟨rfl, rfl, rfl⟩ := trodAll_nil r0
  obtain rfl : args = #[v0] := by cases args; simp_all
  obtain ⟨rfl, rfl⟩ := trodVars_none hV
  obtain ⟨a0, len0, cap0, rfl⟩ := okWide_slice Try.underlying22 (hval 0 22 v0 rfl rfl)
  have k0 := h0
  have lt0 : ∀ x ∈ p0, x.block < W.heap.size := by obtain ⟨m, hm⟩ := k0; exact DataW.trod_lt m _ _ _ hm
  have bulk0 : len0 ≤ Rows.uptoBulk d0 := by
    obtain ⟨fuel, hf⟩ := h0
    rcases open_ints Try.underlying22 Try.underlying5 (by kernel_rfl) hf with ⟨hcs, _⟩ | ⟨x, l, c, zs, hcs, _, hl, hm, hz, hx, hcell, hwz⟩
    · simp [Value.cells] at hcs
      omega
    · simp [Value.cells] at hcs
      obtain ⟨rfl, rfl, rfl⟩ := hcs
      rw [Prod.mk.injEq] at hx
      rw [hx.1]
      exact bulk_ints _ _ _ (by rw [hz]; simp; omega)
  obtain ⟨l0, len_0, hb0⟩ : ∃ l : List Nat, l.length = len0 ∧ Bv W W.heap.size (.slice a0 len0 cap0) l := by
    obtain ⟨fuel, hf⟩ := h0
    rcases open_ints Try.underlying22 Try.underlying5 (by kernel_rfl) hf with ⟨hcs, _⟩ | ⟨x, l, c, zs, hcs, _, hl, hm, hz, _, hcell, hwz⟩
    · simp [Value.cells] at hcs
      obtain ⟨rfl, rfl, rfl⟩ := hcs
      exact bytes_in (.inl ⟨rfl, rfl, rfl⟩)
    · simp [Value.cells] at hcs
      obtain ⟨rfl, rfl, rfl⟩ := hcs
      exact bytes_in (.inr ⟨x, zs, rfl, hl, hm, by simpa using hz, hcell, hwz⟩)
  clear hA0 hval0
  have hsum := bulk_all hsmall
  simp only [List.append_nil, Rows.uptoBulkAll] at hsum
  have hsum2 : l0.length ≤ 1048576 := by omega
  refine (walk W (.slice a0 len0 cap0) l0 hb0 hsum2).mono fun e W' ⟨he, bel⟩ => ?_
  subst he
  exact ⟨_, rfl, _, _, _, [], _, [], hW', trodAll_mk1 (shut_bool Try.underlying4 _), (trodAll_cons_mk (Below.trod laidOut (by kernel_rfl) (of_decide_eq_true (by kernel_rfl)) k0 bel lt0) trodAll_mk0), rfl, bel.frame _, fun h => by cases h⟩

theorem proved : Rows.FrameScansUptoSaid :=
  OpenClaim.holds_of_cond 5 Try.f5 rfl rfl rfl rfl rfl rfl rfl ⟨rfl, rfl, rfl, rfl, rfl⟩ rfl rfl rfl rfl rfl (by kernel_rfl) Try.func5 (by kernel_rfl)
    (of_decide_eq_true (by kernel_rfl)) (by unfold Func.isWrapper; first | (rw [if_pos (by decide +kernel)]; kernel_rfl) | (rw [if_neg (by decide +kernel)]; exact ⟨rfl, rfl⟩))
    (fun os started H enc _ F => lifted os started H enc F)

end Go.Proofs.Yteemhdoegjdaiaa.frameScans
