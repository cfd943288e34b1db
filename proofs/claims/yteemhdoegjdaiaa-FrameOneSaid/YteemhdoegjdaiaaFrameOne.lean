/-
  FrameOne: of every bytes, from every place on, where a frame is read, the bytes that it was read of are those that are put of its payload, as many as Size says. No condition.
-/
import Derived.Test.YteemhdoegjdaiaaFrame
import Derived.Test.YteemhdoegjdaiaaFWorks
import Derived.Test.YteemhdoegjdaiaaFRows
import Derived.Test.YteemhdoegjdaiaaCut
import Derived.SizedLaws
namespace Go.Proofs.Yteemhdoegjdaiaa.frameOne
open Go.ChangeShapes Go.WideShapes Go.ChangeAt Go.RowKit
open Go.ChangeMaps (open_string shut_string)
set_option linter.unusedVariables false

set_option maxHeartbeats 2000000 in
set_option maxRecDepth 100000 in
theorem walk (w : World) (v0 : Value) (l0 : List Nat) (h0 : Bv w w.heap.size v0 l0) (a1 : Int) (w1 : (Lit.int .i64 a1).wf = true) (r0 : l0.length * 1 ≤ 140737488351232) :
    Calls Try.prog 10 #[v0, .int .i64 a1] w (IsBool true w) := by
  have HC := Lib.hid (fget_any v0 l0 _ a1 w (Nat.le_refl _) h0 (by omega))
  rcases Fr.get_cases h0.lt_ a1 with ⟨e, he2, he6, hr⟩ | ⟨k, y, q, rfl, hk, hd, hle, hy, hr⟩
  · have HR := Lib.hid hr
    have hq : (((e : Nat) : Int) != 0) = true := by rw [bne_iff_ne]; omega
    clear hr w1
    obtain ⟨A0, c0, rfl, _, _, _, _⟩ := h0
    go_enter Try.func10, Try.ntmps10
    go_wp2_with fail
    ((with_reducible refine HC.out.mono ?_); rintro e' w2 ⟨A, he, ho, hb2⟩)
    rw [HR.out] at he ho
    subst he
    have HB := Lib.hid hb2
    clear HC hb2 ho
    have HW := Lib.hid (works_any w2)
    go_wp2_with fail
    ((with_reducible refine HW.out.mono ?_); rintro e w4 ⟨rfl, hb4⟩)
    go_wp2
    go_ret
    exact ⟨rfl, HB.out.trans (hb4.mono HB.out.size)⟩
  · have hp := Fr.frm_pos y
    have HP0 := Lib.hid (Fr.put_in hy)
    have HZ0 := Lib.hid (Fr.size_frm hy)
    obtain ⟨F, hF⟩ : ∃ F, Fr.frm y = F := ⟨_, rfl⟩
    rw [hF] at hd hle hr hp HP0 HZ0
    obtain ⟨m, hm⟩ : ∃ m, F.length = m := ⟨_, rfl⟩
    rw [hm] at hle hr hp HZ0
    have ht : (l0.drop k).take m = F := by rw [hd, ← hm, List.take_left]
    have HR := Lib.hid hr
    have HT := Lib.hid ht
    have HM := Lib.hid hm
    have H0 := Lib.hid h0
    obtain ⟨A0, c0, rfl, hc1, hc2, hc3, h4⟩ := id h0
    obtain ⟨b, off, rfl, _⟩ := h4.2 (by omega)
    unfold maxLen at hc2
    clear hr ht hd hF hm w1 h0 h4 hc3
    have e0 : (0 : Int) ≤ (k : Int) := by omega
    have e1 : (k : Int) < (k : Int) + (m : Nat) := by omega
    have e2 : (k : Int) + (m : Nat) ≤ (l0.length : Nat) := by omega
    have e3 : (k : Int) + (m : Nat) ≤ (c0 : Nat) := by omega
    have e4 : (k : Int) ≤ (k : Int) + ((m : Nat) : Int) := by omega
    have e6 : ¬ c0 = k := by omega
    have e10 : ((k : Int) + ((m : Nat) : Int)).toNat = k + m := by omega
    have e11 : (k : Int) + (m : Nat) - (k : Int) = (m : Nat) := by omega
    go_enter Try.func10, Try.ntmps10
    go_wp2_with fail
    ((with_reducible refine HC.out.mono ?_); rintro e' w2 ⟨A, he, ho, hb2⟩)
    rw [HR.out] at he ho
    subst he
    have HB := Lib.hid hb2
    have HP := Lib.hid (fput_any _ y _ w2 (Nat.le_refl _) ho.form_)
    rw [HP0.out] at HP
    have H2 := Lib.hid (H0.out.below_ hb2 (Nat.le_refl _))
    have HX := Lib.hid (H2.out.cut_ (k := k) (m := m) hle)
    rw [HT.out] at HX
    clear HC hb2 ho H0 HT
    go_wp2_with fail
    ((with_reducible refine HP.out.mono ?_); rintro e w3 ⟨A3, rfl, ho3, hb3⟩)
    have HB3 := Lib.hid (HB.out.trans (hb3.mono HB.out.size))
    have HO3 := Lib.hid ho3.form_
    have HX3 := Lib.hid (HX.out.below_ hb3 HB.out.size)
    have HZ := Lib.hid (size_any (y.length : Nat) w3)
    rw [HZ0.out] at HZ
    clear HP ho3 hb3 HB HX H2
    go_wp2_with fail
    ((with_reducible refine HZ.out.mono ?_); rintro e w4 ⟨rfl, hb4⟩)
    have HB4 := Lib.hid (HB3.out.trans (hb4.mono HB3.out.size))
    have HS := Lib.hid (same_bv _ _ _ _ _ _ w4 (HO3.out.below_ hb4 (Nat.le_refl _)) (HX3.out.below_ hb4 HB3.out.size))
    clear HZ hb4 HB3 HO3 HX3
    go_wp2_with fail
    ((with_reducible refine HS.out.mono ?_); rintro e w5 ⟨he, hb5⟩)
    simp only [decide_true] at he
    subst he
    have HB5 := Lib.hid (HB4.out.trans (hb5.mono HB4.out.size))
    have HW := Lib.hid (works_any w5)
    clear HS hb5 HB4
    go_wp2_with fail
    ((with_reducible refine HW.out.mono ?_); rintro e w6 ⟨rfl, hb6⟩)
    go_wp2
    go_ret
    exact ⟨rfl, HB5.out.trans (hb6.mono HB5.out.size)⟩

/-! ### From the walk to the row -/
set_option maxRecDepth 100000 in
theorem lifted (os : Os) (started : os.Started) (H : Type) (enc : TypeId × Value → H) :
    ReturnsInHanded {} Try.checked os 10 .any (Rows.frameOneSpec.pre6 enc Try.prog Try.f10 Rows.frameOneRow.domain false) (Rows.frameOneSpec.post enc Try.prog Try.f10 false true false false) := by
  refine returnsInHanded_of_change_sized (C := Try.checked) own started (by kernel_rfl) Try.func10
    (ChangeSpec.witness6 (enc := enc) (C := Try.checked) false ⟨#[], #[.slice none 0 0, .int .i64 0], []⟩ 8 (by kernel_rfl) (by kernel_rfl) (by kernel_rfl) (by kernel_rfl)) ?_
  intro W base args ds gs before hval0 hW hcnd hreach _
  have hval : ∀ (j : Nat) t v, Try.f10.params[j]? = some t → args[j]? = some v → Value.okWide Try.prog W .any base t v := hval0
  have hW' := hW
  obtain ⟨p, q, hA0, hV, rfl, hfz, hnd⟩ := hW
  have hA : DataW.TrodAll enc Try.prog W 0 (fun _ => true) true Try.f10.params.toList args.toList ds p := hA0
  rw [Try.params10] at hA hval
  obtain ⟨v0, vs0, d0, ds0, p0, q0, hargs, rfl, rfl, h0, r0⟩ := trodAll_cons hA
  obtain ⟨v1, vs1, d1, ds1, p1, q1, rfl, rfl, rfl, h1, r1⟩ := trodAll_cons r0
  obtain ⟨rfl, rfl, rfl⟩ := trodAll_nil r1
  obtain rfl : args = #[v0, v1] := by cases args; simp_all
  obtain ⟨rfl, rfl⟩ := trodVars_none hV
  obtain ⟨a0, len0, cap0, rfl⟩ := okWide_slice Try.underlying22 (hval 0 22 v0 rfl rfl)
  have k0 := h0
  have lt0 : ∀ x ∈ p0, x.block < W.heap.size := by obtain ⟨m, hm⟩ := k0; exact DataW.trod_lt m _ _ _ hm
  obtain ⟨l0, len_0, hb0⟩ : ∃ l : List Nat, l.length = len0 ∧ Bv W W.heap.size (.slice a0 len0 cap0) l := by
    obtain ⟨fuel, hf⟩ := h0
    rcases open_ints Try.underlying22 Try.underlying5 (by kernel_rfl) hf with ⟨hcs, _⟩ | ⟨x, l, c, zs, hcs, _, hl, hm, hz, _, hcell, hwz⟩
    · simp [Value.cells] at hcs
      obtain ⟨rfl, rfl, rfl⟩ := hcs
      exact bytes_in (.inl ⟨rfl, rfl, rfl⟩)
    · simp [Value.cells] at hcs
      obtain ⟨rfl, rfl, rfl⟩ := hcs
      exact bytes_in (.inr ⟨x, zs, rfl, hl, hm, by simpa using hz, hcell, hwz⟩)
  obtain ⟨a1, rfl, rfl, rfl, w1⟩ := open_int Try.underlying3 (hval 1 3 v1 rfl rfl) h1
  have reach0 : len0 * 1 ≤ 140737488351232 := by
    obtain ⟨fuel, hf⟩ := k0
    rcases open_ints Try.underlying22 Try.underlying5 (by kernel_rfl) hf with ⟨hcs, _⟩ | ⟨x, l, c, zs, hcs, _, hl, hm, hz, hx, hcell, hwz⟩
    · simp [Value.cells] at hcs
      omega
    · simp [Value.cells] at hcs
      obtain ⟨rfl, rfl, rfl⟩ := hcs
      rw [Prod.mk.injEq] at hx
      have hs := sized_slice hreach (j := 0) (t := 22) (e := 5) (elems := lits .u8 (zs.take len0)) (spare := lits .u8 (zs.drop len0)) rfl (by rw [hx.1]; rfl) Try.underlying22
      have hb : Try.prog.bytesOf 5 = 1 := by kernel_rfl
      change _ * Try.prog.bytesOf 5 ≤ _ at hs
      rw [hb] at hs
      simp [lits, reachBytes] at hs hz
      omega
  clear hA0 hval0
  refine (walk W (.slice a0 len0 cap0) l0 hb0 a1 w1 (by rw [len_0]; exact reach0)).mono fun e W' ⟨he, bel⟩ => ?_
  subst he
  exact ⟨_, rfl, _, _, _, [], _, [], hW', trodAll_mk1 (shut_bool Try.underlying4 _), (trodAll_cons_mk (Below.trod laidOut (by kernel_rfl) (of_decide_eq_true (by kernel_rfl)) k0 bel lt0) (trodAll_cons_mk (shut_int Try.underlying3 w1) trodAll_mk0)), rfl, bel.frame _, fun h => by cases h⟩

theorem proved : Rows.FrameOneSaid :=
  OpenClaim.holds_of_wide 10 Try.f10 rfl rfl rfl rfl rfl rfl rfl ⟨rfl, rfl, rfl, rfl, rfl⟩ rfl rfl rfl rfl rfl (by kernel_rfl) Try.func10 (by kernel_rfl)
    (of_decide_eq_true (by kernel_rfl)) (by unfold Func.isWrapper; first | (rw [if_pos (by decide +kernel)]; kernel_rfl) | (rw [if_neg (by decide +kernel)]; exact ⟨rfl, rfl⟩))
    (fun os started H enc _ => lifted os started H enc)

end Go.Proofs.Yteemhdoegjdaiaa.frameOne
