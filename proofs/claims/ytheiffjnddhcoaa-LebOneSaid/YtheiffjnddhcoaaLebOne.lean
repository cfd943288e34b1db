/-
  LebOne: of every bytes, from every place on, where a number is read, the bytes that it was read of are those that are put of it. No condition.
-/
import Derived.Test.YtheiffjnddhcoaaFrame
import Derived.Test.YtheiffjnddhcoaaWorks
import Derived.Test.YtheiffjnddhcoaaMathC
import Derived.Test.YtheiffjnddhcoaaCut
import Derived.Deep.RegionHeld3
namespace Go.Proofs.Ytheiffjnddhcoaa.lebOne
open Go.ChangeShapes Go.WideShapes Go.ChangeAt Go.RowKit
open Go.ChangeMaps (open_string shut_string)
set_option linter.unusedVariables false

set_option maxHeartbeats 600000 in
set_option maxRecDepth 100000 in
theorem walk (w : World) (v0 : Value) (l0 : List Nat) (h0 : Bv w w.heap.size v0 l0) (a1 : Int) (w1 : (Lit.int .i64 a1).wf = true) :
    Calls Try.prog 9 #[v0, .int .i64 a1] w (IsBool true w) := by
  have HC := Lib.hid (get_any v0 l0 _ a1 w h0)
  have hl0 : ∀ x ∈ l0, x < 256 := by obtain ⟨_, _, _, _, _, _, h, _⟩ := h0; exact h
  rcases Mt.get_cases hl0 a1 with ⟨e, he2, he5, hr⟩ | ⟨k, n, r, rfl, hk, hb, hs, hle, hr⟩
  · have HR := Lib.hid hr
    have hq : (((e : Nat) : Int) != 0) = true := by rw [bne_iff_ne]; omega
    clear hr hl0 h0
    go_enter Try.func9, Try.ntmps9
    go_wp2_with fail
    ((with_reducible refine HC.out.mono ?_); rintro e' w2 ⟨he, hb2⟩)
    rw [HR.out] at he
    subst he
    have HB := Lib.hid hb2
    clear HC hb2
    have HW := Lib.hid (works_any w2)
    go_wp2_with fail
    ((with_reducible refine HW.out.mono ?_); rintro e w4 ⟨rfl, hb4⟩)
    go_wp2
    go_ret
    exact ⟨rfl, HB.out.trans (hb4.mono HB.out.size)⟩
  · have HN := Lib.hid hb
    have hlen := Mt.put_len_le n
    have hpos := Mt.put_len_pos n
    have ht : (l0.drop k).take (Mt.put n).length = Mt.put n := by rw [hs, List.take_left]
    obtain ⟨m, hm⟩ : ∃ m, (Mt.put n).length = m := ⟨_, rfl⟩
    rw [hm] at hr hle hlen hpos ht
    have HR := Lib.hid hr
    have HT := Lib.hid ht
    have hm0 : 0 < m := hpos
    obtain ⟨A, c, rfl, hc1, hc2, hc3, h4⟩ := id h0
    obtain ⟨b, off, rfl, _⟩ := h4.2 (by omega)
    have H0 := Lib.hid h0
    clear hr hl0 h0 hs hb h4 hc3 ht hm hpos
    unfold maxLen at hc2
    go_enter Try.func9, Try.ntmps9
    go_wp2_with fail
    ((with_reducible refine HC.out.mono ?_); rintro e' w2 ⟨he, hb2⟩)
    rw [HR.out] at he
    subst he
    have HB := Lib.hid hb2
    have H2 := Lib.hid (H0.out.below_ hb2 (Nat.le_refl _))
    clear HC hb2 H0
    have HX := Lib.hid (H2.out.cut_ hle)
    rw [HT.out] at HX
    have e1 : (k : Int) < (k : Int) + (m : Nat) := by omega
    have e2 : (k : Int) + (m : Nat) ≤ (l0.length : Nat) := by omega
    have e3 : (k : Int) + (m : Nat) ≤ (c : Nat) := by omega
    have e0 : (0 : Int) ≤ (k : Int) := by omega
    have d0 : decide ((0 : Int) ≤ (k : Int)) = true := by simp
    have d1 : decide ((k : Int) < (k : Int) + ((m : Nat) : Int)) = true := by simp; omega
    have d2 : decide ((k : Int) + ((m : Nat) : Int) ≤ ((l0.length : Nat) : Int)) = true := by simp; omega
    have e4 : (k : Int) ≤ (k : Int) + ((m : Nat) : Int) := by omega
    have e11 : (0 : Int) ≤ (k : Int) + ((m : Nat) : Int) := by omega
    have e5 : k + m ≤ c := by omega
    have e6 : ¬ c = k := by omega
    have e7 : ¬ c ≤ k := by omega
    have e8 : k < c := by omega
    have e9 : ¬ c - k = 0 := by omega
    have e10 : ((k : Int) + ((m : Nat) : Int)).toNat = k + m := by omega
    have HXd : Hid (Bv w2.drew w.heap.size _ (Mt.put n)) := HX.out
    have HBd := Lib.hid HB.out.drew
    clear HT H2 HR HX HB
    go_wp2_with fail
    go_region_held3 (fun _ => True) (trivial) (first
      | (go_at_call 16; refine (put_any n HN.out _).mono ?_; rintro e' w3 ⟨A3, c3, rfl, ho3, hb3⟩; have HB3 := Lib.hid (HBd.out.trans (hb3.mono HBd.out.size)); have HS := Lib.hid (same_bv _ _ _ _ _ _ w3 ho3.form_ (HXd.out.below_ hb3 HBd.out.size)); clear ho3 hb3)
      | (go_at_call 15; refine HS.out.mono ?_; rintro e' w4 ⟨he, hb4⟩; simp only [decide_true] at he; subst he; have HB4 := Lib.hid (HB3.out.trans (hb4.mono HB3.out.size)); have HW := Lib.hid (works_any w4); clear hb4)
      | (go_at_call 18; refine HW.out.mono ?_; rintro e' w5 ⟨rfl, hb5⟩; have HB5 := Lib.hid (HB4.out.trans (hb5.mono HB4.out.size)); clear hb5))
    go_wp2
    go_ret
    exact ⟨rfl, HB5.out⟩

/-! ### From the walk to the row -/
set_option maxRecDepth 100000 in
theorem lifted (os : Os) (started : os.Started) (H : Type) (enc : TypeId × Value → H) :
    ReturnsInHanded {} Try.checked os 9 .any (Rows.lebOneSpec.pre6 enc Try.prog Try.f9 Rows.lebOneRow.domain false) (Rows.lebOneSpec.post enc Try.prog Try.f9 false true false false) := by
  refine returnsInHanded_of_change (C := Try.checked) own started (by kernel_rfl) Try.func9
    (ChangeSpec.witness6 (enc := enc) (C := Try.checked) false ⟨#[], #[.slice none 0 0, .int .i64 0], []⟩ 8 (by kernel_rfl) (by kernel_rfl) (by kernel_rfl) (by kernel_rfl)) ?_
  intro W base args ds gs before hval0 hW hcnd _
  have hval : ∀ (j : Nat) t v, Try.f9.params[j]? = some t → args[j]? = some v → Value.okWide Try.prog W .any base t v := hval0
  have hW' := hW
  obtain ⟨p, q, hA0, hV, rfl, hfz, hnd⟩ := hW
  have hA : DataW.TrodAll enc Try.prog W 0 (fun _ => true) true Try.f9.params.toList args.toList ds p := hA0
  rw [Try.params9] at hA hval
  obtain ⟨v0, vs0, d0, ds0, p0, q0, hargs, rfl, rfl, h0, r0⟩ := trodAll_cons hA
  obtain ⟨v1, vs1, d1, ds1, p1, q1, rfl, rfl, rfl, h1, r1⟩ := trodAll_cons r0
  obtain ⟨rfl, rfl, rfl⟩ := trodAll_nil r1
  obtain rfl : args = #[v0, v1] := by cases args; simp_all
  obtain ⟨rfl, rfl⟩ := trodVars_none hV
  obtain ⟨a0, len0, cap0, rfl⟩ := okWide_slice Try.underlying23 (hval 0 23 v0 rfl rfl)
  have k0 := h0
  have lt0 : ∀ x ∈ p0, x.block < W.heap.size := by obtain ⟨m, hm⟩ := k0; exact DataW.trod_lt m _ _ _ hm
  obtain ⟨l0, len_0, hb0⟩ : ∃ l : List Nat, l.length = len0 ∧ Bv W W.heap.size (.slice a0 len0 cap0) l := by
    obtain ⟨fuel, hf⟩ := h0
    rcases open_ints Try.underlying23 Try.underlying5 (by kernel_rfl) hf with ⟨hcs, _⟩ | ⟨x, l, c, zs, hcs, _, hl, hm, hz, _, hcell, hwz⟩
    · simp [Value.cells] at hcs
      obtain ⟨rfl, rfl, rfl⟩ := hcs
      exact bytes_in (.inl ⟨rfl, rfl, rfl⟩)
    · simp [Value.cells] at hcs
      obtain ⟨rfl, rfl, rfl⟩ := hcs
      exact bytes_in (.inr ⟨x, zs, rfl, hl, hm, by simpa using hz, hcell, hwz⟩)
  obtain ⟨a1, rfl, rfl, rfl, w1⟩ := open_int Try.underlying3 (hval 1 3 v1 rfl rfl) h1
  clear hA0 hval0
  refine (walk W (.slice a0 len0 cap0) l0 hb0 a1 w1).mono fun e W' ⟨he, bel⟩ => ?_
  subst he
  exact ⟨_, rfl, _, _, _, [], _, [], hW', trodAll_mk1 (shut_bool Try.underlying4 _), (trodAll_cons_mk (Below.trod laidOut (by kernel_rfl) (of_decide_eq_true (by kernel_rfl)) k0 bel lt0) (trodAll_cons_mk (shut_int Try.underlying3 w1) trodAll_mk0)), rfl, bel.frame _, fun h => by cases h⟩

theorem proved : Rows.LebOneSaid :=
  OpenClaim.holds_of_wide 9 Try.f9 rfl rfl rfl rfl rfl rfl rfl ⟨rfl, rfl, rfl, rfl, rfl⟩ rfl rfl rfl rfl rfl (by kernel_rfl) Try.func9 (by kernel_rfl)
    (of_decide_eq_true (by kernel_rfl)) (by unfold Func.isWrapper; first | (rw [if_pos (by decide +kernel)]; kernel_rfl) | (rw [if_neg (by decide +kernel)]; exact ⟨rfl, rfl⟩))
    (fun os started H enc _ => lifted os started H enc)

end Go.Proofs.Ytheiffjnddhcoaa.lebOne
