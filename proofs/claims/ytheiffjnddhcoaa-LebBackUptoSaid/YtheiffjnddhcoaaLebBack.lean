/-
  LebBack, the upto form: for every number and every bytes ahead of it and behind it, what is put is got there, with the place behind it. The condition: what comes in is of bulk at most 1048576.
-/
import Derived.Test.YtheiffjnddhcoaaBulk
import Derived.Test.YtheiffjnddhcoaaWorks
import Derived.Test.YtheiffjnddhcoaaMathB
namespace Go.Proofs.Ytheiffjnddhcoaa.lebBack
open Go.ChangeShapes Go.WideShapes Go.ChangeAt Go.RowKit
open Go.ChangeMaps (open_string shut_string)
set_option linter.unusedVariables false

set_option maxHeartbeats 2000000 in
set_option maxRecDepth 100000 in
theorem walk (w : World) (n0 : Nat) (b0 : Mt.B64 n0) (v1 : Value) (l1 : List Nat) (h1 : Bv w w.heap.size v1 l1) (v2 : Value) (l2 : List Nat) (h2 : Bv w w.heap.size v2 l2) (hsz : l1.length + l2.length ≤ 1048576) :
    Calls Try.prog 7 #[.int .u64 n0, v1, v2] w (IsBool true w) := by
  have hlen := Mt.put_len_le n0
  have HB0 := Lib.hid b0
  have HG := Lib.hid (Mt.get_put b0 l1 l2)
  clear b0
  have H1 := Lib.hid h1
  have H2 := Lib.hid h2
  obtain ⟨A1, c1, rfl, _, _, _, _⟩ := h1
  obtain ⟨A2, c2, rfl, _, _, _, _⟩ := h2
  have hnil := Lib.hid (OwnB.nil_ w w.heap.size)
  go_enter Try.func7, Try.ntmps7
  go_wp2_with (at_builtin; go_must (refine wpList_append_bytes _ rfl _ _ rfl rfl w.heap.size _ rfl [] hnil.out _ rfl _ l1 H1.out (by simp; omega) (Nat.le_refl _) ?_; intro A3 c3 w1 hA1))
  have ho1 := hA1.own
  have hb1 := (Below.refl w.heap.size w).grown hA1.grown (Nat.le_refl _) (by intro k hk; cases hk)
  simp only [List.nil_append] at ho1
  have HO1 := Lib.hid ho1
  have HB1 := Lib.hid hb1
  clear hA1 hnil ho1 hb1
  go_wp2_with fail
  ((with_reducible refine (put_any n0 HB0.out _).mono ?_); rintro e w2 ⟨A4, c4, rfl, ho2, hb2⟩)
  have HB2 := Lib.hid (HB1.out.trans (hb2.mono HB1.out.size))
  have HO2 := Lib.hid (HO1.out.below_ hb2 (Nat.le_refl _))
  have HP := Lib.hid ho2.form_
  have hz2 := HB2.out.size
  clear ho2 hb2 HO1 HB1
  go_wp2_with (first | (at_builtin; refine wpList_append_bytes (o := ⟨some 19, _, _, _, _, _⟩) _ rfl _ _ rfl rfl w.heap.size _ rfl l1 HO2.out _ rfl _ (Mt.put n0) HP.out (by omega) hz2 ?_; intro A5 c5 w3 hA3; have ho3 := hA3.own; have HB3 := Lib.hid (HB2.out.grown hA3.grown hz2 (fun k hk => (HO2.out.lt_ k hk).1)); have hz3 := HB3.out.size; have H23 := Lib.hid (H2.out.below_ HB3.out (Nat.le_refl _)); simp only [List.length_append] at ho3; have HO3 := Lib.hid ho3; clear hA3 ho3) | (at_builtin; refine wpList_append_bytes (o := ⟨some 22, _, _, _, _, _⟩) _ rfl _ _ rfl rfl w.heap.size _ rfl (l1 ++ Mt.put n0) HO3.out _ rfl _ l2 H23.out (by simp; omega) hz3 ?_; intro A6 c6 w4 hA4))
  have HB4 := Lib.hid (HB3.out.grown hA4.grown hz3 (fun k hk => (HO3.out.lt_ k hk).1))
  have HF := Lib.hid hA4.own.form_
  clear hA4 HB3 HO3 H23 HB2 HO2 HP hz3 hz2
  refine (get_any _ (l1 ++ Mt.put n0 ++ l2) w4.heap.size _ _ ?hb).mono ?_
  case hb => simpa using HF.out
  rintro e w5 ⟨he, hb5⟩
  rw [HG.out] at he
  subst he
  have HB5 := Lib.hid (HB4.out.trans (hb5.mono HB4.out.size))
  clear HF HB4 hb5
  go_wp2_with (go_at_call 17; refine (len_any _ HB0.out _).mono ?_; rintro e w' ⟨rfl, rfl⟩)
  have HW := Lib.hid (works_any w5)
  go_wp2_with fail
  ((with_reducible refine HW.out.mono ?_); rintro e w6 ⟨rfl, hb6⟩)
  go_wp2
  go_ret
  exact ⟨rfl, HB5.out.trans (hb6.mono HB5.out.size)⟩

/-! ### From the walk to the row -/
set_option maxRecDepth 100000 in
theorem lifted (os : Os) (started : os.Started) (H : Type) (enc : TypeId × Value → H) (F : Stop.Interp) :
    ReturnsInHanded {} Try.checked os 7 .any ((Rows.OpenSpec.upto Rows.lebBackSpec).pre6 enc Try.prog Try.f7 Rows.lebBackUptoRow.domain false) (((Rows.OpenSpec.upto Rows.lebBackSpec).at F).post enc Try.prog Try.f7 false true false false) := by
  refine returnsInHanded_of_cond (C := Try.checked) (s := Rows.OpenSpec.upto Rows.lebBackSpec) (k := Rows.uptoSmall) rfl own started (by kernel_rfl) Try.func7
    (OpenSpec.witness (enc := enc) (C := Try.checked) (s := Rows.OpenSpec.upto Rows.lebBackSpec) (k := Rows.uptoSmall) rfl false ⟨#[], #[.int .u64 0, .slice none 0 0, .slice none 0 0], []⟩ 8 (by kernel_rfl) (by kernel_rfl) (by kernel_rfl)
      (x := ([.lit (.int .u64 0), .nil, .nil], [], [])) (by kernel_rfl) rfl (by kernel_rfl)) ?_
  intro W base args ds gs before hval0 hW hcnd hsmall _
  have hval : ∀ (j : Nat) t v, Try.f7.params[j]? = some t → args[j]? = some v → Value.okWide Try.prog W .any base t v := hval0
  have hW' := hW
  obtain ⟨p, q, hA0, hV, rfl, hfz, hnd⟩ := hW
  have hA : DataW.TrodAll enc Try.prog W 0 (fun _ => true) true Try.f7.params.toList args.toList ds p := hA0
  rw [Try.params7] at hA hval
  obtain ⟨v0, vs0, d0, ds0, p0, q0, hargs, rfl, rfl, h0, r0⟩ := trodAll_cons hA
  obtain ⟨v1, vs1, d1, ds1, p1, q1, rfl, rfl, rfl, h1, r1⟩ := trodAll_cons r0
  obtain ⟨v2, vs2, d2, ds2, p2, q2, rfl, rfl, rfl, h2, r2⟩ := trodAll_cons r1
  obtain ⟨rfl, rfl, rfl⟩ := trodAll_nil r2
  obtain rfl : args = #[v0, v1, v2] := by cases args; simp_all
  obtain ⟨rfl, rfl⟩ := trodVars_none hV
  obtain ⟨a0, rfl, rfl, rfl, w0⟩ := open_int Try.underlying22 (hval 0 22 v0 rfl rfl) h0
  obtain ⟨n0, e0, b0⟩ := u64_nat w0
  subst e0
  obtain ⟨a1, len1, cap1, rfl⟩ := okWide_slice Try.underlying23 (hval 1 23 v1 rfl rfl)
  have k1 := h1
  have lt1 : ∀ x ∈ p1, x.block < W.heap.size := by obtain ⟨m, hm⟩ := k1; exact DataW.trod_lt m _ _ _ hm
  have bulk1 : len1 ≤ Rows.uptoBulk d1 := by
    obtain ⟨fuel, hf⟩ := h1
    rcases open_ints Try.underlying23 Try.underlying5 (by kernel_rfl) hf with ⟨hcs, _⟩ | ⟨x, l, c, zs, hcs, _, hl, hm, hz, hx, hcell, hwz⟩
    · simp [Value.cells] at hcs
      omega
    · simp [Value.cells] at hcs
      obtain ⟨rfl, rfl, rfl⟩ := hcs
      rw [Prod.mk.injEq] at hx
      rw [hx.1]
      exact bulk_ints _ _ _ (by rw [hz]; simp; omega)
  obtain ⟨l1, len_1, hb1⟩ : ∃ l : List Nat, l.length = len1 ∧ Bv W W.heap.size (.slice a1 len1 cap1) l := by
    obtain ⟨fuel, hf⟩ := h1
    rcases open_ints Try.underlying23 Try.underlying5 (by kernel_rfl) hf with ⟨hcs, _⟩ | ⟨x, l, c, zs, hcs, _, hl, hm, hz, _, hcell, hwz⟩
    · simp [Value.cells] at hcs
      obtain ⟨rfl, rfl, rfl⟩ := hcs
      exact bytes_in (.inl ⟨rfl, rfl, rfl⟩)
    · simp [Value.cells] at hcs
      obtain ⟨rfl, rfl, rfl⟩ := hcs
      exact bytes_in (.inr ⟨x, zs, rfl, hl, hm, by simpa using hz, hcell, hwz⟩)
  obtain ⟨a2, len2, cap2, rfl⟩ := okWide_slice Try.underlying23 (hval 2 23 v2 rfl rfl)
  have k2 := h2
  have lt2 : ∀ x ∈ p2, x.block < W.heap.size := by obtain ⟨m, hm⟩ := k2; exact DataW.trod_lt m _ _ _ hm
  have bulk2 : len2 ≤ Rows.uptoBulk d2 := by
    obtain ⟨fuel, hf⟩ := h2
    rcases open_ints Try.underlying23 Try.underlying5 (by kernel_rfl) hf with ⟨hcs, _⟩ | ⟨x, l, c, zs, hcs, _, hl, hm, hz, hx, hcell, hwz⟩
    · simp [Value.cells] at hcs
      omega
    · simp [Value.cells] at hcs
      obtain ⟨rfl, rfl, rfl⟩ := hcs
      rw [Prod.mk.injEq] at hx
      rw [hx.1]
      exact bulk_ints _ _ _ (by rw [hz]; simp; omega)
  obtain ⟨l2, len_2, hb2⟩ : ∃ l : List Nat, l.length = len2 ∧ Bv W W.heap.size (.slice a2 len2 cap2) l := by
    obtain ⟨fuel, hf⟩ := h2
    rcases open_ints Try.underlying23 Try.underlying5 (by kernel_rfl) hf with ⟨hcs, _⟩ | ⟨x, l, c, zs, hcs, _, hl, hm, hz, _, hcell, hwz⟩
    · simp [Value.cells] at hcs
      obtain ⟨rfl, rfl, rfl⟩ := hcs
      exact bytes_in (.inl ⟨rfl, rfl, rfl⟩)
    · simp [Value.cells] at hcs
      obtain ⟨rfl, rfl, rfl⟩ := hcs
      exact bytes_in (.inr ⟨x, zs, rfl, hl, hm, by simpa using hz, hcell, hwz⟩)
  clear hA0 hval0
  have hsum := bulk_all hsmall
  simp only [List.append_nil, Rows.uptoBulkAll] at hsum
  have hsum2 : l1.length + l2.length ≤ 1048576 := by omega
  refine (walk W n0 b0 (.slice a1 len1 cap1) l1 hb1 (.slice a2 len2 cap2) l2 hb2 hsum2).mono fun e W' ⟨he, bel⟩ => ?_
  subst he
  exact ⟨_, rfl, _, _, _, [], _, [], hW', trodAll_mk1 (shut_bool Try.underlying4 _), (trodAll_cons_mk (shut_int Try.underlying22 w0) (trodAll_cons_mk (Below.trod laidOut (by kernel_rfl) (of_decide_eq_true (by kernel_rfl)) k1 bel lt1) (trodAll_cons_mk (Below.trod laidOut (by kernel_rfl) (of_decide_eq_true (by kernel_rfl)) k2 bel lt2) trodAll_mk0))), rfl, bel.frame _, fun h => by cases h⟩

theorem proved : Rows.LebBackUptoSaid :=
  OpenClaim.holds_of_cond 7 Try.f7 rfl rfl rfl rfl rfl rfl rfl ⟨rfl, rfl, rfl, rfl, rfl⟩ rfl rfl rfl rfl rfl (by kernel_rfl) Try.func7 (by kernel_rfl)
    (of_decide_eq_true (by kernel_rfl)) (by unfold Func.isWrapper; first | (rw [if_pos (by decide +kernel)]; kernel_rfl) | (rw [if_neg (by decide +kernel)]; exact ⟨rfl, rfl⟩))
    (fun os started H enc _ F => lifted os started H enc F)

end Go.Proofs.Ytheiffjnddhcoaa.lebBack
