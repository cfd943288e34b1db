/-
  LebRowsBack, the upto form: rows and lists that are put behind any bytes are got there. The condition: what comes in is of bulk at most 1048576.
-/
import Derived.Test.YtheiffjnddhcoaaFrameW
import Derived.Test.YtheiffjnddhcoaaWorks
import Derived.Test.YtheiffjnddhcoaaGetList
import Derived.Test.YtheiffjnddhcoaaGetRow
import Derived.Test.YtheiffjnddhcoaaMathG
import Derived.Test.YtheiffjnddhcoaaSameW
namespace Go.Proofs.Ytheiffjnddhcoaa.lebRowsBack
open Go.ChangeShapes Go.WideShapes Go.ChangeAt Go.RowKit
open Go.ChangeMaps (open_string shut_string)
set_option linter.unusedVariables false

set_option maxHeartbeats 2000000 in
set_option maxRecDepth 100000 in
theorem walk (w : World) (v0 : Value) (l0 : List Nat) (h0 : Bv w w.heap.size v0 l0) (v1 : Value) (l1 : List Nat) (h1 : Wv w w.heap.size v1 l1) (v2 : Value) (l2 : List Nat) (h2 : Bv w w.heap.size v2 l2)
    (hsz : l0.length + l1.length + l2.length ≤ 1048576) :
    Calls Try.prog 8 #[v0, v1, v2] w (IsBool true w) := by
  have hp0 : (putRow l0).length ≤ 1048600 := by have := Mt.put_len_le l0.length; rw [putRow_len]; omega
  have hp1 := putList_len l1
  have HR := Lib.hid (getRow_put l2 l0 (putList l1) (by unfold Mt.B64; omega))
  have hL := getList_put (l2 ++ putRow l0) l1 (by unfold Mt.B64; omega) h1.lt_
  rw [List.length_append, Int.natCast_add] at hL
  have HL := Lib.hid hL
  have H0 := Lib.hid h0
  have H1 := Lib.hid h1
  have H2 := Lib.hid h2
  obtain ⟨A0, c0, rfl, _, _, _, _⟩ := h0
  obtain ⟨A1, c1, rfl, _, _, _, _⟩ := h1
  obtain ⟨A2, c2, rfl, _, _, _, _⟩ := h2
  have hnil := Lib.hid (OwnB.nil_ w w.heap.size)
  clear hL
  go_enter Try.func8, Try.ntmps8
  go_wp2_with (at_builtin; go_must (refine wpList_append_bytes _ rfl _ _ rfl rfl w.heap.size _ rfl [] hnil.out _ rfl _ l2 H2.out (by simp; omega) (Nat.le_refl _) ?_; intro A3 c3 w1 hA1))
  have ho1 := hA1.own
  have hb1 := (Below.refl w.heap.size w).grown hA1.grown (Nat.le_refl _) (by intro k hk; cases hk)
  simp only [List.nil_append] at ho1
  have HO1 := Lib.hid ho1
  have HB1 := Lib.hid hb1
  have HP := Lib.hid (putRow_any _ l0 w.heap.size w1 HB1.out.size (H0.out.below_ hb1 (Nat.le_refl _)) (by omega))
  clear hA1 hnil ho1 hb1
  go_wp2_with fail
  ((with_reducible refine HP.out.mono ?_); rintro e w2 ⟨g2, rfl, ho2, hb2⟩)
  have HB2 := Lib.hid (HB1.out.trans (hb2.mono HB1.out.size))
  have HO2 := Lib.hid (HO1.out.below_ hb2 (Nat.le_refl _))
  have HF := Lib.hid ho2.form_
  have hz2 := HB2.out.size
  clear ho2 hb2 HO1 HB1 HP
  go_wp2_with (at_builtin; go_must (refine wpList_append_bytes _ rfl _ _ rfl rfl w.heap.size _ rfl l2 HO2.out _ rfl _ (putRow l0) HF.out (by omega) hz2 ?_; intro A5 c5 w3 hA3))
  have HB3 := Lib.hid (HB2.out.grown hA3.grown hz2 (fun k hk => (HO2.out.lt_ k hk).1))
  have hz3 := HB3.out.size
  have ho3 := hA3.own
  simp only [List.length_append] at ho3
  have HO3 := Lib.hid ho3
  have HP := Lib.hid (putList_any _ l1 w.heap.size w3 hz3 (H1.out.below_ HB3.out (Nat.le_refl _)) (by omega))
  clear hA3 ho3 HB2 HO2 HF hz2
  go_wp2_with fail
  ((with_reducible refine HP.out.mono ?_); rintro e w4 ⟨g4, rfl, ho4, hb4⟩)
  have HB4 := Lib.hid (HB3.out.trans (hb4.mono HB3.out.size))
  have HO4 := Lib.hid (HO3.out.below_ hb4 (Nat.le_refl _))
  have HF := Lib.hid ho4.form_
  have hz4 := HB4.out.size
  clear ho4 hb4 HO3 HB3 HP hz3
  go_wp2_with (at_builtin; go_must (refine wpList_append_bytes _ rfl _ _ rfl rfl w.heap.size _ rfl (l2 ++ putRow l0) HO4.out _ rfl _ (putList l1) HF.out (by rw [List.length_append]; omega) hz4 ?_; intro A6 c6 w5 hA5))
  have HB5 := Lib.hid (HB4.out.grown hA5.grown hz4 (fun k hk => (HO4.out.lt_ k hk).1))
  have hz5 := HB5.out.size
  have HF5 := Lib.hid hA5.own.form_
  have H0e := Lib.hid (H0.out.below_ HB5.out (Nat.le_refl _))
  have H1e := Lib.hid (H1.out.below_ HB5.out (Nat.le_refl _))
  clear hA5 HB4 HO4 HF hz4
  refine (getRow_any _ (l2 ++ putRow l0 ++ putList l1) w5.heap.size _ _ w5 (Nat.le_refl _) ?hb (by omega) (by simp; omega)).mono ?_
  case hb => simpa using HF5.out
  rintro e w6 ⟨A7, he, ho6, hb6⟩
  rw [HR.out] at he ho6
  subst he
  have HB6 := Lib.hid (HB5.out.trans (hb6.mono HB5.out.size))
  have HF6 := Lib.hid (HF5.out.below_ hb6 (Nat.le_refl _))
  have HX := Lib.hid ho6.form_
  have H0f := Lib.hid (H0e.out.below_ hb6 hz5)
  have H1f := Lib.hid (H1e.out.below_ hb6 hz5)
  have hz56 : w5.heap.size ≤ w6.heap.size := hb6.size
  have hz6 : w.heap.size ≤ w6.heap.size := HB6.out.size
  clear ho6 hb6 HB5 HF5 H0e H1e H0 H1 H2
  go_wp2_with fail
  refine (getList_any _ (l2 ++ putRow l0 ++ putList l1) w5.heap.size _ _ w6 hz56 ?hb (by omega) (by simp; omega)).mono ?_
  case hb => simpa using HF6.out
  rintro e w7 ⟨A8, c8, he, ho7, hb7⟩
  rw [HL.out] at he ho7
  subst he
  have HB7 := Lib.hid (HB6.out.trans (hb7.mono hz6))
  have HS := Lib.hid (same_bv _ _ _ _ _ _ w7 (HX.out.below_ hb7 (Nat.le_refl _)) (H0f.out.below_ hb7 hz6))
  have HY := Lib.hid ho7.form_
  have H1g := Lib.hid (H1f.out.below_ hb7 hz6)
  have hz7 : w.heap.size ≤ w7.heap.size := HB7.out.size
  clear ho7 hb7 HB6 HX H0f H1f HF6
  go_wp2_with fail
  ((with_reducible refine HS.out.mono ?_); rintro e' w8 ⟨he, hb8⟩)
  simp only [decide_true] at he
  subst he
  have HB8 := Lib.hid (HB7.out.trans (hb8.mono hz7))
  have HT := Lib.hid (words_wv _ _ _ _ _ _ w8 (HY.out.below_ hb8 (Nat.le_refl _)) (H1g.out.below_ hb8 hz7))
  clear HS hb8 HB7 HY H1g
  go_wp2_with fail
  ((with_reducible refine HT.out.mono ?_); rintro e' w9 ⟨he, hb9⟩)
  simp only [decide_true] at he
  subst he
  have HB9 := Lib.hid (HB8.out.trans (hb9.mono HB8.out.size))
  clear HT hb9 HB8
  have HW := Lib.hid (works_any w9)
  go_wp2_with fail
  ((with_reducible refine HW.out.mono ?_); rintro e w10 ⟨rfl, hb10⟩)
  go_wp2
  go_ret
  exact ⟨rfl, HB9.out.trans (hb10.mono HB9.out.size)⟩

/-! ### From the walk to the row -/
set_option maxRecDepth 100000 in
theorem lifted (os : Os) (started : os.Started) (H : Type) (enc : TypeId × Value → H) (F : Stop.Interp) :
    ReturnsInHanded {} Try.checked os 8 .any ((Rows.OpenSpec.upto Rows.lebRowsBackSpec).pre6 enc Try.prog Try.f8 Rows.lebRowsBackUptoRow.domain false) (((Rows.OpenSpec.upto Rows.lebRowsBackSpec).at F).post enc Try.prog Try.f8 false true false false) := by
  refine returnsInHanded_of_cond (C := Try.checked) (s := Rows.OpenSpec.upto Rows.lebRowsBackSpec) (k := Rows.uptoSmall) rfl own started (by kernel_rfl) Try.func8
    (OpenSpec.witness (enc := enc) (C := Try.checked) (s := Rows.OpenSpec.upto Rows.lebRowsBackSpec) (k := Rows.uptoSmall) rfl false ⟨#[], #[.slice none 0 0, .slice none 0 0, .slice none 0 0], []⟩ 8 (by kernel_rfl) (by kernel_rfl) (by kernel_rfl)
      (x := ([.nil, .nil, .nil], [], [])) (by kernel_rfl) rfl (by kernel_rfl)) ?_
  intro W base args ds gs before hval0 hW hcnd hsmall _
  have hval : ∀ (j : Nat) t v, Try.f8.params[j]? = some t → args[j]? = some v → Value.okWide Try.prog W .any base t v := hval0
  have hW' := hW
  obtain ⟨p, q, hA0, hV, rfl, hfz, hnd⟩ := hW
  have hA : DataW.TrodAll enc Try.prog W 0 (fun _ => true) true Try.f8.params.toList args.toList ds p := hA0
  rw [Try.params8] at hA hval
  obtain ⟨v0, vs0, d0, ds0, p0, q0, hargs, rfl, rfl, h0, r0⟩ := trodAll_cons hA
  obtain ⟨v1, vs1, d1, ds1, p1, q1, rfl, rfl, rfl, h1, r1⟩ := trodAll_cons r0
  obtain ⟨v2, vs2, d2, ds2, p2, q2, rfl, rfl, rfl, h2, r2⟩ := trodAll_cons r1
  obtain ⟨rfl, rfl, rfl⟩ := trodAll_nil r2
  obtain rfl : args = #[v0, v1, v2] := by cases args; simp_all
  obtain ⟨rfl, rfl⟩ := trodVars_none hV
  obtain ⟨a0, len0, cap0, rfl⟩ := okWide_slice Try.underlying23 (hval 0 23 v0 rfl rfl)
  have k0 := h0
  have lt0 : ∀ x ∈ p0, x.block < W.heap.size := by obtain ⟨m, hm⟩ := k0; exact DataW.trod_lt m _ _ _ hm
  have bulk0 : len0 ≤ Rows.uptoBulk d0 := by
    obtain ⟨fuel, hf⟩ := h0
    rcases open_ints Try.underlying23 Try.underlying5 (by kernel_rfl) hf with ⟨hcs, _⟩ | ⟨x, l, c, zs, hcs, _, hl, hm, hz, hx, hcell, hwz⟩
    · simp [Value.cells] at hcs
      omega
    · simp [Value.cells] at hcs
      obtain ⟨rfl, rfl, rfl⟩ := hcs
      rw [Prod.mk.injEq] at hx
      rw [hx.1]
      exact bulk_ints _ _ _ (by rw [hz]; simp; omega)
  obtain ⟨l0, len_0, hb0⟩ : ∃ l : List Nat, l.length = len0 ∧ Bv W W.heap.size (.slice a0 len0 cap0) l := by
    obtain ⟨fuel, hf⟩ := h0
    rcases open_ints Try.underlying23 Try.underlying5 (by kernel_rfl) hf with ⟨hcs, _⟩ | ⟨x, l, c, zs, hcs, _, hl, hm, hz, _, hcell, hwz⟩
    · simp [Value.cells] at hcs
      obtain ⟨rfl, rfl, rfl⟩ := hcs
      exact bytes_in (.inl ⟨rfl, rfl, rfl⟩)
    · simp [Value.cells] at hcs
      obtain ⟨rfl, rfl, rfl⟩ := hcs
      exact bytes_in (.inr ⟨x, zs, rfl, hl, hm, by simpa using hz, hcell, hwz⟩)
  obtain ⟨a1, len1, cap1, rfl⟩ := okWide_slice Try.underlying37 (hval 1 37 v1 rfl rfl)
  have k1 := h1
  have lt1 : ∀ x ∈ p1, x.block < W.heap.size := by obtain ⟨m, hm⟩ := k1; exact DataW.trod_lt m _ _ _ hm
  have bulk1 : len1 ≤ Rows.uptoBulk d1 := by
    obtain ⟨fuel, hf⟩ := h1
    rcases open_ints Try.underlying37 Try.underlying22 (by kernel_rfl) hf with ⟨hcs, _⟩ | ⟨x, l, c, zs, hcs, _, hl, hm, hz, hx, hcell, hwz⟩
    · simp [Value.cells] at hcs
      omega
    · simp [Value.cells] at hcs
      obtain ⟨rfl, rfl, rfl⟩ := hcs
      rw [Prod.mk.injEq] at hx
      rw [hx.1]
      exact bulk_ints _ _ _ (by rw [hz]; simp; omega)
  obtain ⟨l1, len_1, hb1⟩ : ∃ l : List Nat, l.length = len1 ∧ Wv W W.heap.size (.slice a1 len1 cap1) l := by
    obtain ⟨fuel, hf⟩ := h1
    rcases open_ints Try.underlying37 Try.underlying22 (by kernel_rfl) hf with ⟨hcs, _⟩ | ⟨x, l, c, zs, hcs, _, hl, hm, hz, _, hcell, hwz⟩
    · simp [Value.cells] at hcs
      obtain ⟨rfl, rfl, rfl⟩ := hcs
      exact words_in (.inl ⟨rfl, rfl, rfl⟩)
    · simp [Value.cells] at hcs
      obtain ⟨rfl, rfl, rfl⟩ := hcs
      exact words_in (.inr ⟨x, zs, rfl, hl, hm, by simpa using hz, hcell, hwz⟩)
  obtain ⟨a2, len2, cap2, rfl⟩ := okWide_slice Try.underlying23 (hval 2 23 v2 rfl rfl)
  have k2 := h2
  have lt2 : ∀ x ∈ p2, x.block < W.heap.size := by obtain ⟨m, hm⟩ := k2; exact DataW.trod_lt m _ _ _ hm
  have bulk2 : len2 ≤ Rows.uptoBulk d2 := by
    obtain ⟨fuel, hf⟩ := h2
    rcases open_ints Try.underlying23 Try.underlying5 (by kernel_rfl) hf with ⟨hcs, _⟩ | ⟨x, l, c, zs, hcs, _, hl, hm, hz, hx, hcell, hwz⟩
    · simp [Value.cells] at hcs
      omega
    · simp [Value.cells] at hcs
      obtain ⟨rfl, rfl, rfl⟩ := hcs
      rw [Prod.mk.injEq] at hx
      rw [hx.1]
      exact bulk_ints _ _ _ (by rw [hz]; simp; omega)
  obtain ⟨l2, len_2, hb2⟩ : ∃ l : List Nat, l.length = len2 ∧ Bv W W.heap.size (.slice a2 len2 cap2) l := by
    obtain ⟨fuel, hf⟩ := h2
    rcases open_ints Try.underlying23 Try.underlying5 (by kernel_rfl) hf with ⟨hcs, _⟩ | ⟨x, l, c, zs, hcs, _, hl, hm, hz, _, hcell, hwz⟩
    · simp [Value.cells] at hcs
      obtain ⟨rfl, rfl, rfl⟩ := hcs
      exact bytes_in (.inl ⟨rfl, rfl, rfl⟩)
    · simp [Value.cells] at hcs
      obtain ⟨rfl, rfl, rfl⟩ := hcs
      exact bytes_in (.inr ⟨x, zs, rfl, hl, hm, by simpa using hz, hcell, hwz⟩)
  clear hA0 hval0
  have hsum := bulk_all hsmall
  simp only [List.append_nil, Rows.uptoBulkAll] at hsum
  have hsum2 : l0.length + l1.length + l2.length ≤ 1048576 := by omega
  refine (walk W (.slice a0 len0 cap0) l0 hb0 (.slice a1 len1 cap1) l1 hb1 (.slice a2 len2 cap2) l2 hb2 hsum2).mono fun e W' ⟨he, bel⟩ => ?_
  subst he
  exact ⟨_, rfl, _, _, _, [], _, [], hW', trodAll_mk1 (shut_bool Try.underlying4 _), (trodAll_cons_mk (Below.trod laidOut (by kernel_rfl) (of_decide_eq_true (by kernel_rfl)) k0 bel lt0) (trodAll_cons_mk (Below.trod laidOut (by kernel_rfl) (of_decide_eq_true (by kernel_rfl)) k1 bel lt1) (trodAll_cons_mk (Below.trod laidOut (by kernel_rfl) (of_decide_eq_true (by kernel_rfl)) k2 bel lt2) trodAll_mk0))), rfl, bel.frame _, fun h => by cases h⟩

theorem proved : Rows.LebRowsBackUptoSaid :=
  OpenClaim.holds_of_cond 8 Try.f8 rfl rfl rfl rfl rfl rfl rfl ⟨rfl, rfl, rfl, rfl, rfl⟩ rfl rfl rfl rfl rfl (by kernel_rfl) Try.func8 (by kernel_rfl)
    (of_decide_eq_true (by kernel_rfl)) (by unfold Func.isWrapper; first | (rw [if_pos (by decide +kernel)]; kernel_rfl) | (rw [if_neg (by decide +kernel)]; exact ⟨rfl, rfl⟩))
    (fun os started H enc _ F => lifted os started H enc F)

end Go.Proofs.Ytheiffjnddhcoaa.lebRowsBack
