/-
  FrameAhead, the upto form: what a scan tells of bytes it tells, ahead of others, of these with more behind them. The condition: what comes in is of bulk at most 1048576.
-/
import Derived.Test.YteemhdoegjdaiaaFrame
import Derived.Test.YteemhdoegjdaiaaBulk
import Derived.Test.YteemhdoegjdaiaaFWorks
import Derived.Test.YteemhdoegjdaiaaFRows
namespace Go.Proofs.Yteemhdoegjdaiaa.frameAhead
open Go.ChangeShapes Go.WideShapes Go.ChangeAt Go.RowKit
open Go.ChangeMaps (open_string shut_string)
set_option linter.unusedVariables false

theorem slice_rows (A : Option Addr) (n c m : Nat) (h : m ≤ c) (w : World) :
    (Instr.slice 32 (.slice A n c) none (some (.int .i64 (m : Nat))) none).run Try.prog w = .ok (.slice A m c) w := by
  have h1 : (sizeOf (Try.prog.elem 32)).run Try.prog w = .ok 1 w := by
    obtain ⟨i, hi, _, hs, _⟩ := info_parts info22
    have he : Try.prog.elem 32 = 22 := by kernel_rfl
    rw [he]
    simp [sizeOf, typeInfo, hi, hs]
  rw [run_slice_h (P := Try.prog) w 32 A n c Try.underlying32 .i64 (m : Nat) (by omega) (by omega), h1]
  simp only [Result.andThen, sliced, Int.toNat_natCast, Nat.zero_mul, Nat.sub_zero]
  have e : A.map (·.add 0) = A := by cases A <;> simp [addr_zero]
  simp [addr_zero]
theorem sliceAt_rows (A : Option Addr) (n c m : Nat) (h : m ≤ c) (w : World) :
    (Instr.sliceAt 32 (.slice A n c) none (some (.int .i64 (m : Nat))) none).run Try.prog w = .ok (.slice A m c) w := by
  rw [run_sliceAt_slice (P := Try.prog) w _ _ _ _ _ Try.underlying32]
  exact slice_rows A n c m h w

set_option maxHeartbeats 2000000 in
set_option maxRecDepth 100000 in
theorem walk (w : World) (v0 : Value) (l0 : List Nat) (h0 : Bv w w.heap.size v0 l0) (v1 : Value) (l1 : List Nat) (h1 : Bv w w.heap.size v1 l1) (hsz : l0.length + l1.length ≤ 1048576) :
    Calls Try.prog 8 #[v0, v1] w (IsBool true w) := by
  have H0 := Lib.hid h0
  have HM := Lib.hid h1
  have H1 := Lib.hid (scan_any v0 l0 _ w (Nat.le_refl _) h0 (by omega))
  obtain ⟨r, hr1, hr2⟩ := Fr.scan_more l0.length (m := l1) 0 h0.lt_ h1.lt_ (by omega) (by omega) (l0 ++ l1).length (by omega)
  have hs1 : Fr.scan l0 = ((Fr.scanF l0.length l0 0).1, (Fr.scanF l0.length l0 0).2.1, (Fr.scanF l0.length l0 0).2.2) := rfl
  have hs2 : Fr.scan (l0 ++ l1) = ((Fr.scanF (l0 ++ l1).length (l0 ++ l1) 0).1, (Fr.scanF (l0 ++ l1).length (l0 ++ l1) 0).2.1, (Fr.scanF (l0 ++ l1).length (l0 ++ l1) 0).2.2) := rfl
  obtain ⟨ls, hls⟩ : ∃ x, (Fr.scanF l0.length l0 0).1 = x := ⟨_, rfl⟩
  obtain ⟨k, hk⟩ : ∃ x, (Fr.scanF l0.length l0 0).2.1 = x := ⟨_, rfl⟩
  obtain ⟨k2, hk2⟩ : ∃ x, (Fr.scanF (l0 ++ l1).length (l0 ++ l1) 0).2.1 = x := ⟨_, rfl⟩
  rw [hls] at hr1 hs1
  rw [hk] at hr2 hs1
  rw [hr1, hk2] at hs2
  rw [hk2] at hr2
  rw [hs1] at H1
  obtain ⟨M, hMe⟩ : ∃ M, l0 ++ l1 = M := ⟨_, rfl⟩
  have hMl : M.length ≤ 1048576 := by rw [← hMe, List.length_append]; exact hsz
  rw [hMe] at hs2
  obtain ⟨L, hLe⟩ : ∃ L, ls ++ r = L := ⟨_, rfl⟩
  have hLt : L.take ls.length = ls := by rw [← hLe, List.take_left]
  have hLl : ls.length ≤ L.length := by rw [← hLe, List.length_append]; omega
  rw [hLe] at hs2
  have HS2 := Lib.hid hs2
  have HMe := Lib.hid hMe
  have HLt := Lib.hid hLt
  have i1 : ((ls.length : Nat) : Int) ≤ (L.length : Nat) := by omega
  have i2 : (k : Int) ≤ (k2 : Nat) := by omega
  obtain ⟨A0, c0, rfl, _, _, _, _⟩ := h0
  obtain ⟨A1, c1, rfl, _, _, _, _⟩ := h1
  have hnil := Lib.hid (OwnB.nil_ w w.heap.size)
  clear hs1 hs2 hls hk hk2 hr1 hr2 hMe hLe hLt
  go_enter Try.func8, Try.ntmps8
  go_wp2_with fail
  ((with_reducible refine H1.out.mono ?_); rintro e' w1 ⟨A2, c2, rfl, ho1, hb1⟩)
  have HB1 := Lib.hid hb1
  have HR1 := Lib.hid ho1.form_
  have HN1 := Lib.hid (OwnB.nil_ w1 w1.heap.size)
  have HX0 := Lib.hid (H0.out.below_ hb1 (Nat.le_refl _))
  clear ho1 hb1 H1 hnil
  go_wp2_with (first
    | (at_builtin
       refine wpList_append_bytes _ rfl _ _ rfl rfl w1.heap.size _ rfl [] HN1.out _ rfl _ l0 HX0.out (by simp; omega) (Nat.le_refl _) ?_
       intro A3 c3 w2 hA2
       have ho2 := hA2.own
       have hb2 := (Below.refl w1.heap.size w1).grown hA2.grown (Nat.le_refl _) (by intro k hk; cases hk)
       simp only [List.nil_append] at ho2
       have HO2 := Lib.hid ho2
       have HB2 := Lib.hid (HB1.out.trans (hb2.mono HB1.out.size))
       have HX1 := Lib.hid (HM.out.below_ HB2.out (Nat.le_refl _))
       have HR2 := Lib.hid (HR1.out.below_ hb2 (Nat.le_refl _))
       have hz2 : w1.heap.size ≤ w2.heap.size := hb2.size
       clear hA2 ho2 hb2 HN1 HX0 HR1)
    | (at_builtin
       refine wpList_append_bytes _ rfl _ _ rfl rfl w1.heap.size _ rfl l0 HO2.out _ rfl _ l1 HX1.out (by omega) hz2 ?_
       intro A4 c4 w3 hA3
       have ho3 := hA3.own
       have hb3 := (Below.refl w1.heap.size w2).grown hA3.grown hz2 (fun k hk => (HO2.out.lt_ k hk).1)
       rw [HMe.out] at ho3
       rw [HMe.out]))
  have HB3 := Lib.hid (HB2.out.trans (hb3.mono HB1.out.size))
  have HR3 := Lib.hid (HR2.out.below_ hb3 (Nat.le_refl _))
  have H3 := scan_any _ M _ w3 (Nat.le_refl _) ho3.form_ (by omega)
  rw [HS2.out] at H3
  have H3 := Lib.hid H3
  have hz3 : w1.heap.size ≤ w3.heap.size := Nat.le_trans hz2 hb3.size
  clear hA3 ho3 hb3 HX1 HO2 HR2 HB1 HB2
  go_wp2_with fail
  ((with_reducible refine H3.out.mono ?_); rintro e' w4 ⟨A5, c5, rfl, ho4, hb4⟩)
  have HB4 := Lib.hid (HB3.out.trans (hb4.mono HB3.out.size))
  have HR4 := HR3.out.below_ hb4 hz3
  have hz4 : w1.heap.size ≤ w4.heap.size := Nat.le_trans hz3 hb4.size
  have hfo := ho4.form_
  have hc5 : L.length ≤ c5 := by
    obtain ⟨_, _, e, h, _⟩ := hfo
    injection e with _ _ e
    omega
  have ht := hfo.take_ (k := ls.length) hLl
  rw [HLt.out] at ht
  have H5 := rows_any _ _ _ _ _ _ w4 HR4 ht hz4 (Nat.le_refl _)
  have H5 := Lib.hid H5
  have j1 := fun w => slice_rows A5 L.length c5 ls.length (by omega) w
  have j2 := fun w => sliceAt_rows A5 L.length c5 ls.length (by omega) w
  clear HB3 HR3 hb4 ho4 hfo ht HR4 H3
  go_wp2_with fail
  ((with_reducible refine H5.out.mono ?_); rintro e' w5 ⟨he, hb5⟩)
  simp only [decide_true] at he
  subst he
  have HB5 := Lib.hid (HB4.out.trans (hb5.mono HB4.out.size))
  have HW := Lib.hid (works_any w5)
  clear hb5 H5 HB4
  go_wp2_with fail
  ((with_reducible refine HW.out.mono ?_); rintro e w6 ⟨rfl, hb6⟩)
  go_wp2
  go_ret
  exact ⟨rfl, HB5.out.trans (hb6.mono HB5.out.size)⟩

/-! ### From the walk to the row -/
set_option maxRecDepth 100000 in
theorem lifted (os : Os) (started : os.Started) (H : Type) (enc : TypeId × Value → H) (F : Stop.Interp) :
    ReturnsInHanded {} Try.checked os 8 .any ((Rows.OpenSpec.upto Rows.frameAheadSpec).pre6 enc Try.prog Try.f8 Rows.frameAheadUptoRow.domain false) (((Rows.OpenSpec.upto Rows.frameAheadSpec).at F).post enc Try.prog Try.f8 false true false false) := by
  refine returnsInHanded_of_cond (C := Try.checked) (s := Rows.OpenSpec.upto Rows.frameAheadSpec) (k := Rows.uptoSmall) rfl own started (by kernel_rfl) Try.func8
    (OpenSpec.witness (enc := enc) (C := Try.checked) (s := Rows.OpenSpec.upto Rows.frameAheadSpec) (k := Rows.uptoSmall) rfl false ⟨#[], #[.slice none 0 0, .slice none 0 0], []⟩ 8 (by kernel_rfl) (by kernel_rfl) (by kernel_rfl)
      (x := ([.nil, .nil], [], [])) (by kernel_rfl) rfl (by kernel_rfl)) ?_
  intro W base args ds gs before hval0 hW hcnd hsmall _
  have hval : ∀ (j : Nat) t v, Try.f8.params[j]? = some t → args[j]? = some v → Value.okWide Try.prog W .any base t v := hval0
  have hW' := hW
  obtain ⟨p, q, hA0, hV, rfl, hfz, hnd⟩ := hW
  have hA : DataW.TrodAll enc Try.prog W 0 (fun _ => true) true Try.f8.params.toList args.toList ds p := hA0
  rw [Try.params8] at hA hval
  obtain ⟨v0, vs0, d0, ds0, p0, q0, hargs, rfl, rfl, h0, r0⟩ := trodAll_cons hA
  obtain ⟨v1, vs1, d1, ds1, p1, q1, rfl, rfl, rfl, h1, r1⟩ := trodAll_cons r0
  obtain ⟨rfl, rfl, rfl⟩ := trodAll_nil r1
  obtain rfl : args = #[v0, v1] := by cases args; simp_all
  obtain ⟨rfl, rfl⟩ := trodVars_none hV
  obtain ⟨a0, len0, cap0, rfl⟩ := okWide_slice Try.underlying22 (hval 0 22 v0 rfl rfl)
  have k0 := h0
  have lt0 : ∀ x ∈ p0, x.block < W.heap.size := by obtain ⟨m, hm⟩ := k0; exact DataW.trod_lt m _ _ _ hm
  have bulk0 : len0 ≤ Rows.uptoBulk d0 := by
    obtain ⟨fuel, hf⟩ := h0
    rcases open_ints Try.underlying22 Try.underlying5 (by kernel_rfl) hf with ⟨hcs, _⟩ | ⟨x, l, c, zs, hcs, _, hl, hm, hz, hx, hcell, hwz⟩
    · simp [Value.cells] at hcs
      omega
    · simp [Value.cells] at hcs
      obtain ⟨rfl, rfl, rfl⟩ := hcs
      rw [Prod.mk.injEq] at hx
      rw [hx.1]
      exact bulk_ints _ _ _ (by rw [hz]; simp; omega)
  obtain ⟨l0, len_0, hb0⟩ : ∃ l : List Nat, l.length = len0 ∧ Bv W W.heap.size (.slice a0 len0 cap0) l := by
    obtain ⟨fuel, hf⟩ := h0
    rcases open_ints Try.underlying22 Try.underlying5 (by kernel_rfl) hf with ⟨hcs, _⟩ | ⟨x, l, c, zs, hcs, _, hl, hm, hz, _, hcell, hwz⟩
    · simp [Value.cells] at hcs
      obtain ⟨rfl, rfl, rfl⟩ := hcs
      exact bytes_in (.inl ⟨rfl, rfl, rfl⟩)
    · simp [Value.cells] at hcs
      obtain ⟨rfl, rfl, rfl⟩ := hcs
      exact bytes_in (.inr ⟨x, zs, rfl, hl, hm, by simpa using hz, hcell, hwz⟩)
  obtain ⟨a1, len1, cap1, rfl⟩ := okWide_slice Try.underlying22 (hval 1 22 v1 rfl rfl)
  have k1 := h1
  have lt1 : ∀ x ∈ p1, x.block < W.heap.size := by obtain ⟨m, hm⟩ := k1; exact DataW.trod_lt m _ _ _ hm
  have bulk1 : len1 ≤ Rows.uptoBulk d1 := by
    obtain ⟨fuel, hf⟩ := h1
    rcases open_ints Try.underlying22 Try.underlying5 (by kernel_rfl) hf with ⟨hcs, _⟩ | ⟨x, l, c, zs, hcs, _, hl, hm, hz, hx, hcell, hwz⟩
    · simp [Value.cells] at hcs
      omega
    · simp [Value.cells] at hcs
      obtain ⟨rfl, rfl, rfl⟩ := hcs
      rw [Prod.mk.injEq] at hx
      rw [hx.1]
      exact bulk_ints _ _ _ (by rw [hz]; simp; omega)
  obtain ⟨l1, len_1, hb1⟩ : ∃ l : List Nat, l.length = len1 ∧ Bv W W.heap.size (.slice a1 len1 cap1) l := by
    obtain ⟨fuel, hf⟩ := h1
    rcases open_ints Try.underlying22 Try.underlying5 (by kernel_rfl) hf with ⟨hcs, _⟩ | ⟨x, l, c, zs, hcs, _, hl, hm, hz, _, hcell, hwz⟩
    · simp [Value.cells] at hcs
      obtain ⟨rfl, rfl, rfl⟩ := hcs
      exact bytes_in (.inl ⟨rfl, rfl, rfl⟩)
    · simp [Value.cells] at hcs
      obtain ⟨rfl, rfl, rfl⟩ := hcs
      exact bytes_in (.inr ⟨x, zs, rfl, hl, hm, by simpa using hz, hcell, hwz⟩)
  clear hA0 hval0
  have hsum := bulk_all hsmall
  simp only [List.append_nil, Rows.uptoBulkAll] at hsum
  have hsum2 : l0.length + l1.length ≤ 1048576 := by omega
  refine (walk W (.slice a0 len0 cap0) l0 hb0 (.slice a1 len1 cap1) l1 hb1 hsum2).mono fun e W' ⟨he, bel⟩ => ?_
  subst he
  exact ⟨_, rfl, _, _, _, [], _, [], hW', trodAll_mk1 (shut_bool Try.underlying4 _), (trodAll_cons_mk (Below.trod laidOut (by kernel_rfl) (of_decide_eq_true (by kernel_rfl)) k0 bel lt0) (trodAll_cons_mk (Below.trod laidOut (by kernel_rfl) (of_decide_eq_true (by kernel_rfl)) k1 bel lt1) trodAll_mk0)), rfl, bel.frame _, fun h => by cases h⟩

theorem proved : Rows.FrameAheadUptoSaid :=
  OpenClaim.holds_of_cond 8 Try.f8 rfl rfl rfl rfl rfl rfl rfl ⟨rfl, rfl, rfl, rfl, rfl⟩ rfl rfl rfl rfl rfl (by kernel_rfl) Try.func8 (by kernel_rfl)
    (of_decide_eq_true (by kernel_rfl)) (by unfold Func.isWrapper; first | (rw [if_pos (by decide +kernel)]; kernel_rfl) | (rw [if_neg (by decide +kernel)]; exact ⟨rfl, rfl⟩))
    (fun os started H enc _ F => lifted os started H enc F)

end Go.Proofs.Yteemhdoegjdaiaa.frameAhead
