/-
  QueueSorts: a list is sorted as the document says. Bound: the arguments' numbers, all told, are at most 1048576.
-/
import Derived.Test.YtiogmgpkaiicpaaFrameI
import Derived.Test.YtiogmgpkaiicpaaBulkL
import Derived.Test.YtiogmgpkaiicpaaQuLaw
import Derived.Test.YtiogmgpkaiicpaaRQu
namespace Go.Proofs.Ytiogmgpkaiicpaa.queueSorts
open Go.ChangeShapes Go.WideShapes Go.ChangeAt Go.RowKit
open Go.ChangeMaps (open_string shut_string)
set_option linter.unusedVariables false

set_option maxHeartbeats 400000 in
set_option maxRecDepth 100000 in
theorem walk (w : World) (a0 : Int) (w0 : (Lit.int .i64 a0).wf = true) (v1 : Value) (l1 : List Int) (h1 : Lv iK w w.heap.size v1 l1) (hk : l1.length ≤ 1048576) :
    Calls Try.prog 4 #[.int .i64 a0, v1] w (IsBool true w) := by
  have hi := i64_wf w0
  have HI := Lib.hid hi
  have hcell : (w.alloc (.cells #[.int .i64 a0] 3)).cell? ⟨w.heap.size, 0, none⟩ = some (.int .i64 a0) := by rw [cell_of_row _ _ 0 _ _ _ (heap_alloc_new w _)]; rfl
  obtain ⟨g, hg⟩ : ∃ g, w.heap.size = g := ⟨_, rfl⟩
  obtain ⟨W0, hW0⟩ : ∃ W, w.alloc (.cells #[.int .i64 a0] 3) = W := ⟨_, rfl⟩
  have hgW : W0.heap.size = g + 1 := by rw [← hW0, ← hg]; simp
  rw [hg, hW0] at hcell
  have HCELL := Lib.hid hcell
  have HGW := Lib.hid hgW
  have HGE := Lib.hid hg
  clear hcell hgW hi
  have HK := Lib.hid hk
  clear hk w0
  have Fa_0 := Lib.hid (h1)
  clear h1
  have b0 := (Below.refl w.heap.size w).alloc (Nat.le_refl _) (.cells #[.int .i64 a0] 3)
  rw [hW0] at b0
  have HB0 := Lib.hid (Below.refl w.heap.size w)
  have b1 := b0
  have HB1 := Lib.hid (HB0.out.trans (b1.mono HB0.out.size))
  have Fa_1 := Lib.hid ((Fa_0.out.below_ b1 (Nat.le_refl _)).mono_ b1.size)
  clear b1 HB0 Fa_0
  clear b0
  have hs := less_sorts W0 (fun k => W0.heap.size ≤ k) g a0 HI.out HCELL.out (by have := HGW.out; omega)
  have hc := psorted_int _ _ 20 #[.pointer (some ⟨g, 0, none⟩)] (Qu.ltR a0) _ W0 (Nat.le_refl _) Fa_1.out (by have := HK.out; omega) (Qu.ltR_order a0) hs
  change Calls Try.prog _ #[_, .func (.func 20) #[] #[.pointer (some ⟨g, 0, none⟩)]] _ _ at hc
  obtain ⟨r, hr⟩ : ∃ r, Qu.sorted (Qu.ltR a0) l1 = r := ⟨_, rfl⟩
  have HR := Lib.hid hr
  have HX := Lib.hid hc
  clear hs hc hr
  go_enter Try.func4, Try.ntmps4
  have C2 := Lib.hid (HX.out)
  rw [HR.out] at C2
  go_wp2_with (fail)
  refine (C2.out).mono ?_
  rintro e w2 ⟨A2, c2, rfl, o2, b2⟩
  have HB2 := Lib.hid (HB1.out.trans (b2.mono HB1.out.size))
  have Fa_2 := Lib.hid ((Fa_1.out.below_ b2 (Nat.le_refl _)).mono_ b2.size)
  have Fs_2 := Lib.hid (o2.form_)
  have hcw : w2.cell? ⟨g, 0, none⟩ = some (.int .i64 a0) := (b2.cell (p := ⟨g, 0, none⟩) (by have := HGW.out; show g < _; omega)).trans HCELL.out
  clear C2 b2 HB1 Fa_1 o2
  clear HX
  have C3 := Lib.hid (rsorted_any _ l1 a0 _ w2 (Nat.le_refl _) Fa_2.out HI.out (by have := HK.out; omega))
  rw [HR.out] at C3
  go_wp2_with (fail)
  refine (C3.out).mono ?_
  rintro e w3 ⟨A3, c3, rfl, o3, b3⟩
  have HB3 := Lib.hid (HB2.out.trans (b3.mono HB2.out.size))
  have Fa_3 := Lib.hid ((Fa_2.out.below_ b3 (Nat.le_refl _)).mono_ b3.size)
  have Fs_3 := Lib.hid ((Fs_2.out.below_ b3 (Nat.le_refl _)).mono_ b3.size)
  have Ft_3 := Lib.hid (o3.form_)
  clear C3 b3 HB2 Fa_2 Fs_2 o3
  have C4 := Lib.hid (ints_lv _ _ _ _ _ _ w3 Fs_3.out Ft_3.out)
  simp only [decide_true] at C4
  go_wp2_with (fail)
  refine (C4.out).mono ?_
  rintro e w4 ⟨rfl, b4⟩
  have HB4 := Lib.hid (HB3.out.trans (b4.mono HB3.out.size))
  have Fa_4 := Lib.hid ((Fa_3.out.below_ b4 (Nat.le_refl _)).mono_ b4.size)
  have Fs_4 := Lib.hid ((Fs_3.out.below_ b4 (Nat.le_refl _)).mono_ b4.size)
  have Ft_4 := Lib.hid ((Ft_3.out.below_ b4 (Nat.le_refl _)).mono_ b4.size)
  clear C4 b4 HB3 Fa_3 Fs_3 Ft_3
  clear Fa_4
  clear Fs_4
  clear Ft_4
  have C5 := Lib.hid (works_any w4)
  go_wp2_with (fail)
  refine (C5.out).mono ?_
  rintro e w5 ⟨rfl, b5⟩
  have HB5 := Lib.hid (HB4.out.trans (b5.mono HB4.out.size))
  clear C5 b5 HB4
  go_wp2
  go_ret
  exact ⟨rfl, HB5.out⟩

/-! ### From the walk to the row -/
set_option maxRecDepth 100000 in
theorem lifted (os : Os) (started : os.Started) (H : Type) (enc : TypeId × Value → H) (F : Stop.Interp) :
    ReturnsInHanded {} Try.checked os 4 .any ((Rows.OpenSpec.upto Rows.queueSortsSpec).pre6 enc Try.prog Try.f4 Rows.queueSortsUptoRow.domain false) (((Rows.OpenSpec.upto Rows.queueSortsSpec).at F).post enc Try.prog Try.f4 false true false false) := by
  refine returnsInHanded_of_cond (C := Try.checked) (s := Rows.OpenSpec.upto Rows.queueSortsSpec) (k := Rows.uptoSmall) rfl own started (by kernel_rfl) Try.func4
    (OpenSpec.witness (enc := enc) (C := Try.checked) (s := Rows.OpenSpec.upto Rows.queueSortsSpec) (k := Rows.uptoSmall) rfl false ⟨#[], #[.int .i64 0, .slice none 0 0], []⟩ 8 (by kernel_rfl) (by kernel_rfl) (by kernel_rfl)
      (x := ([.lit (.int .i64 0), .nil], [], [])) (by kernel_rfl) rfl (by kernel_rfl)) ?_
  intro W base args ds gs before hval0 hW hcnd hsmall _
  have hval : ∀ (j : Nat) t v, Try.f4.params[j]? = some t → args[j]? = some v → Value.okWide Try.prog W .any base t v := hval0
  have hW' := hW
  obtain ⟨p, q, hA0, hV, rfl, hfz, hnd⟩ := hW
  have hA : DataW.TrodAll enc Try.prog W 0 (fun _ => true) true Try.f4.params.toList args.toList ds p := hA0
  rw [Try.params4] at hA hval
  obtain ⟨v0, vs0, d0, ds0, p0, q0, hargs, rfl, rfl, h0, r0⟩ := trodAll_cons hA
  obtain ⟨v1, vs1, d1, ds1, p1, q1, rfl, rfl, rfl, h1, r1⟩ := trodAll_cons r0
  obtain ⟨rfl, rfl, rfl⟩ := trodAll_nil r1
  obtain rfl : args = #[v0, v1] := by cases args; simp_all
  obtain ⟨rfl, rfl⟩ := trodVars_none hV
  obtain ⟨a0, rfl, rfl, rfl, w0⟩ := open_int Try.underlying3 (hval 0 3 v0 rfl rfl) h0
  obtain ⟨a1, len1, cap1, rfl⟩ := okWide_slice Try.underlying27 (hval 1 27 v1 rfl rfl)
  have k1 := h1
  have lt1 : ∀ x ∈ p1, x.block < W.heap.size := by obtain ⟨m, hm⟩ := k1; exact DataW.trod_lt m _ _ _ hm
  have bulk1 : len1 ≤ Rows.uptoBulk d1 := by
    obtain ⟨fuel, hf⟩ := h1
    exact bulk_slice Try.underlying27 hf
  obtain ⟨l1, len_1, hb1⟩ : ∃ l : List Int, l.length = len1 ∧ Lv iK W W.heap.size (.slice a1 len1 cap1) l := by
    obtain ⟨fuel, hf⟩ := h1
    rcases open_ints Try.underlying27 Try.underlying3 (by kernel_rfl) hf with ⟨hcs, _⟩ | ⟨x, l, c, zs, hcs, _, hl, hm, hz, _, hcell, hwz⟩
    · simp [Value.cells] at hcs
      obtain ⟨rfl, rfl, rfl⟩ := hcs
      exact ints_in (.inl ⟨rfl, rfl, rfl⟩)
    · simp [Value.cells] at hcs
      obtain ⟨rfl, rfl, rfl⟩ := hcs
      exact ints_in (.inr ⟨x, zs, rfl, hl, hm, by simpa using hz, hcell, hwz⟩)
  clear hA0 hval0
  have hsum := bulk_whole hsmall
  simp only [List.append_nil, Rows.uptoBulkAll] at hsum
  have hsum2 : l1.length ≤ 1048576 := by omega
  refine (walk W a0 w0 (.slice a1 len1 cap1) l1 hb1 hsum2).mono fun e W' ⟨he, bel⟩ => ?_
  subst he
  exact ⟨_, rfl, _, _, _, [], _, [], hW', trodAll_mk1 (shut_bool Try.underlying4 _), (trodAll_cons_mk (shut_int Try.underlying3 w0) (trodAll_cons_mk (Below.trod laidOut (by kernel_rfl) (of_decide_eq_true (by kernel_rfl)) k1 bel lt1) trodAll_mk0)), rfl, bel.frame _, fun h => by cases h⟩

theorem proved : Rows.QueueSortsUptoSaid :=
  OpenClaim.holds_of_cond 4 Try.f4 rfl rfl rfl rfl rfl rfl rfl ⟨rfl, rfl, rfl, rfl, rfl⟩ rfl rfl rfl rfl rfl (by kernel_rfl) Try.func4 (by kernel_rfl)
    (of_decide_eq_true (by kernel_rfl)) (by unfold Func.isWrapper; first | (rw [if_pos (by decide +kernel)]; kernel_rfl) | (rw [if_neg (by decide +kernel)]; exact ⟨rfl, rfl⟩))
    (fun os started H enc _ F => lifted os started H enc F)

end Go.Proofs.Ytiogmgpkaiicpaa.queueSorts
