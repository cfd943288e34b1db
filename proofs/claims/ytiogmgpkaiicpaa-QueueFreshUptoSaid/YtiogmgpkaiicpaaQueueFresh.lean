/-
  QueueFresh: what is handed in stays; what is answered is new memory. Bound: the argument's numbers, all told, are at most 1048576.
-/
import Derived.Test.YtiogmgpkaiicpaaFrameI
import Derived.Test.YtiogmgpkaiicpaaBulkL
import Derived.Test.YtiogmgpkaiicpaaQuLaw
import Derived.Test.YtiogmgpkaiicpaaRQu
import Derived.Test.YtiogmgpkaiicpaaCopyI
import Derived.Test.YtiogmgpkaiicpaaSpoilI
namespace Go.Proofs.Ytiogmgpkaiicpaa.queueFresh
open Go.ChangeShapes Go.WideShapes Go.ChangeAt Go.RowKit
open Go.ChangeMaps (open_string shut_string)
set_option linter.unusedVariables false

set_option maxHeartbeats 400000 in
set_option maxRecDepth 100000 in
theorem walk (w : World) (v0 : Value) (l0 : List Int) (h0 : Lv iK w w.heap.size v0 l0) (hk : l0.length ≤ 1048576) :
    Calls Try.prog 8 #[v0] w (IsBool true w) := by
  have HK := Lib.hid hk
  clear hk
  have Fa_0 := Lib.hid (h0)
  clear h0
  have HB0 := Lib.hid (Below.refl w.heap.size w)
  go_enter Try.func8, Try.ntmps8
  have C1 := Lib.hid (copyInts_any _ l0 _ w Fa_0.out (by have := HK.out; omega))
  go_wp2_with (fail)
  refine (C1.out).mono ?_
  rintro e w1 ⟨A1, c1, rfl, o1, b1⟩
  have HB1 := Lib.hid (HB0.out.trans (b1.mono HB0.out.size))
  have Fa_1 := Lib.hid ((Fa_0.out.below_ b1 (Nat.le_refl _)).mono_ b1.size)
  have Fq_1 := Lib.hid (o1.form_)
  clear C1 b1 HB0 Fa_0 o1
  have HA1 := Lib.hid Fa_1.out
  have HB1a := Lib.hid HB1.out
  have HQ := Lib.hid Fq_1.out
  have hc := psorted_int _ _ 31 #[] Qu.ltI _ w1 (Nat.le_refl _) Fq_1.out (by have := HK.out; omega) Qu.ltI_order (less_fresh _ _)
  change Calls Try.prog _ #[_, .func (.func 31) #[] #[]] _ _ at hc
  obtain ⟨r, hr⟩ : ∃ r, Qu.sorted Qu.ltI l0 = r := ⟨_, rfl⟩
  have HR := Lib.hid hr
  have HX := Lib.hid hc
  clear hc hr
  clear Fq_1
  have C2 := Lib.hid (HX.out)
  rw [HR.out] at C2
  go_wp2_with (fail)
  refine (C2.out).mono ?_
  rintro e w2 ⟨A2, c2, rfl, o2, b2⟩
  have HB2 := Lib.hid (HB1.out.trans (b2.mono HB1.out.size))
  have Fa_2 := Lib.hid ((Fa_1.out.below_ b2 (Nat.le_refl _)).mono_ b2.size)
  have Fs_2 := Lib.hid (o2.form_)
  have Os_2 := Lib.hid o2
  have HM2 := Lib.hid b2
  clear C2 b2 HB1 Fa_1 o2
  clear HX
  have C3 := Lib.hid (spoilInts_any _ _ _ w2 Os_2.out)
  go_wp2_with (fail)
  refine (C3.out).mono ?_
  rintro e w3 ⟨⟨xx, rfl⟩, g3⟩
  have b3 : Below w1.heap.size w1 w3 := HM2.out.grown g3 HM2.out.size (fun k hk => (Os_2.out.lt_ k hk).1)
  have fq := HQ.out.below_ b3 (Nat.le_refl _)
  have fa := HA1.out.below_ b3 (Nat.le_refl _)
  have HB3 := Lib.hid (HB1a.out.trans (b3.mono HB1a.out.size))
  have C4 := Lib.hid (ints_lv _ _ _ _ _ _ w3 fq fa)
  simp only [decide_true] at C4
  clear C3 g3 b3 fq fa
  go_wp2_with (fail)
  refine (C4.out).mono ?_
  rintro e w4 ⟨rfl, b4⟩
  have HB4 := Lib.hid (HB3.out.trans (b4.mono HB3.out.size))
  have C5 := Lib.hid (works_any w4)
  clear C4 b4
  go_wp2_with (fail)
  refine (C5.out).mono ?_
  rintro e w5 ⟨rfl, b5⟩
  have HB5 := Lib.hid (HB4.out.trans (b5.mono HB4.out.size))
  clear C5 b5
  go_wp2
  go_ret
  exact ⟨rfl, HB5.out⟩

/-! ### From the walk to the row -/
set_option maxRecDepth 100000 in
theorem lifted (os : Os) (started : os.Started) (H : Type) (enc : TypeId × Value → H) (F : Stop.Interp) :
    ReturnsInHanded {} Try.checked os 8 .any ((Rows.OpenSpec.upto Rows.queueFreshSpec).pre6 enc Try.prog Try.f8 Rows.queueFreshUptoRow.domain false) (((Rows.OpenSpec.upto Rows.queueFreshSpec).at F).post enc Try.prog Try.f8 false true false false) := by
  refine returnsInHanded_of_cond (C := Try.checked) (s := Rows.OpenSpec.upto Rows.queueFreshSpec) (k := Rows.uptoSmall) rfl own started (by kernel_rfl) Try.func8
    (OpenSpec.witness (enc := enc) (C := Try.checked) (s := Rows.OpenSpec.upto Rows.queueFreshSpec) (k := Rows.uptoSmall) rfl false ⟨#[], #[.slice none 0 0], []⟩ 8 (by kernel_rfl) (by kernel_rfl) (by kernel_rfl)
      (x := ([.nil], [], [])) (by kernel_rfl) rfl (by kernel_rfl)) ?_
  intro W base args ds gs before hval0 hW hcnd hsmall _
  have hval : ∀ (j : Nat) t v, Try.f8.params[j]? = some t → args[j]? = some v → Value.okWide Try.prog W .any base t v := hval0
  have hW' := hW
  obtain ⟨p, q, hA0, hV, rfl, hfz, hnd⟩ := hW
  have hA : DataW.TrodAll enc Try.prog W 0 (fun _ => true) true Try.f8.params.toList args.toList ds p := hA0
  rw [Try.params8] at hA hval
  obtain ⟨v0, vs0, d0, ds0, p0, q0, hargs, rfl, rfl, h0, r0⟩ := trodAll_cons hA
  obtain ⟨rfl, rfl, rfl⟩ := trodAll_nil r0
  obtain rfl : args = #[v0] := by cases args; simp_all
  obtain ⟨rfl, rfl⟩ := trodVars_none hV
  obtain ⟨a0, len0, cap0, rfl⟩ := okWide_slice Try.underlying27 (hval 0 27 v0 rfl rfl)
  have k0 := h0
  have lt0 : ∀ x ∈ p0, x.block < W.heap.size := by obtain ⟨m, hm⟩ := k0; exact DataW.trod_lt m _ _ _ hm
  have bulk0 : len0 ≤ Rows.uptoBulk d0 := by
    obtain ⟨fuel, hf⟩ := h0
    exact bulk_slice Try.underlying27 hf
  obtain ⟨l0, len_0, hb0⟩ : ∃ l : List Int, l.length = len0 ∧ Lv iK W W.heap.size (.slice a0 len0 cap0) l := by
    obtain ⟨fuel, hf⟩ := h0
    rcases open_ints Try.underlying27 Try.underlying3 (by kernel_rfl) hf with ⟨hcs, _⟩ | ⟨x, l, c, zs, hcs, _, hl, hm, hz, _, hcell, hwz⟩
    · simp [Value.cells] at hcs
      obtain ⟨rfl, rfl, rfl⟩ := hcs
      exact ints_in (.inl ⟨rfl, rfl, rfl⟩)
    · simp [Value.cells] at hcs
      obtain ⟨rfl, rfl, rfl⟩ := hcs
      exact ints_in (.inr ⟨x, zs, rfl, hl, hm, by simpa using hz, hcell, hwz⟩)
  clear hA0 hval0
  have hsum := bulk_whole hsmall
  simp only [List.append_nil, Rows.uptoBulkAll] at hsum
  have hsum2 : l0.length ≤ 1048576 := by omega
  refine (walk W (.slice a0 len0 cap0) l0 hb0 hsum2).mono fun e W' ⟨he, bel⟩ => ?_
  subst he
  exact ⟨_, rfl, _, _, _, [], _, [], hW', trodAll_mk1 (shut_bool Try.underlying4 _), (trodAll_cons_mk (Below.trod laidOut (by kernel_rfl) (of_decide_eq_true (by kernel_rfl)) k0 bel lt0) trodAll_mk0), rfl, bel.frame _, fun h => by cases h⟩

theorem proved : Rows.QueueFreshUptoSaid :=
  OpenClaim.holds_of_cond 8 Try.f8 rfl rfl rfl rfl rfl rfl rfl ⟨rfl, rfl, rfl, rfl, rfl⟩ rfl rfl rfl rfl rfl (by kernel_rfl) Try.func8 (by kernel_rfl)
    (of_decide_eq_true (by kernel_rfl)) (by unfold Func.isWrapper; first | (rw [if_pos (by decide +kernel)]; kernel_rfl) | (rw [if_neg (by decide +kernel)]; exact ⟨rfl, rfl⟩))
    (fun os started H enc _ F => lifted os started H enc F)

end Go.Proofs.Ytiogmgpkaiicpaa.queueFresh
