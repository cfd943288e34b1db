/-
  QueueTexts: texts go out in their order, as numbers do. Bound: the argument's texts, all told, are at most 1048576.
-/
import Derived.Test.YtiogmgpkaiicpaaFrameI
import Derived.Test.YtiogmgpkaiicpaaBulkL
import Derived.Test.YtiogmgpkaiicpaaQuLaw
import Derived.Test.YtiogmgpkaiicpaaRQu
import Derived.Test.YtiogmgpkaiicpaaKStr
import Derived.Test.YtiogmgpkaiicpaaQuProS
namespace Go.Proofs.Ytiogmgpkaiicpaa.queueTexts
open Go.ChangeShapes Go.WideShapes Go.ChangeAt Go.RowKit
open Go.ChangeMaps (open_string shut_string)
set_option linter.unusedVariables false

set_option maxHeartbeats 1000000 in
set_option maxRecDepth 100000 in
theorem walk (w : World) (v0 : Value) (l0 : List ByteArray) (h0 : Lv sK w w.heap.size v0 l0) (hk : l0.length ≤ 1048576) :
    Calls Try.prog 6 #[v0] w (IsBool true w) := by
  have HK := Lib.hid hk
  have k0 := h0
  obtain ⟨A, c, rfl, hc1, hc2, _⟩ := h0
  have hl0 : l0.length ≤ 9223372036854775807 := by omega
  clear hc1 hc2 hk
  have Fa_0 := Lib.hid (k0)
  have hc := psorted_str _ _ 29 #[] Qu.ltS _ w (Nat.le_refl _) k0 (by have := HK.out; omega) Qu.ltS_order (less_texts _ _)
  change Calls Try.prog _ #[_, .func (.func 29) #[] #[]] _ _ at hc
  have hrow := Qu.sorted_row Qu.ltS_order l0
  have hlen := Qu.sorted_len (lt := Qu.ltS) l0
  obtain ⟨r, hr⟩ : ∃ r, Qu.sorted Qu.ltS l0 = r := ⟨_, rfl⟩
  rw [hr] at hrow hlen
  have HR := Lib.hid hr
  have HX := Lib.hid hc
  have HROW := Lib.hid hrow
  have hq : ((r.length : Int) != (l0.length : Int)) = false := by rw [hlen]; simp
  have HL := Lib.hid hlen
  clear hc hr hrow hlen k0
  have HB0 := Lib.hid (Below.refl w.heap.size w)
  go_enter Try.func6, Try.ntmps6
  have C1 := Lib.hid (HX.out)
  rw [HR.out] at C1
  go_wp2_with (fail)
  refine (C1.out).mono ?_
  rintro e w1 ⟨A1, c1, rfl, o1, b1⟩
  have HB1 := Lib.hid (HB0.out.trans (b1.mono HB0.out.size))
  have Fa_1 := Lib.hid ((Fa_0.out.below_ b1 (Nat.le_refl _)).mono_ b1.size)
  have Fs_1 := Lib.hid (o1.form_)
  clear C1 b1 HB0 Fa_0 o1
  clear HX
  clear Fa_1
  have hrl : r.length ≤ 9223372036854775807 := by have := HL.out; omega
  go_wp2
  go_loopw [4] (fun i wr => ∃ k : Nat, 1 ≤ k ∧ (k ≤ r.length ∨ k = 1) ∧ i = .int .i64 k ∧ Below w1.heap.size w1 wr) (fun i _ => r.length - (intOf i).toNat)
  case atStart => exact ⟨1, by omega, .inr rfl, rfl, Below.refl _ _⟩
  case round =>
    obtain ⟨k, hk1, hk, rfl, hbr⟩ := hrel
    by_cases hlt : k < r.length
    · obtain ⟨j, rfl⟩ : ∃ j, k = j + 1 := ⟨k - 1, by omega⟩
      have fs := Fs_1.out.below_ hbr (Nat.le_refl _)
      obtain ⟨b1, o1, x, rfl, -, -, hx, hc1⟩ := fs.str_ (k := j) (by omega)
      obtain ⟨b2, o2, y, e2, -, -, hy, hc2⟩ := fs.str_ (k := j + 1) hlt
      injection e2 with e2
      injection e2 with e2 e3
      subst e2 e3
      obtain ⟨hj1, hjx⟩ := List.getElem?_eq_some_iff.1 hx
      obtain ⟨hj2, hjy⟩ := List.getElem?_eq_some_iff.1 hy
      have hrow := List.pairwise_iff_getElem.1 HROW.out j (j + 1) hj1 hj2 (by omega)
      rw [hjx, hjy] at hrow
      have hgt := Qu.gtS_row hrow
      have hji : (j : Int) + 1 < (r.length : Int) := by omega
      have hj0 : (j : Int) < (r.length : Int) := by omega
      have HJ : Hid (j + 1 < r.length) := hlt
      clear fs hx hy hj1 hj2 hjx hjy hrow hk hk1
      go_wp2
      go_quiet (fail)
      go_wp2
      have hJ := HJ.out
      exact ⟨⟨j + 1 + 1, by omega, .inl (by omega), by go_num, below_drewN hbr _⟩, by simp [intOf]; omega⟩
    · have HBr := Lib.hid hbr
      clear hbr
      have b2 := HBr.out
      have HB2 := Lib.hid (HB1.out.trans (b2.mono HB1.out.size))
      have Fs_2 := Lib.hid ((Fs_1.out.below_ b2 (Nat.le_refl _)).mono_ b2.size)
      clear b2 HB1 Fs_1
      clear Fs_2
      have C3 := Lib.hid (works_any wr)
      go_wp2_with (fail)
      refine (C3.out).mono ?_
      rintro e w3 ⟨rfl, b3⟩
      have HB3 := Lib.hid (HB2.out.trans (b3.mono HB2.out.size))
      clear C3 b3 HB2
      go_wp2
      go_ret
      exact ⟨rfl, HB3.out⟩

/-! ### From the walk to the row -/
set_option maxRecDepth 100000 in
theorem lifted (os : Os) (started : os.Started) (H : Type) (enc : TypeId × Value → H) (F : Stop.Interp) :
    ReturnsInHanded {} Try.checked os 6 .any ((Rows.OpenSpec.upto Rows.queueTextsSpec).pre6 enc Try.prog Try.f6 Rows.queueTextsUptoRow.domain false) (((Rows.OpenSpec.upto Rows.queueTextsSpec).at F).post enc Try.prog Try.f6 false true false false) := by
  refine returnsInHanded_of_cond (C := Try.checked) (s := Rows.OpenSpec.upto Rows.queueTextsSpec) (k := Rows.uptoSmall) rfl own started (by kernel_rfl) Try.func6
    (OpenSpec.witness (enc := enc) (C := Try.checked) (s := Rows.OpenSpec.upto Rows.queueTextsSpec) (k := Rows.uptoSmall) rfl false ⟨#[], #[.slice none 0 0], []⟩ 8 (by kernel_rfl) (by kernel_rfl) (by kernel_rfl)
      (x := ([.nil], [], [])) (by kernel_rfl) rfl (by kernel_rfl)) ?_
  intro W base args ds gs before hval0 hW hcnd hsmall _
  have hval : ∀ (j : Nat) t v, Try.f6.params[j]? = some t → args[j]? = some v → Value.okWide Try.prog W .any base t v := hval0
  have hW' := hW
  obtain ⟨p, q, hA0, hV, rfl, hfz, hnd⟩ := hW
  have hA : DataW.TrodAll enc Try.prog W 0 (fun _ => true) true Try.f6.params.toList args.toList ds p := hA0
  rw [Try.params6] at hA hval
  obtain ⟨v0, vs0, d0, ds0, p0, q0, hargs, rfl, rfl, h0, r0⟩ := trodAll_cons hA
  obtain ⟨rfl, rfl, rfl⟩ := trodAll_nil r0
  obtain rfl : args = #[v0] := by cases args; simp_all
  obtain ⟨rfl, rfl⟩ := trodVars_none hV
  obtain ⟨a0, len0, cap0, rfl⟩ := okWide_slice Try.underlying52 (hval 0 52 v0 rfl rfl)
  have k0 := h0
  have lt0 : ∀ x ∈ p0, x.block < W.heap.size := by obtain ⟨m, hm⟩ := k0; exact DataW.trod_lt m _ _ _ hm
  have bulk0 : len0 ≤ Rows.uptoBulk d0 := by
    obtain ⟨fuel, hf⟩ := h0
    exact bulk_slice Try.underlying52 hf
  obtain ⟨l0, len_0, hb0⟩ : ∃ l : List ByteArray, l.length = len0 ∧ Lv sK W W.heap.size (.slice a0 len0 cap0) l := by
    obtain ⟨fuel, hf⟩ := h0
    exact strs_in hf
  clear hA0 hval0
  have hsum := bulk_whole hsmall
  simp only [List.append_nil, Rows.uptoBulkAll] at hsum
  have hsum2 : l0.length ≤ 1048576 := by omega
  refine (walk W (.slice a0 len0 cap0) l0 hb0 hsum2).mono fun e W' ⟨he, bel⟩ => ?_
  subst he
  exact ⟨_, rfl, _, _, _, [], _, [], hW', trodAll_mk1 (shut_bool Try.underlying4 _), (trodAll_cons_mk (Below.trod laidOut (by kernel_rfl) (of_decide_eq_true (by kernel_rfl)) k0 bel lt0) trodAll_mk0), rfl, bel.frame _, fun h => by cases h⟩

theorem proved : Rows.QueueTextsUptoSaid :=
  OpenClaim.holds_of_cond 6 Try.f6 rfl rfl rfl rfl rfl rfl rfl ⟨rfl, rfl, rfl, rfl, rfl⟩ rfl rfl rfl rfl rfl (by kernel_rfl) Try.func6 (by kernel_rfl)
    (of_decide_eq_true (by kernel_rfl)) (by unfold Func.isWrapper; first | (rw [if_pos (by decide +kernel)]; kernel_rfl) | (rw [if_neg (by decide +kernel)]; exact ⟨rfl, rfl⟩))
    (fun os started H enc _ F => lifted os started H enc F)

end Go.Proofs.Ytiogmgpkaiicpaa.queueTexts
