/-
  FrameFresh, the upto form: what is handed in stays, the room behind it too; what is answered is new memory. The condition: what comes in is of bulk at most 1048576.
-/
import Derived.Test.YteemhdoegjdaiaaFrame
import Derived.Test.YteemhdoegjdaiaaBulk
import Derived.Test.YteemhdoegjdaiaaFWorks
import Derived.Test.YteemhdoegjdaiaaRFScan
import Derived.Test.YteemhdoegjdaiaaFRows
import Derived.Test.YteemhdoegjdaiaaRowsP
import Derived.Test.YteemhdoegjdaiaaFreshA
import Derived.Test.YteemhdoegjdaiaaLeft
namespace Go.Proofs.Yteemhdoegjdaiaa.frameFresh
open Go.ChangeShapes Go.WideShapes Go.ChangeAt Go.RowKit
open Go.ChangeMaps (open_string shut_string)
set_option linter.unusedVariables false

set_option maxHeartbeats 4000000 in
set_option maxRecDepth 100000 in
theorem walk (w : World) (v0 : Value) (l0 : List Nat) (h0 : Bv w w.heap.size v0 l0) (v1 : Value) (l1 : List Nat) (h1 : Bv w w.heap.size v1 l1) (hsz : l0.length + l1.length ≤ 1048576) :
    Calls Try.prog 9 #[v0, v1] w (IsBool true w) := by
  have H0 := Lib.hid h0
  have H1 := Lib.hid h1
  obtain ⟨A0, c0, rfl, _, _, _, _⟩ := h0
  obtain ⟨A1, c1, rfl, _, _, _, _⟩ := h1
  obtain ⟨y, e, hr⟩ : ∃ y e, Fr.put l0 = (y, e) := ⟨_, _, rfl⟩
  obtain ⟨x, nx, ex, hx⟩ : ∃ x nx ex, Fr.get l1 0 = (x, nx, ex) := ⟨_, _, _, rfl⟩
  obtain ⟨ls, k, f, hs⟩ : ∃ ls k f, Fr.scan l1 = (ls, k, f) := ⟨_, _, _, rfl⟩
  have HP := Lib.hid hr
  have HX := Lib.hid hx
  have HS := Lib.hid hs
  clear hr hx hs
  have HC := Lib.hid (wide_any _ l0 w.heap.size w (Nat.le_refl _) H0.out (by omega))
  go_enter Try.func9, Try.ntmps9
  go_wp2_with fail
  ((with_reducible refine HC.out.mono ?_); rintro e' w1 ⟨g1, rfl, ho1, hb1⟩)
  have HB := Lib.hid hb1
  have HV1 := Lib.hid ho1.form_
  have ht := ho1.form_.take_ (k := l0.length) (by simp)
  rw [List.take_left] at ht
  have hc := fput_any _ l0 _ w1 (Nat.le_refl _) ht
  rw [HP.out] at hc
  clear HC
  have HC := Lib.hid hc
  clear hc ht ho1 hb1
  go_wp2_with fail
  ((with_reducible refine HC.out.mono ?_); rintro e' w2 ⟨A2, rfl, ho2, hb2⟩)
  have HB1 := Lib.hid hb2
  have hsp := spoil_any _ A2 y w2 ho2 hb2.size
  clear HC
  have HC := Lib.hid hsp
  clear hsp ho2 hb2
  go_wp2_with fail
  ((with_reducible refine HC.out.mono ?_); rintro e' w3 ⟨⟨u3, rfl⟩, hb3⟩)
  have HB1a := Lib.hid (HB1.out.trans hb3)
  have HBa := Lib.hid (HB.out.trans (HB1a.out.mono HB.out.size))
  clear HC HB1 hb3
  have HC := Lib.hid (wide_any _ l1 w.heap.size w3 HBa.out.size (H1.out.below_ HBa.out (Nat.le_refl _)) (by omega))
  go_wp2_with fail
  ((with_reducible refine HC.out.mono ?_); rintro e' w4 ⟨g4, rfl, ho4, hb4⟩)
  have HB1b := Lib.hid (HB1a.out.trans (hb4.mono HB1a.out.size))
  have HV4 := Lib.hid ho4.form_
  have ht := ho4.form_.take_ (k := l1.length) (by simp)
  rw [List.take_left] at ht
  have HT4 := Lib.hid ht
  have hc := fget_any _ l1 _ 0 w4 (Nat.le_refl _) ht (by omega)
  rw [show IsRowF (Fr.get l1 0) w4 = IsRowF (x, nx, ex) w4 by rw [HX.out]] at hc
  clear HC
  have HC := Lib.hid hc
  clear hc ht ho4 hb4 HB1a HBa
  go_wp2_with fail
  ((with_reducible refine HC.out.mono ?_); rintro e' w5 ⟨A5, rfl, ho5, hb5⟩)
  have HB4 := Lib.hid hb5
  have hsp := spoil_any _ A5 x w5 ho5 hb5.size
  clear HC
  have HC := Lib.hid hsp
  clear hsp ho5 hb5
  go_wp2_with fail
  ((with_reducible refine HC.out.mono ?_); rintro e' w6 ⟨⟨u6, rfl⟩, hb6⟩)
  have HB4a := Lib.hid (HB4.out.trans hb6)
  clear HC HB4 hb6
  have hc := scan_any _ l1 _ w6 HB4a.out.size (HT4.out.below_ HB4a.out (Nat.le_refl _)) (by omega)
  rw [HS.out] at hc
  have HC := Lib.hid hc
  clear hc
  go_wp2_with fail
  ((with_reducible refine HC.out.mono ?_); rintro e' w7 ⟨A7, c7, rfl, ho7, hb7⟩)
  have HB6 := Lib.hid hb7
  obtain ⟨us, hul, hop⟩ := ho7.loose_
  have HO := Lib.hid hop
  have hlm : ls.length ≤ maxLen := by
    obtain ⟨_, _, e, h1, h2, _⟩ := ho7.form_
    omega
  unfold maxLen at hlm
  clear HC ho7 hb7 hop
  go_wp2
  go_loopw [14] (fun i wr => ∃ j : Nat, j ≤ ls.length ∧ i = .int .i64 j ∧ Hid (OwnP wr w6.heap.size (.slice A7 ls.length c7) us) ∧ Below w6.heap.size w6 wr) (fun i _ => ls.length - (intOf i).toNat)
  case atStart => exact ⟨0, by omega, rfl, HO.out, HB6.out⟩
  case round =>
    obtain ⟨j, hj, rfl, HQ, hbr⟩ := hrel
    clear HO HB6
    by_cases hlt : j < ls.length
    · obtain ⟨g, A', z, rfl, hz1, hz2, hz3⟩ := HQ.out.at_ (k := j) (by omega)
      have HC := Lib.hid (spoilt_any _ A' z wr hz3)
      have HZ := Lib.hid hz3
      have i1 : (j : Int) < (ls.length : Nat) := by omega
      clear hz1 hz3
      go_wp2_with fail
      ((with_reducible refine HC.out.mono ?_); rintro e' w8 ⟨⟨u8, rfl⟩, hg8, y8, hy8, ho8⟩)
      have HQ2 := Lib.hid (HQ.out.spoilt_ rfl HZ.out hg8 hy8 ho8)
      have HB8 := Lib.hid (hbr.grown hg8 hbr.size (fun k hk => (HZ.out.lt_ k hk).1))
      clear HC hg8 hy8 ho8 HZ HQ
      go_wp2
      go_roundw
      case rel => exact ⟨j + 1, by omega, by go_num, HQ2.out, HB8.out⟩
      case measure => simp [intOf]; omega
    · have hlt2 : ¬ ((j : Int) < (ls.length : Nat)) := by omega
      have HB4b := Lib.hid (HB4a.out.trans (hbr.mono HB4a.out.size))
      have hc := scan_any _ l1 _ wr HB4b.out.size (HT4.out.below_ HB4b.out (Nat.le_refl _)) (by omega)
      rw [HS.out] at hc
      have HC := Lib.hid hc
      clear hc HQ hbr HB4a
      go_wp2_with fail
      ((with_reducible refine HC.out.mono ?_); rintro e' w9 ⟨A9, c9, rfl, ho9, hb9⟩)
      have HB4c := Lib.hid (HB4b.out.trans (hb9.mono HB4b.out.size))
      have HB1c := Lib.hid (HB1b.out.trans (HB4c.out.mono HB1b.out.size))
      have HBc := Lib.hid (HB.out.trans (HB1c.out.mono HB.out.size))
      have HR9 := Lib.hid ho9.form_
      have hc := rscan_any _ l1 _ w9 HBc.out.size (H1.out.below_ HBc.out (Nat.le_refl _)) (by omega)
      rw [HS.out] at hc
      clear HC
      have HC := Lib.hid hc
      clear hc ho9 hb9 HB4b
      go_wp2_with fail
      ((with_reducible refine HC.out.mono ?_); rintro e' w10 ⟨A10, c10, rfl, ho10, hb10⟩)
      have HB4d := Lib.hid (HB4c.out.trans (hb10.mono HB4c.out.size))
      have HB1d := Lib.hid (HB1c.out.trans (hb10.mono HB1c.out.size))
      have HBd := Lib.hid (HBc.out.trans (hb10.mono HBc.out.size))
      have HR9a := Lib.hid (HR9.out.below_ hb10 (Nat.le_refl _))
      have HR10 := Lib.hid ho10.form_
      have z9 : w9.heap.size ≤ w10.heap.size := hb10.size
      clear HC
      have HC := Lib.hid (left_any g1 l0 _ _ _ w10 (HV1.out.below_ HB1d.out (Nat.le_refl _)) (H0.out.below_ HBd.out (Nat.le_refl _)))
      clear ho10 hb10 HB4c HB1c HBc HR9 HV1 H0
      go_wp2_with fail
      ((with_reducible refine HC.out.mono ?_); rintro e' w11 ⟨rfl, hb11⟩)
      have HB4e := Lib.hid (HB4d.out.trans (hb11.mono HB4d.out.size))
      have HBe := Lib.hid (HBd.out.trans (hb11.mono HBd.out.size))
      have HR9b := Lib.hid (HR9a.out.below_ hb11 z9)
      have HR10b := Lib.hid (HR10.out.below_ hb11 (Nat.le_refl _))
      have z10 : w10.heap.size ≤ w11.heap.size := hb11.size
      clear HC
      have HC := Lib.hid (left_any g4 l1 _ _ _ w11 (HV4.out.below_ HB4e.out (Nat.le_refl _)) (H1.out.below_ HBe.out (Nat.le_refl _)))
      clear hb11 HB4d HBd HB1d HR9a HR10 HV4 H1
      go_wp2_with fail
      ((with_reducible refine HC.out.mono ?_); rintro e' w12 ⟨rfl, hb12⟩)
      have HBf := Lib.hid (HBe.out.trans (hb12.mono HBe.out.size))
      have z11 : w11.heap.size ≤ w12.heap.size := hb12.size
      clear HC
      have HC := Lib.hid (rows_any _ _ _ _ _ _ w12 (HR9b.out.below_ hb12 (by omega)) (HR10b.out.below_ hb12 z10) (by omega) (by omega))
      clear hb12 HB4e HBe HR9b HR10b
      go_wp2_with fail
      ((with_reducible refine HC.out.mono ?_); rintro e' w13 ⟨he, hb13⟩)
      simp only [decide_true] at he
      subst he
      have HBg := Lib.hid (HBf.out.trans (hb13.mono HBf.out.size))
      have HW := Lib.hid (works_any w13)
      clear HC hb13 HBf
      go_wp2_with fail
      ((with_reducible refine HW.out.mono ?_); rintro e w14 ⟨rfl, hb14⟩)
      go_wp2
      go_ret
      exact ⟨rfl, HBg.out.trans (hb14.mono HBg.out.size)⟩

/-! ### From the walk to the row -/
set_option maxRecDepth 100000 in
theorem lifted (os : Os) (started : os.Started) (H : Type) (enc : TypeId × Value → H) (F : Stop.Interp) :
    ReturnsInHanded {} Try.checked os 9 .any ((Rows.OpenSpec.upto Rows.frameFreshSpec).pre6 enc Try.prog Try.f9 Rows.frameFreshUptoRow.domain false) (((Rows.OpenSpec.upto Rows.frameFreshSpec).at F).post enc Try.prog Try.f9 false true false false) := by
  refine returnsInHanded_of_cond (C := Try.checked) (s := Rows.OpenSpec.upto Rows.frameFreshSpec) (k := Rows.uptoSmall) rfl own started (by kernel_rfl) Try.func9
    (OpenSpec.witness (enc := enc) (C := Try.checked) (s := Rows.OpenSpec.upto Rows.frameFreshSpec) (k := Rows.uptoSmall) rfl false ⟨#[], #[.slice none 0 0, .slice none 0 0], []⟩ 8 (by kernel_rfl) (by kernel_rfl) (by kernel_rfl)
      (x := ([.nil, .nil], [], [])) (by kernel_rfl) rfl (by kernel_rfl)) ?_
  intro W base args ds gs before hval0 hW hcnd hsmall _
  have hval : ∀ (j : Nat) t v, Try.f9.params[j]? = some t → args[j]? = some v → Value.okWide Try.prog W .any base t v := hval0
  have hW' := hW
  obtain ⟨p, q, hA0, hV, rfl, hfz, hnd⟩ := hW
  have hA : DataW.TrodAll enc Try.prog W 0 (fun _ => true) true Try.f9.params.toList args.toList ds p := hA0
  rw [Try.params9] at hA hval
  obtain ⟨v0, vs0, d0, ds0, p0, q0, hargs, rfl, rfl, h0, r0⟩ := trodAll_cons hA
  obtain ⟨v1, vs1, d1, ds1, p1, q1, rfl, rfl, rfl, h1, r1⟩ := trodAll_cons r0
  obtain ⟨rfl, rfl, rfl⟩ := trodAll_nil r1
  obtain rfl : args = #[v0, v1] := by cases args; simp_all
  obtain ⟨rfl, rfl⟩ := trodVars_none hV
  obtain ⟨a0, len0, cap0, rfl⟩ := okWide_slice Try.underlying22 (hval 0 22 v0 rfl rfl)
  have k0 := h0
  have lt0 : ∀ x ∈ p0, x.block < W.heap.size := by obtain ⟨m, hm⟩ := k0; exact DataW.trod_lt m _ _ _ hm
  have bulk0 : len0 ≤ Rows.uptoBulk d0 := by
    obtain ⟨fuel, hf⟩ := h0
    rcases open_ints Try.underlying22 Try.underlying5 (by kernel_rfl) hf with ⟨hcs, _⟩ | ⟨x, l, c, zs, hcs, _, hl, hm, hz, hx, hcell, hwz⟩
    · simp [Value.cells] at hcs
      omega
    · simp [Value.cells] at hcs
      obtain ⟨rfl, rfl, rfl⟩ := hcs
      rw [Prod.mk.injEq] at hx
      rw [hx.1]
      exact bulk_ints _ _ _ (by rw [hz]; simp; omega)
  obtain ⟨l0, len_0, hb0⟩ : ∃ l : List Nat, l.length = len0 ∧ Bv W W.heap.size (.slice a0 len0 cap0) l := by
    obtain ⟨fuel, hf⟩ := h0
    rcases open_ints Try.underlying22 Try.underlying5 (by kernel_rfl) hf with ⟨hcs, _⟩ | ⟨x, l, c, zs, hcs, _, hl, hm, hz, _, hcell, hwz⟩
    · simp [Value.cells] at hcs
      obtain ⟨rfl, rfl, rfl⟩ := hcs
      exact bytes_in (.inl ⟨rfl, rfl, rfl⟩)
    · simp [Value.cells] at hcs
      obtain ⟨rfl, rfl, rfl⟩ := hcs
      exact bytes_in (.inr ⟨x, zs, rfl, hl, hm, by simpa using hz, hcell, hwz⟩)
  obtain ⟨a1, len1, cap1, rfl⟩ := okWide_slice Try.underlying22 (hval 1 22 v1 rfl rfl)
  have k1 := h1
  have lt1 : ∀ x ∈ p1, x.block < W.heap.size := by obtain ⟨m, hm⟩ := k1; exact DataW.trod_lt m _ _ _ hm
  have bulk1 : len1 ≤ Rows.uptoBulk d1 := by
    obtain ⟨fuel, hf⟩ := h1
    rcases open_ints Try.underlying22 Try.underlying5 (by kernel_rfl) hf with ⟨hcs, _⟩ | ⟨x, l, c, zs, hcs, _, hl, hm, hz, hx, hcell, hwz⟩
    · simp [Value.cells] at hcs
      omega
    · simp [Value.cells] at hcs
      obtain ⟨rfl, rfl, rfl⟩ := hcs
      rw [Prod.mk.injEq] at hx
      rw [hx.1]
      exact bulk_ints _ _ _ (by rw [hz]; simp; omega)
  obtain ⟨l1, len_1, hb1⟩ : ∃ l : List Nat, l.length = len1 ∧ Bv W W.heap.size (.slice a1 len1 cap1) l := by
    obtain ⟨fuel, hf⟩ := h1
    rcases open_ints Try.underlying22 Try.underlying5 (by kernel_rfl) hf with ⟨hcs, _⟩ | ⟨x, l, c, zs, hcs, _, hl, hm, hz, _, hcell, hwz⟩
    · simp [Value.cells] at hcs
      obtain ⟨rfl, rfl, rfl⟩ := hcs
      exact bytes_in (.inl ⟨rfl, rfl, rfl⟩)
    · simp [Value.cells] at hcs
      obtain ⟨rfl, rfl, rfl⟩ := hcs
      exact bytes_in (.inr ⟨x, zs, rfl, hl, hm, by simpa using hz, hcell, hwz⟩)
  clear hA0 hval0
  have hsum := bulk_all hsmall
  simp only [List.append_nil, Rows.uptoBulkAll] at hsum
  have hsum2 : l0.length + l1.length ≤ 1048576 := by omega
  refine (walk W (.slice a0 len0 cap0) l0 hb0 (.slice a1 len1 cap1) l1 hb1 hsum2).mono fun e W' ⟨he, bel⟩ => ?_
  subst he
  exact ⟨_, rfl, _, _, _, [], _, [], hW', trodAll_mk1 (shut_bool Try.underlying4 _), (trodAll_cons_mk (Below.trod laidOut (by kernel_rfl) (of_decide_eq_true (by kernel_rfl)) k0 bel lt0) (trodAll_cons_mk (Below.trod laidOut (by kernel_rfl) (of_decide_eq_true (by kernel_rfl)) k1 bel lt1) trodAll_mk0)), rfl, bel.frame _, fun h => by cases h⟩

theorem proved : Rows.FrameFreshUptoSaid :=
  OpenClaim.holds_of_cond 9 Try.f9 rfl rfl rfl rfl rfl rfl rfl ⟨rfl, rfl, rfl, rfl, rfl⟩ rfl rfl rfl rfl rfl (by kernel_rfl) Try.func9 (by kernel_rfl)
    (of_decide_eq_true (by kernel_rfl)) (by unfold Func.isWrapper; first | (rw [if_pos (by decide +kernel)]; kernel_rfl) | (rw [if_neg (by decide +kernel)]; exact ⟨rfl, rfl⟩))
    (fun os started H enc _ F => lifted os started H enc F)

end Go.Proofs.Yteemhdoegjdaiaa.frameFresh
