/-
  DealFresh: what is handed in stays; what is answered is new memory. Reach: each slice that comes in has at most 140737488351232 bytes.
-/
import Derived.Test.YtggpldghdaggfaaFrameI
import Derived.Test.YtggpldghdaggfaaFrameWl
import Derived.Test.YtggpldghdaggfaaDlLaw
import Derived.Test.YtggpldghdaggfaaWrds
import Derived.Test.YtggpldghdaggfaaInts
import Derived.Test.YtggpldghdaggfaaCopyI
import Derived.Test.YtggpldghdaggfaaCopyW
import Derived.Test.YtggpldghdaggfaaSpoilI
namespace Go.Proofs.Ytggpldghdaggfaa.dealFresh
open Go.ChangeShapes Go.WideShapes Go.ChangeAt Go.RowKit
open Go.ChangeMaps (open_string shut_string)
set_option linter.unusedVariables false

set_option maxHeartbeats 1000000 in
set_option maxRecDepth 100000 in
theorem walk (w : World) (v0 : Value) (l0 : List Int) (h0 : Lv iK w w.heap.size v0 l0) (v1 : Value) (l1 : List Nat) (h1 : Lv wK w w.heap.size v1 l1) (s0 : l0.length * 8 ≤ 140737488351232) (s1 : l1.length * 8 ≤ 140737488351232) :
    Calls Try.prog 10 #[v0, v1] w (IsBool true w) := by
  have hs0 : l0.length ≤ 17592186044416 := by omega
  have hs1 : l1.length ≤ 17592186044416 := by omega
  clear s0 s1
  obtain ⟨r1, e1⟩ : ∃ r, Dl.backE l0 = r := ⟨_, rfl⟩
  obtain ⟨r2, e2⟩ : ∃ r, Dl.turnE l0 = r := ⟨_, rfl⟩
  obtain ⟨r3, e3⟩ : ∃ r, Dl.takeE l0 l1 = r := ⟨_, rfl⟩
  have H1 := Lib.hid e1
  have H2 := Lib.hid e2
  have H3 := Lib.hid e3
  have HS0 := Lib.hid hs0
  have HS1 := Lib.hid hs1
  clear e1 e2 e3 hs0 hs1
  have Fa_0 := Lib.hid (h0)
  have Fb_0 := Lib.hid (h1)
  clear h0 h1
  have HB0 := Lib.hid (Below.refl w.heap.size w)
  go_enter Try.func10, Try.ntmps10
  have C1 := Lib.hid (copyInts_any _ l0 _ w Fa_0.out HS0.out)
  go_wp2_with (fail)
  refine (C1.out).mono ?_
  rintro e w1 ⟨A1, c1, rfl, o1, b1⟩
  have HB1 := Lib.hid (HB0.out.trans (b1.mono HB0.out.size))
  have Fa_1 := Lib.hid ((Fa_0.out.below_ b1 (Nat.le_refl _)).mono_ b1.size)
  have Fb_1 := Lib.hid ((Fb_0.out.below_ b1 (Nat.le_refl _)).mono_ b1.size)
  have Fq_1 := Lib.hid (o1.form_)
  clear C1 b1 HB0 Fa_0 Fb_0 o1
  have C2 := Lib.hid (copyWrds_any _ l1 _ w1 Fb_1.out HS1.out)
  go_wp2_with (fail)
  refine (C2.out).mono ?_
  rintro e w2 ⟨A2, c2, rfl, o2, b2⟩
  have HB2 := Lib.hid (HB1.out.trans (b2.mono HB1.out.size))
  have Fa_2 := Lib.hid ((Fa_1.out.below_ b2 (Nat.le_refl _)).mono_ b2.size)
  have Fb_2 := Lib.hid ((Fb_1.out.below_ b2 (Nat.le_refl _)).mono_ b2.size)
  have Fq_2 := Lib.hid ((Fq_1.out.below_ b2 (Nat.le_refl _)).mono_ b2.size)
  have Fm_2 := Lib.hid (o2.form_)
  clear C2 b2 HB1 Fa_1 Fb_1 Fq_1 o2
  have HBa := Lib.hid HB2.out
  have FQ := Lib.hid Fq_2.out
  have FM := Lib.hid Fm_2.out
  have FA := Lib.hid Fa_2.out
  have FB := Lib.hid Fb_2.out
  clear Fa_2
  clear Fb_2
  have C3 := Lib.hid (pback_any _ l0 _ w2 (Nat.le_refl _) Fq_2.out)
  rw [H1.out] at C3
  go_wp2_with (fail)
  refine (C3.out).mono ?_
  rintro e w3 ⟨A3, c3, rfl, o3, b3⟩
  have HB3 := Lib.hid (HB2.out.trans (b3.mono HB2.out.size))
  have Fq_3 := Lib.hid ((Fq_2.out.below_ b3 (Nat.le_refl _)).mono_ b3.size)
  have Fm_3 := Lib.hid ((Fm_2.out.below_ b3 (Nat.le_refl _)).mono_ b3.size)
  have Fx_3 := Lib.hid (o3.form_)
  have Ox_3 := Lib.hid o3
  have HM3 := (b3)
  have S23 := b3.size
  clear C3 b3 HB2 Fq_2 Fm_2 o3
  have hx3 : ∀ k, (Value.slice A3 r1.1.length c3).ownBlock = some k → k < w3.heap.size := fun k hk => (Ox_3.out.lt_ k hk).2
  have HX3 := Lib.hid hx3
  clear hx3
  have C4 := Lib.hid (pturn_any _ l0 _ w3 (Nat.le_refl _) Fq_3.out)
  rw [H2.out] at C4
  go_wp2_with (fail)
  refine (C4.out).mono ?_
  rintro e w4 ⟨A4, c4, rfl, o4, b4⟩
  have HB4 := Lib.hid (HB3.out.trans (b4.mono HB3.out.size))
  have Fq_4 := Lib.hid ((Fq_3.out.below_ b4 (Nat.le_refl _)).mono_ b4.size)
  have Fm_4 := Lib.hid ((Fm_3.out.below_ b4 (Nat.le_refl _)).mono_ b4.size)
  have Fx_4 := Lib.hid ((Fx_3.out.below_ b4 (Nat.le_refl _)).mono_ b4.size)
  have Ox_4 := Lib.hid (Ox_3.out.below_ b4 (Nat.le_refl _))
  have Fy_4 := Lib.hid (o4.form_)
  have Oy_4 := Lib.hid o4
  have HM4 := HM3.trans (b4.mono HM3.size)
  have S34 := b4.size
  clear HM3
  clear C4 b4 HB3 Fq_3 Fm_3 Fx_3 Ox_3 o4
  have hy4 : ∀ k, (Value.slice A4 r2.1.length c4).ownBlock = some k → k < w4.heap.size := fun k hk => (Oy_4.out.lt_ k hk).2
  have HY4 := Lib.hid hy4
  clear hy4
  have C5 := Lib.hid (ptake_any _ _ l0 l1 _ w4 (Nat.le_refl _) Fq_4.out Fm_4.out)
  rw [H3.out] at C5
  go_wp2_with (fail)
  refine (C5.out).mono ?_
  rintro e w5 ⟨A5, c5, rfl, o5, b5⟩
  have HB5 := Lib.hid (HB4.out.trans (b5.mono HB4.out.size))
  have Fq_5 := Lib.hid ((Fq_4.out.below_ b5 (Nat.le_refl _)).mono_ b5.size)
  have Fm_5 := Lib.hid ((Fm_4.out.below_ b5 (Nat.le_refl _)).mono_ b5.size)
  have Fx_5 := Lib.hid ((Fx_4.out.below_ b5 (Nat.le_refl _)).mono_ b5.size)
  have Fy_5 := Lib.hid ((Fy_4.out.below_ b5 (Nat.le_refl _)).mono_ b5.size)
  have Ox_5 := Lib.hid (Ox_4.out.below_ b5 (Nat.le_refl _))
  have Oy_5 := Lib.hid (Oy_4.out.below_ b5 (Nat.le_refl _))
  have Fz_5 := Lib.hid (o5.form_)
  have Oz_5 := Lib.hid o5
  have HM5 := HM4.trans (b5.mono HM4.size)
  clear HM4
  clear C5 b5 HB4 Fq_4 Fm_4 Fx_4 Fy_4 Ox_4 Oy_4 o5
  have HZ23 : Hid (w2.heap.size ≤ w3.heap.size) := S23
  have HZ34 : Hid (w3.heap.size ≤ w4.heap.size) := S34
  clear S23 S34
  have HMk := Lib.hid HM5
  clear HM5
  have C6 := Lib.hid (spoilInts_any _ _ _ w5 Ox_5.out)
  go_wp2_with (fail)
  refine (C6.out).mono ?_
  rintro e w6 ⟨⟨xx, rfl⟩, g6⟩
  have HM6 := Lib.hid (HMk.out.grown g6 HMk.out.size (fun k hk => (Ox_5.out.lt_ k hk).1))
  have OY6 := Lib.hid (Oy_5.out.kept_ g6 (Oy_5.out.apart_ Ox_5.out HX3.out))
  have OZ6 := Lib.hid (Oz_5.out.kept_ g6 (Oz_5.out.apart_ Ox_5.out (fun k hk => Nat.lt_of_lt_of_le (HX3.out k hk) HZ34.out)))
  clear C6 g6
  have C7 := Lib.hid (spoilInts_any _ _ _ w6 OY6.out)
  go_wp2_with (fail)
  refine (C7.out).mono ?_
  rintro e w7 ⟨⟨xy, rfl⟩, g7⟩
  have HM7 := Lib.hid (HM6.out.grown g7 HM6.out.size (fun k hk => Nat.le_trans HZ23.out (OY6.out.lt_ k hk).1))
  have OZ7 := Lib.hid (OZ6.out.kept_ g7 (OZ6.out.apart_ OY6.out HY4.out))
  have HMX := Lib.hid (Nat.le_trans HZ23.out HZ34.out)
  have hlz : r3.1.length ≤ 9223372036854775807 := by have := Fz_5.out.len_; simp only [maxLen] at this; omega
  clear C7 g7
  go_wp2
  go_loopw [13] (fun i wr => ∃ (k : Nat) (z : List Nat), k ≤ r3.1.length ∧ i = .int .i64 k ∧ Hid (z.length = r3.1.length) ∧ Hid (OwnL wK wr w4.heap.size (.slice A5 r3.1.length c5) z) ∧ Below w2.heap.size w2 wr) (fun i _ => r3.1.length - (intOf i).toNat)
  case atStart => exact ⟨0, r3.1, by omega, rfl, rfl, OZ7.out, HM7.out⟩
  case round =>
    obtain ⟨k, z, hk, rfl, HZl, HO, hbr⟩ := hrel
    by_cases hlt : k < r3.1.length
    · have hkz : k < z.length := by have := HZl.out; omega
      obtain ⟨g, y, rfl, -, hg, -, -, hcell, hfr⟩ := HO.out.word_ hkz
      obtain ⟨hs, hg1⟩ := HO.out.setWord_ hkz (x := 9) (by unfold U64; omega)
      have HS := Lib.hid hs
      have HL2 : Hid ((z.set k 9).length = r3.1.length) := by unfold Hid; rw [List.length_set]; exact HZl.out
      have HB2 := Lib.hid (hbr.setCell (p := ⟨g, k, none⟩) (Nat.le_trans HMX.out hg) (.int .u64 ((9 : Nat) : Int)))
      clear hs hg1 HO hkz
      go_wp2
      exact ⟨⟨k + 1, z.set k 9, by omega, by go_num, HL2.out, HS.out, HB2.out⟩, by simp [intOf]; omega⟩
    · have HBr := Lib.hid hbr
      have fq := FQ.out.below_ hbr (Nat.le_refl _)
      have fa := FA.out.below_ hbr (Nat.le_refl _)
      have C8 := Lib.hid (ints_lv _ _ _ _ _ _ wr fq fa)
      simp only [decide_true] at C8
      clear fq fa hbr
      go_wp2_with (fail)
      refine (C8.out).mono ?_
      rintro e w8 ⟨rfl, b8⟩
      have HB8 := Lib.hid (HBr.out.trans (b8.mono HBr.out.size))
      have C9 := Lib.hid (wrds_lv _ _ _ _ _ _ w8 (FM.out.below_ HB8.out (Nat.le_refl _)) (FB.out.below_ HB8.out (Nat.le_refl _)))
      simp only [decide_true] at C9
      clear C8 b8
      go_wp2_with (fail)
      refine (C9.out).mono ?_
      rintro e w9 ⟨rfl, b9⟩
      have HB9 := Lib.hid (HB8.out.trans (b9.mono HB8.out.size))
      have C10 := Lib.hid (works_any w9)
      clear C9 b9
      go_wp2_with (fail)
      refine (C10.out).mono ?_
      rintro e w10 ⟨rfl, b10⟩
      have HB10 := Lib.hid (HBa.out.trans ((HB9.out.trans (b10.mono HB9.out.size)).mono HBa.out.size))
      clear C10 b10
      go_wp2
      go_ret
      exact ⟨rfl, HB10.out⟩

/-! ### From the walk to the row -/
set_option maxRecDepth 100000 in
theorem lifted (os : Os) (started : os.Started) (H : Type) (enc : TypeId × Value → H) :
    ReturnsInHanded {} Try.checked os 10 .any (Rows.dealFreshSpec.pre6 enc Try.prog Try.f10 Rows.dealFreshRow.domain false) (Rows.dealFreshSpec.post enc Try.prog Try.f10 false true false false) := by
  refine returnsInHanded_of_change_sized (C := Try.checked) own started (by kernel_rfl) Try.func10
    (ChangeSpec.witness6 (enc := enc) (C := Try.checked) false ⟨#[], #[.slice none 0 0, .slice none 0 0], []⟩ 8 (by kernel_rfl) (by kernel_rfl) (by kernel_rfl) (by kernel_rfl)) ?_
  intro W base args ds gs before hval0 hW hcnd hreach _
  have hval : ∀ (j : Nat) t v, Try.f10.params[j]? = some t → args[j]? = some v → Value.okWide Try.prog W .any base t v := hval0
  have hW' := hW
  obtain ⟨p, q, hA0, hV, rfl, hfz, hnd⟩ := hW
  have hA : DataW.TrodAll enc Try.prog W 0 (fun _ => true) true Try.f10.params.toList args.toList ds p := hA0
  rw [Try.params10] at hA hval
  obtain ⟨v0, vs0, d0, ds0, p0, q0, hargs, rfl, rfl, h0, r0⟩ := trodAll_cons hA
  obtain ⟨v1, vs1, d1, ds1, p1, q1, rfl, rfl, rfl, h1, r1⟩ := trodAll_cons r0
  obtain ⟨rfl, rfl, rfl⟩ := trodAll_nil r1
  obtain rfl : args = #[v0, v1] := by cases args; simp_all
  obtain ⟨rfl, rfl⟩ := trodVars_none hV
  obtain ⟨a0, len0, cap0, rfl⟩ := okWide_slice Try.underlying23 (hval 0 23 v0 rfl rfl)
  have k0 := h0
  have lt0 : ∀ x ∈ p0, x.block < W.heap.size := by obtain ⟨m, hm⟩ := k0; exact DataW.trod_lt m _ _ _ hm
  obtain ⟨l0, len_0, hb0⟩ : ∃ l : List Int, l.length = len0 ∧ Lv iK W W.heap.size (.slice a0 len0 cap0) l := by
    obtain ⟨fuel, hf⟩ := h0
    rcases open_ints Try.underlying23 Try.underlying3 (by kernel_rfl) hf with ⟨hcs, _⟩ | ⟨x, l, c, zs, hcs, _, hl, hm, hz, _, hcell, hwz⟩
    · simp [Value.cells] at hcs
      obtain ⟨rfl, rfl, rfl⟩ := hcs
      exact ints_in (.inl ⟨rfl, rfl, rfl⟩)
    · simp [Value.cells] at hcs
      obtain ⟨rfl, rfl, rfl⟩ := hcs
      exact ints_in (.inr ⟨x, zs, rfl, hl, hm, by simpa using hz, hcell, hwz⟩)
  obtain ⟨a1, len1, cap1, rfl⟩ := okWide_slice Try.underlying34 (hval 1 34 v1 rfl rfl)
  have k1 := h1
  have lt1 : ∀ x ∈ p1, x.block < W.heap.size := by obtain ⟨m, hm⟩ := k1; exact DataW.trod_lt m _ _ _ hm
  obtain ⟨l1, len_1, hb1⟩ : ∃ l : List Nat, l.length = len1 ∧ Lv wK W W.heap.size (.slice a1 len1 cap1) l := by
    obtain ⟨fuel, hf⟩ := h1
    rcases open_ints Try.underlying34 Try.underlying22 (by kernel_rfl) hf with ⟨hcs, _⟩ | ⟨x, l, c, zs, hcs, _, hl, hm, hz, _, hcell, hwz⟩
    · simp [Value.cells] at hcs
      obtain ⟨rfl, rfl, rfl⟩ := hcs
      exact wrds_in (.inl ⟨rfl, rfl, rfl⟩)
    · simp [Value.cells] at hcs
      obtain ⟨rfl, rfl, rfl⟩ := hcs
      exact wrds_in (.inr ⟨x, zs, rfl, hl, hm, by simpa using hz, hcell, hwz⟩)
  have reach0 : len0 * 8 ≤ 140737488351232 := by
    obtain ⟨fuel, hf⟩ := k0
    rcases open_ints Try.underlying23 Try.underlying3 (by kernel_rfl) hf with ⟨hcs, _⟩ | ⟨x, l, c, zs, hcs, _, hl, hm, hz, hx, hcell, hwz⟩
    · simp [Value.cells] at hcs
      omega
    · simp [Value.cells] at hcs
      obtain ⟨rfl, rfl, rfl⟩ := hcs
      rw [Prod.mk.injEq] at hx
      have hs := sized_slice hreach (j := 0) (t := 23) (e := 3) (elems := lits .i64 (zs.take len0)) (spare := lits .i64 (zs.drop len0)) rfl (by rw [hx.1]; rfl) Try.underlying23
      have hb : Try.prog.bytesOf 3 = 8 := by kernel_rfl
      change _ * Try.prog.bytesOf 3 ≤ _ at hs
      rw [hb] at hs
      simp [lits, reachBytes] at hs hz
      omega
  have reach1 : len1 * 8 ≤ 140737488351232 := by
    obtain ⟨fuel, hf⟩ := k1
    rcases open_ints Try.underlying34 Try.underlying22 (by kernel_rfl) hf with ⟨hcs, _⟩ | ⟨x, l, c, zs, hcs, _, hl, hm, hz, hx, hcell, hwz⟩
    · simp [Value.cells] at hcs
      omega
    · simp [Value.cells] at hcs
      obtain ⟨rfl, rfl, rfl⟩ := hcs
      rw [Prod.mk.injEq] at hx
      have hs := sized_slice hreach (j := 1) (t := 34) (e := 22) (elems := lits .u64 (zs.take len1)) (spare := lits .u64 (zs.drop len1)) rfl (by rw [hx.1]; rfl) Try.underlying34
      have hb : Try.prog.bytesOf 22 = 8 := by kernel_rfl
      change _ * Try.prog.bytesOf 22 ≤ _ at hs
      rw [hb] at hs
      simp [lits, reachBytes] at hs hz
      omega
  clear hA0 hval0
  refine (walk W (.slice a0 len0 cap0) l0 hb0 (.slice a1 len1 cap1) l1 hb1 (by rw [len_0]; exact reach0) (by rw [len_1]; exact reach1)).mono fun e W' ⟨he, bel⟩ => ?_
  subst he
  exact ⟨_, rfl, _, _, _, [], _, [], hW', trodAll_mk1 (shut_bool Try.underlying4 _), (trodAll_cons_mk (Below.trod laidOut (by kernel_rfl) (of_decide_eq_true (by kernel_rfl)) k0 bel lt0) (trodAll_cons_mk (Below.trod laidOut (by kernel_rfl) (of_decide_eq_true (by kernel_rfl)) k1 bel lt1) trodAll_mk0)), rfl, bel.frame _, fun h => by cases h⟩

theorem proved : Rows.DealFreshSaid :=
  OpenClaim.holds_of_wide 10 Try.f10 rfl rfl rfl rfl rfl rfl rfl ⟨rfl, rfl, rfl, rfl, rfl⟩ rfl rfl rfl rfl rfl (by kernel_rfl) Try.func10 (by kernel_rfl)
    (of_decide_eq_true (by kernel_rfl)) (by unfold Func.isWrapper; first | (rw [if_pos (by decide +kernel)]; kernel_rfl) | (rw [if_neg (by decide +kernel)]; exact ⟨rfl, rfl⟩))
    (fun os started H enc _ => lifted os started H enc)

end Go.Proofs.Ytggpldghdaggfaa.dealFresh
