/-
  DealWhole: what a seed deals has each number once. No condition.
-/
import Derived.Test.YtggpldghdaggfaaFrameI
import Derived.Test.YtggpldghdaggfaaFrameWl
import Derived.Test.YtggpldghdaggfaaDlLaw
import Derived.Test.YtggpldghdaggfaaWrds
import Derived.Test.YtggpldghdaggfaaInts
namespace Go.Proofs.Ytggpldghdaggfaa.dealWhole
open Go.ChangeShapes Go.WideShapes Go.ChangeAt Go.RowKit
open Go.ChangeMaps (open_string shut_string)
set_option linter.unusedVariables false

set_option maxHeartbeats 1000000 in
set_option maxRecDepth 100000 in
theorem walk (w : World) (n0 : Nat) (b0 : Mt.B64 n0) (a1 : Int) (w1 : (Lit.int .i64 a1).wf = true) :
    Calls Try.prog 9 #[.int .u64 n0, .int .i64 a1] w (IsBool true w) := by
  clear w1
  obtain ⟨z, rfl⟩ := nl_of_u64 b0
  clear b0
  by_cases h0 : a1 < 0
  · skip
    obtain ⟨y, hd, hy⟩ := Dl.deal_bad z (n := a1) (.inl h0)
    have HD := Lib.hid hd
    have hye : ((y : Int) != 0) = true := by rw [bne_iff_ne]; omega
    skip
    clear hd hy
    have HB0 := Lib.hid (Below.refl w.heap.size w)
    go_enter Try.func9, Try.ntmps9
    have C1 := Lib.hid (pdeal_any z a1 w)
    rw [HD.out] at C1
    go_wp2_with (fail)
    refine (C1.out).mono ?_
    rintro e w1 ⟨A1, c1, rfl, o1, b1⟩
    have HB1 := Lib.hid (HB0.out.trans (b1.mono HB0.out.size))
    have Fp_1 := Lib.hid (o1.form_)
    clear C1 b1 HB0 o1
    clear Fp_1
    have C2 := Lib.hid (works_any w1)
    go_wp2_with (fail)
    refine (C2.out).mono ?_
    rintro e w2 ⟨rfl, b2⟩
    have HB2 := Lib.hid (HB1.out.trans (b2.mono HB1.out.size))
    clear C2 b2 HB1
    go_wp2
    go_ret
    exact ⟨rfl, HB2.out⟩
  by_cases h1 : 65536 < a1
  · skip
    obtain ⟨y, hd, hy⟩ := Dl.deal_bad z (n := a1) (.inr h1)
    have HD := Lib.hid hd
    have hye : ((y : Int) != 0) = true := by rw [bne_iff_ne]; omega
    skip
    clear hd hy
    have HB0 := Lib.hid (Below.refl w.heap.size w)
    go_enter Try.func9, Try.ntmps9
    have C1 := Lib.hid (pdeal_any z a1 w)
    rw [HD.out] at C1
    go_wp2_with (fail)
    refine (C1.out).mono ?_
    rintro e w1 ⟨A1, c1, rfl, o1, b1⟩
    have HB1 := Lib.hid (HB0.out.trans (b1.mono HB0.out.size))
    have Fp_1 := Lib.hid (o1.form_)
    clear C1 b1 HB0 o1
    clear Fp_1
    have C2 := Lib.hid (works_any w1)
    go_wp2_with (fail)
    refine (C2.out).mono ?_
    rintro e w2 ⟨rfl, b2⟩
    have HB2 := Lib.hid (HB1.out.trans (b2.mono HB1.out.size))
    clear C2 b2 HB1
    go_wp2
    go_ret
    exact ⟨rfl, HB2.out⟩
  obtain ⟨N, rfl⟩ := Int.eq_ofNat_of_zero_le (show 0 ≤ a1 by omega)
  obtain ⟨p, hd, ho, hpl, _⟩ := Dl.deal_ok z (n := N) (by omega)
  have HD := Lib.hid hd
  have HO := Lib.hid ho
  have HN : Hid (N ≤ 65536) := by unfold Hid; omega
  have hq : ((p.length : Int) != (N : Int)) = false := by rw [hpl]; simp
  have HPL := Lib.hid hpl
  clear hd ho hpl h0 h1
  have HB0 := Lib.hid (Below.refl w.heap.size w)
  go_enter Try.func9, Try.ntmps9
  have C1 := Lib.hid (pdeal_any z (N : Nat) w)
  rw [HD.out] at C1
  go_wp2_with (fail)
  refine (C1.out).mono ?_
  rintro e w1 ⟨A1, c1, rfl, o1, b1⟩
  have HB1 := Lib.hid (HB0.out.trans (b1.mono HB0.out.size))
  have Fp_1 := Lib.hid (o1.form_)
  clear C1 b1 HB0 o1
  have hn := HN.out
  go_wp2_with (at_make; go_must (refine wpList_make_l _ iK rfl _ _ rfl w1.heap.size .i64 .i64 _ _ N N rfl rfl rfl rfl (Nat.le_refl _) (by show 8 * _ ≤ _; omega) (by simp only [maxLen]; omega) (Nat.le_refl _) ?_; intro w2 hO hG))
  have HT := Lib.hid hO
  have HB := Lib.hid ((Below.refl w1.heap.size w1).grown hG (Nat.le_refl _) (by intro k hk; cases hk))
  clear hO hG hn
  go_loopw [8] (fun i wr => ∃ (k : Nat) (m : List Int), k ≤ N ∧ i = .int .i64 k ∧ Hid (m.length = N) ∧ Hid (Dl.tally p k m) ∧ Hid (OwnL iK wr w1.heap.size (.slice (some ⟨w1.heap.size, 0, none⟩) N N) m) ∧ Below w1.heap.size w1 wr) (fun i _ => N - (intOf i).toNat)
  case atStart => exact ⟨0, List.replicate N 0, by omega, rfl, by simp [Hid], Dl.tally_zero _ _, HT.out, HB.out⟩
  case round =>
    obtain ⟨k, m, hk, rfl, HM, HK, HT, hbr⟩ := hrel
    clear HB
    by_cases hlt : k < N
    · have hkp : k < p.length := by have := HPL.out; omega
      obtain ⟨b1, o1, x, rfl, hb1, hx, hd, hcell⟩ := (Fp_1.out.below_ hbr (Nat.le_refl _)).int_ hkp
      have hx2 := HO.out.1 x (List.mem_of_getElem? hd)
      obtain ⟨q, rfl⟩ := Int.eq_ofNat_of_zero_le hx2.1
      have hqm : q < m.length := by have := HM.out; have := HPL.out; omega
      obtain ⟨hz, ht⟩ := Dl.tally_step HO.out HK.out hd hqm
      have HK2 := Lib.hid ht
      obtain ⟨y, hy, hcell2⟩ := HT.out.was_ hqm
      rw [hz] at hy
      obtain rfl := Option.some.inj hy
      have hfr := HT.out.cool_ q
      obtain ⟨hs, hg⟩ := HT.out.setInt_ hqm (x := 1) (by unfold I64; omega)
      have HS := Lib.hid hs
      have HM2 : Hid ((m.set q 1).length = N) := by unfold Hid; rw [List.length_set]; exact HM.out
      have HB2 := Lib.hid (hbr.setCell (p := ⟨w1.heap.size, q, none⟩) (Nat.le_refl _) (.int .i64 1))
      have hx0 : ¬ (q : Int) < 0 := by omega
      have hxn : ¬ (N : Int) ≤ (q : Int) := by have := HM.out; omega
      have hqn : (q : Int) < (N : Int) := by have := HM.out; omega
      have hkp2 : (k : Int) < (p.length : Int) := by omega
      clear hd hx hx2 hqm hz ht hs hg hy HT hkp
      go_wp2
      exact ⟨⟨k + 1, m.set q 1, by omega, by go_num, HM2.out, HK2.out, HS.out, HB2.out⟩, by simp [intOf]; omega⟩
    · have hkN : k = N := by omega
      subst hkN
      have HD1 : Hid (∀ y, y < k → m[y]? = some 1) := fun y hy => by
        have h1 := HPL.out
        have h2 := HK.out
        have h3 := HM.out
        rw [← h1] at h2
        exact Dl.tally_done HO.out h2 (by omega) (by omega)
      have HBr := Lib.hid hbr
      clear hbr HK hlt hk
      go_wp2
      go_loopw [9] (fun i wr2 => ∃ j : Nat, j ≤ k ∧ i = .int .i64 j ∧ wr2 = wr) (fun i _ => k - (intOf i).toNat)
      case atStart => exact ⟨0, by omega, rfl, rfl⟩
      case round =>
        obtain ⟨j, hj, rfl, rfl⟩ := hrel
        by_cases hlt : j < k
        · obtain ⟨y, hy, hcell⟩ := HT.out.was_ (k := j) (by have := HM.out; omega)
          rw [HD1.out j hlt] at hy
          obtain rfl := Option.some.inj hy
          clear hy
          go_wp2
          exact ⟨⟨j + 1, by omega, by go_num, trivial⟩, by simp [intOf]; omega⟩
        · have HW := Lib.hid (works_any wr)
          go_wp2_with (fail)
          refine (HW.out).mono ?_
          rintro e w9 ⟨rfl, b9⟩
          have HB9 := Lib.hid (HB1.out.trans ((HBr.out.trans (b9.mono HBr.out.size)).mono HB1.out.size))
          clear b9 HW
          go_wp2
          go_ret
          exact ⟨rfl, HB9.out⟩

/-! ### From the walk to the row -/
set_option maxRecDepth 100000 in
theorem lifted (os : Os) (started : os.Started) (H : Type) (enc : TypeId × Value → H) :
    ReturnsInHanded {} Try.checked os 9 .any (Rows.dealWholeSpec.pre6 enc Try.prog Try.f9 Rows.dealWholeRow.domain false) (Rows.dealWholeSpec.post enc Try.prog Try.f9 false true false false) := by
  refine returnsInHanded_of_change (C := Try.checked) own started (by kernel_rfl) Try.func9
    (ChangeSpec.witness6 (enc := enc) (C := Try.checked) false ⟨#[], #[.int .u64 0, .int .i64 0], []⟩ 8 (by kernel_rfl) (by kernel_rfl) (by kernel_rfl) (by kernel_rfl)) ?_
  intro W base args ds gs before hval0 hW hcnd _
  have hval : ∀ (j : Nat) t v, Try.f9.params[j]? = some t → args[j]? = some v → Value.okWide Try.prog W .any base t v := hval0
  have hW' := hW
  obtain ⟨p, q, hA0, hV, rfl, hfz, hnd⟩ := hW
  have hA : DataW.TrodAll enc Try.prog W 0 (fun _ => true) true Try.f9.params.toList args.toList ds p := hA0
  rw [Try.params9] at hA hval
  obtain ⟨v0, vs0, d0, ds0, p0, q0, hargs, rfl, rfl, h0, r0⟩ := trodAll_cons hA
  obtain ⟨v1, vs1, d1, ds1, p1, q1, rfl, rfl, rfl, h1, r1⟩ := trodAll_cons r0
  obtain ⟨rfl, rfl, rfl⟩ := trodAll_nil r1
  obtain rfl : args = #[v0, v1] := by cases args; simp_all
  obtain ⟨rfl, rfl⟩ := trodVars_none hV
  obtain ⟨a0, rfl, rfl, rfl, w0⟩ := open_int Try.underlying22 (hval 0 22 v0 rfl rfl) h0
  obtain ⟨n0, e0, b0⟩ := u64_nat w0
  subst e0
  obtain ⟨a1, rfl, rfl, rfl, w1⟩ := open_int Try.underlying3 (hval 1 3 v1 rfl rfl) h1
  clear hA0 hval0
  refine (walk W n0 b0 a1 w1).mono fun e W' ⟨he, bel⟩ => ?_
  subst he
  exact ⟨_, rfl, _, _, _, [], _, [], hW', trodAll_mk1 (shut_bool Try.underlying4 _), (trodAll_cons_mk (shut_int Try.underlying22 w0) (trodAll_cons_mk (shut_int Try.underlying3 w1) trodAll_mk0)), rfl, bel.frame _, fun h => by cases h⟩

theorem proved : Rows.DealWholeSaid :=
  OpenClaim.holds_of_wide 9 Try.f9 rfl rfl rfl rfl rfl rfl rfl ⟨rfl, rfl, rfl, rfl, rfl⟩ rfl rfl rfl rfl rfl (by kernel_rfl) Try.func9 (by kernel_rfl)
    (of_decide_eq_true (by kernel_rfl)) (by unfold Func.isWrapper; first | (rw [if_pos (by decide +kernel)]; kernel_rfl) | (rw [if_neg (by decide +kernel)]; exact ⟨rfl, rfl⟩))
    (fun os started H enc _ => lifted os started H enc)

end Go.Proofs.Ytggpldghdaggfaa.dealWhole
