/-
  VocabRanks: all joins are told, each once, by rising Ranks; each of them is found by its two tokens. No condition.
-/
import Derived.Test.YtgkmlcghkkpgpaaFrameV
import Derived.Test.YtgkmlcghkkpgpaaVoLaw
import Derived.Test.YtgkmlcghkkpgpaaVoStay
import Derived.Deep.QuietTactic
import Derived.BigQuiet
namespace Go.Proofs.Ytgkmlcghkkpgpaa.vocabRanks
open Go.ChangeShapes Go.WideShapes Go.ChangeAt Go.RowKit
open Go.ChangeMaps (open_string shut_string)
set_option linter.unusedVariables false

set_option maxHeartbeats 8000000 in
set_option maxRecDepth 100000 in
theorem walk (w : World) (v0 : Value) (l0 : List Vo.Pc) (h0 : Lv pK w w.heap.size v0 l0) :
    Calls Try.prog 10 #[.agg #[v0]] w (IsBool true w) := by
  by_cases hm : 700 < l0.length
  · skip
    have HM : Hid (decide (700 < l0.length) = true) := by unfold Hid; simpa using hm
    clear hm
    obtain ⟨W, hW⟩ : ∃ X, w.alloc (.cells #[v0] 24) = X := ⟨_, rfl⟩
    obtain ⟨db, hsz, hbb⟩ := boxed hW
    have HB0 := Lib.hid hbb
    have Fv_0 := Lib.hid ((h0.below_ hbb (Nat.le_refl _)).mono_ hbb.size)
    have Fbox_0 : Hid (BoxAt W W.heap.size w.heap.size v0) := ⟨by omega, db⟩
    obtain ⟨A, c, rfl, hc1, hc2, _, _⟩ := h0
    have hl0 : l0.length ≤ 9223372036854775807 := by simp only [maxLen] at hc2; omega
    have dbox_0 := Fbox_0.out.2
    clear hc1 hc2 hbb hsz db
    go_enter Try.func10, Try.ntmps10
    have C1 := Lib.hid (many_any l0 _ _ W Fv_0.out)
    rw [HM.out] at C1
    go_wp2_with (fail)
    refine (C1.out).mono ?_
    rintro e w1 ⟨rfl, b1⟩
    have HB1 := Lib.hid (HB0.out.trans (b1.mono HB0.out.size))
    have Fv_1 := Lib.hid ((Fv_0.out.below_ b1 (Nat.le_refl _)).mono_ b1.size)
    have Fbox_1 := Lib.hid ((Fbox_0.out.below_ b1 (Nat.le_refl _)).mono_ b1.size)
    have dbox_1 := Fbox_1.out.2
    clear C1 b1 HB0 Fv_0 Fbox_0 dbox_0
    clear Fv_1
    have C2 := Lib.hid (works_voc w1)
    go_wp2_with (fail)
    refine (C2.out).mono ?_
    rintro e w2 ⟨rfl, b2⟩
    have HB2 := Lib.hid (HB1.out.trans (b2.mono HB1.out.size))
    have Fbox_2 := Lib.hid ((Fbox_1.out.below_ b2 (Nat.le_refl _)).mono_ b2.size)
    have dbox_2 := Fbox_2.out.2
    clear C2 b2 HB1 Fbox_1 dbox_1
    go_wp2
    go_ret
    exact ⟨rfl, HB2.out⟩
  · skip
    have HM : Hid (decide (700 < l0.length) = false) := by unfold Hid; simpa using hm
    have HP : Hid (l0.length ≤ 700) := by unfold Hid; omega
    by_cases hmay : Vo.May l0
    · skip
      have HC : Hid (Vo.check l0 = (0, 0)) := Vo.check_may hmay
      have hg := (Vo.may_iff.1 hmay).2.1
      obtain ⟨y, hy⟩ : ∃ r, Vo.joinsTo l0 l0.length = r := ⟨_, rfl⟩
      have HY : Hid (Vo.joinsE l0 = y) := by unfold Hid Vo.joinsE; rw [if_pos hmay, hy]
      have HR : Hid (Vo.Rising l0 y) := by unfold Hid; rw [← hy]; exact Vo.rising_joins hg (Nat.le_refl _)
      have HJ : Hid (∀ t ∈ y, ∃ (T : Nat) (q : Vo.Pc), t = (T : Int) ∧ T < l0.length ∧ l0[T]? = some q ∧ q.join = true) := fun t h => by rw [← hy] at h; exact Vo.joinsTo_mem h
      obtain ⟨N, hN⟩ : ∃ n, Vo.joinCount l0 l0.length = n := ⟨_, rfl⟩
      have HN : Hid (y.length = N) := by unfold Hid; rw [← hy, ← hN]; exact Vo.joinCount_len (Nat.le_refl _)
      have HN2 : Hid (Vo.joinCount l0 l0.length = N) := hN
      have HCB : Hid (∀ k, Vo.joinCount l0 k ≤ k) := fun k => by
        induction k with
        | zero => exact Nat.le_refl _
        | succ k ih =>
          rw [Vo.joinCount]
          cases l0[k]? with
          | none => simp only; omega
          | some q => simp only; split <;> omega
      clear hm hy hg hmay hN
      obtain ⟨W, hW⟩ : ∃ X, w.alloc (.cells #[v0] 24) = X := ⟨_, rfl⟩
      obtain ⟨db, hsz, hbb⟩ := boxed hW
      have HB0 := Lib.hid hbb
      have Fv_0 := Lib.hid ((h0.below_ hbb (Nat.le_refl _)).mono_ hbb.size)
      have Fbox_0 : Hid (BoxAt W W.heap.size w.heap.size v0) := ⟨by omega, db⟩
      obtain ⟨A, c, rfl, hc1, hc2, _, _⟩ := h0
      have hl0 : l0.length ≤ 9223372036854775807 := by simp only [maxLen] at hc2; omega
      have dbox_0 := Fbox_0.out.2
      clear hc1 hc2 hbb hsz db
      go_enter Try.func10, Try.ntmps10
      have C1 := Lib.hid (many_any l0 _ _ W Fv_0.out)
      rw [HM.out] at C1
      go_wp2_with (fail)
      refine (C1.out).mono ?_
      rintro e w1 ⟨rfl, b1⟩
      have HB1 := Lib.hid (HB0.out.trans (b1.mono HB0.out.size))
      have Fv_1 := Lib.hid ((Fv_0.out.below_ b1 (Nat.le_refl _)).mono_ b1.size)
      have Fbox_1 := Lib.hid ((Fbox_0.out.below_ b1 (Nat.le_refl _)).mono_ b1.size)
      have dbox_1 := Fbox_1.out.2
      clear C1 b1 HB0 Fv_0 Fbox_0 dbox_0
      have C2 := Lib.hid (pjoins_any l0 _ _ w1 Fv_1.out (Nat.le_refl _) HP.out)
      rw [HY.out] at C2
      go_wp2_with (fail)
      refine (C2.out).mono ?_
      rintro e w2 ⟨A2, c2, rfl, o2, b2⟩
      have HB2 := Lib.hid (HB1.out.trans (b2.mono HB1.out.size))
      have Fv_2 := Lib.hid ((Fv_1.out.below_ b2 (Nat.le_refl _)).mono_ b2.size)
      have Fbox_2 := Lib.hid ((Fbox_1.out.below_ b2 (Nat.le_refl _)).mono_ b2.size)
      have dbox_2 := Fbox_2.out.2
      have Fm_2 := Lib.hid (o2.form_)
      clear C2 b2 HB1 Fv_1 Fbox_1 dbox_1 o2
      have C3 := Lib.hid (pcheck_any l0 _ _ w2 Fv_2.out (Nat.le_refl _))
      rw [HC.out] at C3
      go_wp2_with (fail)
      refine (C3.out).mono ?_
      rintro e w3 ⟨rfl, b3⟩
      have HB3 := Lib.hid (HB2.out.trans (b3.mono HB2.out.size))
      have Fv_3 := Lib.hid ((Fv_2.out.below_ b3 (Nat.le_refl _)).mono_ b3.size)
      have Fbox_3 := Lib.hid ((Fbox_2.out.below_ b3 (Nat.le_refl _)).mono_ b3.size)
      have Fm_3 := Lib.hid ((Fm_2.out.below_ b3 (Nat.le_refl _)).mono_ b3.size)
      have dbox_3 := Fbox_3.out.2
      clear C3 b3 HB2 Fv_2 Fbox_2 Fm_2 dbox_2
      have hyl : y.length ≤ 9223372036854775807 := by have := Fm_3.out.len_; simp only [maxLen] at this; omega
      go_wp2
      go_loop [6, 7] (fun mv i => ∃ j : Nat, j ≤ l0.length ∧ i = .int .i64 j ∧ mv = .int .i64 (Vo.joinCount l0 j : Nat)) (fun _ i => l0.length - (intOf i).toNat)
      case atStart => exact ⟨0, by omega, rfl, rfl⟩
      case round =>
        obtain ⟨j, hj, rfl, rfl⟩ := hrel
        by_cases hlt : j < l0.length
        · obtain ⟨pb, po, q, e, _, _, hq, q0, _, _, _, _⟩ := Fv_3.out.piece_ hlt
          have HA := Lib.hid e
          have hji : (j : Int) < (l0.length : Int) := by omega
          have hb := HCB.out j
          have hpl := HP.out
          have HK : Hid (j + 1 ≤ l0.length) := hlt
          have HS : Hid (Vo.joinCount l0 (j + 1) = if q.join = true then Vo.joinCount l0 j + 1 else Vo.joinCount l0 j) := by unfold Hid; rw [Vo.joinCount, hq]
          subst e
          cases hjn : q.join with
          | true =>
            rw [hjn] at q0
            have HS2 : Hid (Vo.joinCount l0 (j + 1) = Vo.joinCount l0 j + 1) := by unfold Hid; rw [HS.out, if_pos hjn]
            obtain ⟨m, hm⟩ : ∃ m, Vo.joinCount l0 j = m := ⟨_, rfl⟩
            rw [hm] at hb HS2 ⊢
            clear hq hjn hm HS
            go_wp2
            go_round
            case rel => exact ⟨j + 1, HK.out, by go_num, by rw [HS2.out]; go_num⟩
            case measure => simp [intOf]; omega
          | false =>
            rw [hjn] at q0
            have HS2 : Hid (Vo.joinCount l0 (j + 1) = Vo.joinCount l0 j) := by unfold Hid; rw [HS.out, if_neg (by rw [hjn]; simp)]
            clear hq hjn HS
            go_wp2
            go_round
            case rel => exact ⟨j + 1, HK.out, by go_num, by rw [HS2.out]⟩
            case measure => simp [intOf]; omega
        · obtain rfl : j = l0.length := by omega
          have hji : ¬ (l0.length : Int) < (l0.length : Int) := by omega
          rw [HN2.out]
          go_wp2
          go_loopw [8] (fun i wr => ∃ r : Nat, r ≤ y.length ∧ i = .int .i64 r ∧ Below w3.heap.size w3 wr) (fun i _ => y.length - (intOf i).toNat)
          case atStart => exact ⟨0, by omega, rfl, Below.refl _ _⟩
          case round =>
            obtain ⟨r, hr, rfl, hbr⟩ := hrel
            have hvr := Fv_3.out.below_ hbr (Nat.le_refl _)
            have hmr := Fm_3.out.below_ hbr (Nat.le_refl _)
            have dr := (Fbox_3.out.below_ hbr (Nat.le_refl _)).2
            have HBr := Lib.hid hbr
            clear dbox_3 hbr
            by_cases hlt2 : r < y.length
            · obtain ⟨mb, mo, t, e, _, _, ht, hct⟩ := hmr.int_ hlt2
              obtain ⟨T, q, rfl, hT, hq, hqj⟩ := HJ.out t (List.mem_of_getElem? ht)
              obtain ⟨pb, po, q', e', _, _, hq', c0, _, _, _, c4⟩ := hvr.piece_ hT
              rw [hq] at hq'
              obtain rfl := Option.some.inj hq'
              rw [hqj] at c0
              have hri : (r : Int) < (y.length : Int) := by omega
              have hTi : (T : Int) < (l0.length : Int) := by omega
              have hTi2 : ¬ (l0.length : Int) ≤ (T : Int) := by omega
              have hd1 : decide (l0.length ≤ T) = false := by simp; omega
              have hd0 : decide ((T : Int) < 0) = false := by simp
              have hT0 : ¬ (T : Int) < 0 := by omega
              have HK : Hid (r + 1 ≤ y.length) := hlt2
              by_cases hpos : 0 < r
              rotate_left
              · have hz1 : decide (0 < r) = false := by simp; omega
                have hz2 : ¬ (0 : Int) < (r : Int) := by omega
                subst e e'
                clear ht hq hqj hT hpos
                go_wp2
                go_quiet (fail)
                go_wp2
                go_roundw
                case rel => exact ⟨r + 1, HK.out, by go_num, below_drewN HBr.out _⟩
                case measure => simp [intOf]; omega
              · obtain ⟨s, hs⟩ : ∃ s, r = s + 1 := ⟨r - 1, by omega⟩
                obtain ⟨mb2, mo2, t2, e2, _, _, ht2, hct2⟩ := hmr.int_ (k := s) (by omega)
                obtain ⟨T2, q2, rfl, hT2, hq2, hqj2⟩ := HJ.out t2 (List.mem_of_getElem? ht2)
                obtain ⟨pb2, po2, q2', e2', _, _, hq2', _, _, _, _, c42⟩ := hvr.piece_ hT2
                rw [hq2] at hq2'
                obtain rfl := Option.some.inj hq2'
                rw [e] at e2
                obtain ⟨rfl, rfl⟩ : mb = mb2 ∧ mo = mo2 := by injection e2 with e2; injection e2 with x1 x2; exact ⟨x1, x2⟩
                rw [e'] at e2'
                obtain ⟨rfl, rfl⟩ : pb = pb2 ∧ po = po2 := by injection e2' with e2'; injection e2' with x1 x2; exact ⟨x1, x2⟩
                have hrise : q2.rank < q.rank := by
                  have h := List.pairwise_iff_getElem.1 HR.out s r (by omega) hlt2 (by omega)
                  have g1 := Option.some.inj ((List.getElem?_eq_getElem (show s < y.length by omega)).symm.trans ht2)
                  have g2 := Option.some.inj ((List.getElem?_eq_getElem hlt2).symm.trans ht)
                  rw [g1, g2, Vo.rankAt_of hq2, Vo.rankAt_of hq] at h
                  exact h
                have hd2 : decide (q.rank ≤ q2.rank) = false := by simp; omega
                have hw1 : IntKind.i64.wrap ((r : Int) - 1) = (s : Int) := by rw [IntKind.wrap_i64]; omega
                have hw2 : (r : Int) - 1 = (s : Int) := by omega
                have hz1 : decide (0 < r) = true := by simp; omega
                have hz2 : (0 : Int) < (r : Int) := by omega
                have hsi : (s : Int) < (y.length : Int) := by omega
                have hT2i : (T2 : Int) < (l0.length : Int) := by omega
                obtain ⟨x1, hx1⟩ : ∃ n, q.rank = n := ⟨_, rfl⟩
                obtain ⟨x2, hx2⟩ : ∃ n, q2.rank = n := ⟨_, rfl⟩
                rw [hx1] at c4 hd2
                rw [hx2] at c42 hd2
                subst e e'
                clear ht hq hqj hT ht2 hq2 hqj2 hT2 hrise hx1 hx2 hpos hs
                go_wp2
                go_quiet (fail)
                go_wp2
                go_roundw
                case rel => exact ⟨r + 1, HK.out, by go_num, below_drewN HBr.out _⟩
                case measure => simp [intOf]; omega
            · obtain rfl : r = y.length := by omega
              have hri : ¬ (y.length : Int) < (y.length : Int) := by omega
              have heq : ((y.length : Int) == (N : Int)) = true := by rw [HN.out]; simp
              have X1 := Lib.hid (HB3.out.trans (HBr.out.mono HB3.out.size))
              have CW := Lib.hid (works_voc wr)
              go_wp2_with (fail)
              refine (CW.out).mono ?_
              rintro e x1 ⟨rfl, b1⟩
              have X2 := Lib.hid (X1.out.trans (b1.mono X1.out.size))
              clear b1 CW
              go_wp2
              go_ret
              exact ⟨rfl, X2.out⟩
    · skip
      obtain ⟨E, T, hc, hE⟩ := Vo.check_bad hmay
      have HC := Lib.hid hc
      have heb : ((E : Int) != 0) = true := by rw [bne_iff_ne]; omega
      have HY : Hid (Vo.joinsE l0 = []) := by unfold Hid Vo.joinsE; rw [if_neg hmay]
      clear hm hmay hc hE
      obtain ⟨W, hW⟩ : ∃ X, w.alloc (.cells #[v0] 24) = X := ⟨_, rfl⟩
      obtain ⟨db, hsz, hbb⟩ := boxed hW
      have HB0 := Lib.hid hbb
      have Fv_0 := Lib.hid ((h0.below_ hbb (Nat.le_refl _)).mono_ hbb.size)
      have Fbox_0 : Hid (BoxAt W W.heap.size w.heap.size v0) := ⟨by omega, db⟩
      obtain ⟨A, c, rfl, hc1, hc2, _, _⟩ := h0
      have hl0 : l0.length ≤ 9223372036854775807 := by simp only [maxLen] at hc2; omega
      have dbox_0 := Fbox_0.out.2
      clear hc1 hc2 hbb hsz db
      go_enter Try.func10, Try.ntmps10
      have C1 := Lib.hid (many_any l0 _ _ W Fv_0.out)
      rw [HM.out] at C1
      go_wp2_with (fail)
      refine (C1.out).mono ?_
      rintro e w1 ⟨rfl, b1⟩
      have HB1 := Lib.hid (HB0.out.trans (b1.mono HB0.out.size))
      have Fv_1 := Lib.hid ((Fv_0.out.below_ b1 (Nat.le_refl _)).mono_ b1.size)
      have Fbox_1 := Lib.hid ((Fbox_0.out.below_ b1 (Nat.le_refl _)).mono_ b1.size)
      have dbox_1 := Fbox_1.out.2
      clear C1 b1 HB0 Fv_0 Fbox_0 dbox_0
      have C2 := Lib.hid (pjoins_any l0 _ _ w1 Fv_1.out (Nat.le_refl _) HP.out)
      rw [HY.out] at C2
      go_wp2_with (fail)
      refine (C2.out).mono ?_
      rintro e w2 ⟨A2, c2, rfl, o2, b2⟩
      have HB2 := Lib.hid (HB1.out.trans (b2.mono HB1.out.size))
      have Fv_2 := Lib.hid ((Fv_1.out.below_ b2 (Nat.le_refl _)).mono_ b2.size)
      have Fbox_2 := Lib.hid ((Fbox_1.out.below_ b2 (Nat.le_refl _)).mono_ b2.size)
      have dbox_2 := Fbox_2.out.2
      have Fm_2 := Lib.hid (o2.form_)
      clear C2 b2 HB1 Fv_1 Fbox_1 dbox_1 o2
      have C3 := Lib.hid (pcheck_any l0 _ _ w2 Fv_2.out (Nat.le_refl _))
      rw [HC.out] at C3
      go_wp2_with (fail)
      refine (C3.out).mono ?_
      rintro e w3 ⟨rfl, b3⟩
      have HB3 := Lib.hid (HB2.out.trans (b3.mono HB2.out.size))
      have Fv_3 := Lib.hid ((Fv_2.out.below_ b3 (Nat.le_refl _)).mono_ b3.size)
      have Fbox_3 := Lib.hid ((Fbox_2.out.below_ b3 (Nat.le_refl _)).mono_ b3.size)
      have Fm_3 := Lib.hid ((Fm_2.out.below_ b3 (Nat.le_refl _)).mono_ b3.size)
      have dbox_3 := Fbox_3.out.2
      clear C3 b3 HB2 Fv_2 Fbox_2 Fm_2 dbox_2
      clear Fv_3
      clear Fm_3
      have C4 := Lib.hid (works_voc w3)
      go_wp2_with (fail)
      refine (C4.out).mono ?_
      rintro e w4 ⟨rfl, b4⟩
      have HB4 := Lib.hid (HB3.out.trans (b4.mono HB3.out.size))
      have Fbox_4 := Lib.hid ((Fbox_3.out.below_ b4 (Nat.le_refl _)).mono_ b4.size)
      have dbox_4 := Fbox_4.out.2
      clear C4 b4 HB3 Fbox_3 dbox_3
      go_wp2
      go_ret
      exact ⟨rfl, HB4.out⟩

/-! ### From the walk to the row -/
set_option maxRecDepth 100000 in
theorem lifted (os : Os) (started : os.Started) (H : Type) (enc : TypeId × Value → H) :
    ReturnsInHanded {} Try.checked os 10 .any (Rows.vocabRanksSpec.pre6 enc Try.prog Try.f10 Rows.vocabRanksRow.domain false) (Rows.vocabRanksSpec.post enc Try.prog Try.f10 false true false false) := by
  refine returnsInHanded_of_change (C := Try.checked) own started (by kernel_rfl) Try.func10
    (ChangeSpec.witness6 (enc := enc) (C := Try.checked) false ⟨#[], #[.agg #[.slice none 0 0]], []⟩ 8 (by kernel_rfl) (by kernel_rfl) (by kernel_rfl) (by kernel_rfl)) ?_
  intro W base args ds gs before hval0 hW hcnd _
  have hval : ∀ (j : Nat) t v, Try.f10.params[j]? = some t → args[j]? = some v → Value.okWide Try.prog W .any base t v := hval0
  have hW' := hW
  obtain ⟨p, q, hA0, hV, rfl, hfz, hnd⟩ := hW
  have hA : DataW.TrodAll enc Try.prog W 0 (fun _ => true) true Try.f10.params.toList args.toList ds p := hA0
  rw [Try.params10] at hA hval
  obtain ⟨v0, vs0, d0, ds0, p0, q0, hargs, rfl, rfl, h0, r0⟩ := trodAll_cons hA
  obtain ⟨rfl, rfl, rfl⟩ := trodAll_nil r0
  obtain rfl : args = #[v0] := by cases args; simp_all
  obtain ⟨rfl, rfl⟩ := trodVars_none hV
  have k0 := h0
  have lt0 : ∀ x ∈ p0, x.block < W.heap.size := by obtain ⟨m, hm⟩ := k0; exact DataW.trod_lt m _ _ _ hm
  obtain ⟨u0, l0, rfl, hb0⟩ := voc_in (hval 0 24 v0 rfl rfl) h0
  clear hA0 hval0
  refine (walk W u0 l0 hb0).mono fun e W' ⟨he, bel⟩ => ?_
  subst he
  exact ⟨_, rfl, _, _, _, [], _, [], hW', trodAll_mk1 (shut_bool Try.underlying4 _), (trodAll_cons_mk (Below.trod laidOut (by kernel_rfl) (of_decide_eq_true (by kernel_rfl)) k0 bel lt0) trodAll_mk0), rfl, bel.frame _, fun h => by cases h⟩

theorem proved : Rows.VocabRanksSaid :=
  OpenClaim.holds_of_wide 10 Try.f10 rfl rfl rfl rfl rfl rfl rfl ⟨rfl, rfl, rfl, rfl, rfl⟩ rfl rfl rfl rfl rfl (by kernel_rfl) Try.func10 (by kernel_rfl)
    (of_decide_eq_true (by kernel_rfl)) (by unfold Func.isWrapper; first | (rw [if_pos (by decide +kernel)]; kernel_rfl) | (rw [if_neg (by decide +kernel)]; exact ⟨rfl, rfl⟩))
    (fun os started H enc _ => lifted os started H enc)

end Go.Proofs.Ytgkmlcghkkpgpaa.vocabRanks
