/-
  BpeSplits: a byte that no join has as its left or right token parts a document. No condition.
-/
import Derived.Test.YtaedhccmdbodlaaPk29
import Derived.Test.YtaedhccmdbodlaaPk32
import Derived.Test.YtaedhccmdbodlaaPk31
import Derived.BigQuiet
namespace Go.Proofs.Ytaedhccmdbodlaa.bpeSplits
open Go.ChangeShapes Go.WideShapes Go.ChangeAt Go.RowKit
open Go.ChangeMaps (open_string shut_string)
set_option linter.unusedVariables false

set_option maxHeartbeats 8000000 in
set_option maxRecDepth 100000 in
theorem walk (w : World) (v0 : Value) (l0 : List Vo.Pc) (h0 : Lv pK w w.heap.size v0 l0) (v1 : Value) (l1 : List Nat) (g1 : Bv w w.heap.size v1 l1) (v2 : Value) (l2 : List Nat) (g2 : Bv w w.heap.size v2 l2) (n3 : Nat) (b3 : n3 < 256) (r1 : l1.length * 1 ≤ 140737488351232) (r2 : l2.length * 1 ≤ 140737488351232) :
    Calls Try.prog 11 #[.agg #[v0], v1, v2, .int .u8 n3] w (IsBool true w) := by
  have h1 := g1.lv_
  have h2 := g2.lv_
  clear g1 g2
  obtain ⟨A1, c1', rfl, hd1, hd2, _, _⟩ := id h1
  have hl1 : l1.length ≤ 9223372036854775807 := by simp only [maxLen] at hd2; omega
  have H1 := Lib.hid h1
  have HI1 : I64 ((l1.length : Nat) : Int) := by unfold I64; omega
  clear hd1 hd2 h1
  obtain ⟨A2, c2', rfl, hd1, hd2, _, _⟩ := id h2
  have hl2 : l2.length ≤ 9223372036854775807 := by simp only [maxLen] at hd2; omega
  have H2 := Lib.hid h2
  have HI2 : I64 ((l2.length : Nat) : Int) := by unfold I64; omega
  clear hd1 hd2 h2
  by_cases hm1 : 500 < l0.length ∨ (300 < ((l1.length : Nat) : Int) ∧ ((l1.length : Nat) : Int) ≤ 4096)
  · skip
    have HM1 : Hid (decide (500 < l0.length ∨ (300 < ((l1.length : Nat) : Int) ∧ ((l1.length : Nat) : Int) ≤ 4096)) = true) := decide_eq_true hm1
    clear hm1
    obtain ⟨W, hW⟩ : ∃ X, w.alloc (.cells #[v0] 24) = X := ⟨_, rfl⟩
    obtain ⟨db, hsz, hbb⟩ := boxed hW
    have HB0 := Lib.hid hbb
    have Fv_0 := Lib.hid ((h0.below_ hbb (Nat.le_refl _)).mono_ hbb.size)
    have Fbox_0 : Hid (BoxAt W W.heap.size w.heap.size v0) := ⟨by omega, db⟩
    obtain ⟨A, c, rfl, hc1, hc2, _, _⟩ := h0
    have hl0 : l0.length ≤ 9223372036854775807 := by simp only [maxLen] at hc2; omega
    have dbox_0 := Fbox_0.out.2
    clear hc1 hc2 hbb hsz db
    go_enter Try.func11, Try.ntmps11
    have C1 := Lib.hid (rlong_any l0 _ ((l1.length : Nat) : Int) HI1 _ W Fv_0.out)
    rw [HM1.out] at C1
    go_wp2_with (fail)
    refine (C1.out).mono ?_
    rintro e w1 ⟨rfl, b1⟩
    have HB1 := Lib.hid (HB0.out.trans (b1.mono HB0.out.size))
    have Fv_1 := Lib.hid ((Fv_0.out.below_ b1 (Nat.le_refl _)).mono_ b1.size)
    have Fbox_1 := Lib.hid ((Fbox_0.out.below_ b1 (Nat.le_refl _)).mono_ b1.size)
    have dbox_1 := Fbox_1.out.2
    clear C1 b1 HB0 Fv_0 Fbox_0 dbox_0
    clear Fv_1
    have C2 := Lib.hid (works_bp w1)
    go_wp2_with (fail)
    refine (C2.out).mono ?_
    rintro e w2 ⟨rfl, b2⟩
    have HB2 := Lib.hid (HB1.out.trans (b2.mono HB1.out.size))
    have Fbox_2 := Lib.hid ((Fbox_1.out.below_ b2 (Nat.le_refl _)).mono_ b2.size)
    have dbox_2 := Fbox_2.out.2
    clear C2 b2 HB1 Fbox_1 dbox_1
    go_wp2
    go_ret
    exact ⟨rfl, HB2.out⟩
  · skip
    have HM1 : Hid (decide (500 < l0.length ∨ (300 < ((l1.length : Nat) : Int) ∧ ((l1.length : Nat) : Int) ≤ 4096)) = false) := decide_eq_false hm1
    by_cases hm2 : 500 < l0.length ∨ (300 < ((l2.length : Nat) : Int) ∧ ((l2.length : Nat) : Int) ≤ 4096)
    · skip
      have HM2 : Hid (decide (500 < l0.length ∨ (300 < ((l2.length : Nat) : Int) ∧ ((l2.length : Nat) : Int) ≤ 4096)) = true) := decide_eq_true hm2
      clear hm1 hm2
      obtain ⟨W, hW⟩ : ∃ X, w.alloc (.cells #[v0] 24) = X := ⟨_, rfl⟩
      obtain ⟨db, hsz, hbb⟩ := boxed hW
      have HB0 := Lib.hid hbb
      have Fv_0 := Lib.hid ((h0.below_ hbb (Nat.le_refl _)).mono_ hbb.size)
      have Fbox_0 : Hid (BoxAt W W.heap.size w.heap.size v0) := ⟨by omega, db⟩
      obtain ⟨A, c, rfl, hc1, hc2, _, _⟩ := h0
      have hl0 : l0.length ≤ 9223372036854775807 := by simp only [maxLen] at hc2; omega
      have dbox_0 := Fbox_0.out.2
      clear hc1 hc2 hbb hsz db
      go_enter Try.func11, Try.ntmps11
      have C1 := Lib.hid (rlong_any l0 _ ((l1.length : Nat) : Int) HI1 _ W Fv_0.out)
      rw [HM1.out] at C1
      go_wp2_with (fail)
      refine (C1.out).mono ?_
      rintro e w1 ⟨rfl, b1⟩
      have HB1 := Lib.hid (HB0.out.trans (b1.mono HB0.out.size))
      have Fv_1 := Lib.hid ((Fv_0.out.below_ b1 (Nat.le_refl _)).mono_ b1.size)
      have Fbox_1 := Lib.hid ((Fbox_0.out.below_ b1 (Nat.le_refl _)).mono_ b1.size)
      have dbox_1 := Fbox_1.out.2
      clear C1 b1 HB0 Fv_0 Fbox_0 dbox_0
      have C2 := Lib.hid (rlong_any l0 _ ((l2.length : Nat) : Int) HI2 _ w1 Fv_1.out)
      rw [HM2.out] at C2
      go_wp2_with (fail)
      refine (C2.out).mono ?_
      rintro e w2 ⟨rfl, b2⟩
      have HB2 := Lib.hid (HB1.out.trans (b2.mono HB1.out.size))
      have Fv_2 := Lib.hid ((Fv_1.out.below_ b2 (Nat.le_refl _)).mono_ b2.size)
      have Fbox_2 := Lib.hid ((Fbox_1.out.below_ b2 (Nat.le_refl _)).mono_ b2.size)
      have dbox_2 := Fbox_2.out.2
      clear C2 b2 HB1 Fv_1 Fbox_1 dbox_1
      clear Fv_2
      have C3 := Lib.hid (works_bp w2)
      go_wp2_with (fail)
      refine (C3.out).mono ?_
      rintro e w3 ⟨rfl, b3⟩
      have HB3 := Lib.hid (HB2.out.trans (b3.mono HB2.out.size))
      have Fbox_3 := Lib.hid ((Fbox_2.out.below_ b3 (Nat.le_refl _)).mono_ b3.size)
      have dbox_3 := Fbox_3.out.2
      clear C3 b3 HB2 Fbox_2 dbox_2
      go_wp2
      go_ret
      exact ⟨rfl, HB3.out⟩
    · skip
      have HM2 : Hid (decide (500 < l0.length ∨ (300 < ((l2.length : Nat) : Int) ∧ ((l2.length : Nat) : Int) ≤ 4096)) = false) := decide_eq_false hm2
      have ws : IntKind.i64.wrap ((l1.length : Int) + (l2.length : Int)) = (l1.length : Int) + (l2.length : Int) := by rw [IntKind.wrap_i64]; omega
      by_cases hs : 300 < l1.length + l2.length
      · skip
        have hsi : (300 : Int) < (l1.length : Int) + (l2.length : Int) := by omega
        clear hm1 hm2 hs
        obtain ⟨W, hW⟩ : ∃ X, w.alloc (.cells #[v0] 24) = X := ⟨_, rfl⟩
        obtain ⟨db, hsz, hbb⟩ := boxed hW
        have HB0 := Lib.hid hbb
        have Fv_0 := Lib.hid ((h0.below_ hbb (Nat.le_refl _)).mono_ hbb.size)
        have Fbox_0 : Hid (BoxAt W W.heap.size w.heap.size v0) := ⟨by omega, db⟩
        obtain ⟨A, c, rfl, hc1, hc2, _, _⟩ := h0
        have hl0 : l0.length ≤ 9223372036854775807 := by simp only [maxLen] at hc2; omega
        have dbox_0 := Fbox_0.out.2
        clear hc1 hc2 hbb hsz db
        go_enter Try.func11, Try.ntmps11
        have C1 := Lib.hid (rlong_any l0 _ ((l1.length : Nat) : Int) HI1 _ W Fv_0.out)
        rw [HM1.out] at C1
        go_wp2_with (fail)
        refine (C1.out).mono ?_
        rintro e w1 ⟨rfl, b1⟩
        have HB1 := Lib.hid (HB0.out.trans (b1.mono HB0.out.size))
        have Fv_1 := Lib.hid ((Fv_0.out.below_ b1 (Nat.le_refl _)).mono_ b1.size)
        have Fbox_1 := Lib.hid ((Fbox_0.out.below_ b1 (Nat.le_refl _)).mono_ b1.size)
        have dbox_1 := Fbox_1.out.2
        clear C1 b1 HB0 Fv_0 Fbox_0 dbox_0
        have C2 := Lib.hid (rlong_any l0 _ ((l2.length : Nat) : Int) HI2 _ w1 Fv_1.out)
        rw [HM2.out] at C2
        go_wp2_with (fail)
        refine (C2.out).mono ?_
        rintro e w2 ⟨rfl, b2⟩
        have HB2 := Lib.hid (HB1.out.trans (b2.mono HB1.out.size))
        have Fv_2 := Lib.hid ((Fv_1.out.below_ b2 (Nat.le_refl _)).mono_ b2.size)
        have Fbox_2 := Lib.hid ((Fbox_1.out.below_ b2 (Nat.le_refl _)).mono_ b2.size)
        have dbox_2 := Fbox_2.out.2
        clear C2 b2 HB1 Fv_1 Fbox_1 dbox_1
        clear Fv_2
        have C3 := Lib.hid (works_bp w2)
        go_wp2_with (fail)
        refine (C3.out).mono ?_
        rintro e w3 ⟨rfl, b3⟩
        have HB3 := Lib.hid (HB2.out.trans (b3.mono HB2.out.size))
        have Fbox_3 := Lib.hid ((Fbox_2.out.below_ b3 (Nat.le_refl _)).mono_ b3.size)
        have dbox_3 := Fbox_3.out.2
        clear C3 b3 HB2 Fbox_2 dbox_2
        go_wp2
        go_ret
        exact ⟨rfl, HB3.out⟩
      · skip
        have hsi : ¬ (300 : Int) < (l1.length : Int) + (l2.length : Int) := by omega
        have HP : Hid (l0.length ≤ 501) := by unfold Hid; omega
        have HS := Lib.hid hs
        have hl5 : l0.length ≤ 500 := by omega
        have HF1 : Hid (Bp.Few l1.length) := by unfold Hid Bp.Few; omega
        have HF2 : Hid (Bp.Few l2.length) := by unfold Hid Bp.Few; omega
        have HFA : Hid (Bp.Few (l1 ++ n3 :: l2).length) := by unfold Hid Bp.Few; simp only [List.length_append, List.length_cons]; omega
        have HFO : Hid (Bp.Few [n3].length) := by unfold Hid Bp.Few; simp
        have HN3 := Lib.hid b3
        have hok : ∀ q ∈ l0, q.byte < 256 := fun q hq => (h0.ok_ q hq).1
        clear hm1 hm2 r1 r2
        by_cases hmay : Vo.May l0
        · skip
          have HTL : Hid (Vo.tokenOf l0 n3 < l0.length) := Vo.tokenOf_lt hmay hok HN3.out
          have HSP : Hid ((∀ q ∈ l0, q.join = true → q.left ≠ ((Vo.tokenOf l0 n3 : Nat) : Int) ∧ q.right ≠ ((Vo.tokenOf l0 n3 : Nat) : Int)) → Bp.enc l0 (l1 ++ n3 :: l2) = Bp.enc l0 l1 ++ ((Vo.tokenOf l0 n3 : Nat) : Int) :: Bp.enc l0 l2) := fun h => Bp.enc_split h
          have hE : ∀ b : List Nat, b.length ≤ 4096 → Bp.encE l0 b = (Bp.enc l0 b, 0) := fun b hb => (if_pos hmay).trans (if_neg (by omega))
          have HEA : Hid (Bp.encE l0 (l1 ++ n3 :: l2) = (Bp.enc l0 (l1 ++ n3 :: l2), 0)) := hE _ (by simp only [List.length_append, List.length_cons]; omega)
          have HE1 : Hid (Bp.encE l0 l1 = (Bp.enc l0 l1, 0)) := hE _ (by omega)
          have HE2 : Hid (Bp.encE l0 l2 = (Bp.enc l0 l2, 0)) := hE _ (by omega)
          have HEO : Hid (Bp.beginE l0 [n3] = ([((Vo.tokenOf l0 n3 : Nat) : Int)], 0)) := (if_pos hmay).trans (if_neg (by simp))
          have HLX : Hid ((Bp.enc l0 l1).length ≤ l1.length ∧ (Bp.enc l0 l2).length ≤ l2.length) := ⟨Bp.enc_len, Bp.enc_len⟩
          obtain ⟨T, hT⟩ : ∃ T, Vo.tokenOf l0 n3 = T := ⟨_, rfl⟩
          obtain ⟨za, hza⟩ : ∃ z, Bp.enc l0 (l1 ++ n3 :: l2) = z := ⟨_, rfl⟩
          obtain ⟨xa, hxa⟩ : ∃ z, Bp.enc l0 l1 = z := ⟨_, rfl⟩
          obtain ⟨ya, hya⟩ : ∃ z, Bp.enc l0 l2 = z := ⟨_, rfl⟩
          rw [hT] at HTL HSP HEO
          rw [hza] at HSP HEA
          rw [hxa] at HSP HE1 HLX
          rw [hya] at HSP HE2 HLX
          clear hmay hok hE hT hza hxa hya hs
          obtain ⟨W, hW⟩ : ∃ X, w.alloc (.cells #[v0] 24) = X := ⟨_, rfl⟩
          obtain ⟨db, hsz, hbb⟩ := boxed hW
          have HB0 := Lib.hid hbb
          have Fv_0 := Lib.hid ((h0.below_ hbb (Nat.le_refl _)).mono_ hbb.size)
          have Fbox_0 : Hid (BoxAt W W.heap.size w.heap.size v0) := ⟨by omega, db⟩
          obtain ⟨A, c, rfl, hc1, hc2, _, _⟩ := h0
          have hl0 : l0.length ≤ 9223372036854775807 := by simp only [maxLen] at hc2; omega
          have dbox_0 := Fbox_0.out.2
          clear hc1 hc2 hbb hsz db
          go_enter Try.func11, Try.ntmps11
          have Fb_0 := Lib.hid ((H1.out.below_ HB0.out (Nat.le_refl _)).mono_ HB0.out.size)
          have Fd_0 := Lib.hid ((H2.out.below_ HB0.out (Nat.le_refl _)).mono_ HB0.out.size)
          have C1 := Lib.hid (rlong_any l0 _ ((l1.length : Nat) : Int) HI1 _ W Fv_0.out)
          rw [HM1.out] at C1
          go_wp2_with (fail)
          refine (C1.out).mono ?_
          rintro e w1 ⟨rfl, b1⟩
          have HB1 := Lib.hid (HB0.out.trans (b1.mono HB0.out.size))
          have Fv_1 := Lib.hid ((Fv_0.out.below_ b1 (Nat.le_refl _)).mono_ b1.size)
          have Fbox_1 := Lib.hid ((Fbox_0.out.below_ b1 (Nat.le_refl _)).mono_ b1.size)
          have Fb_1 := Lib.hid ((Fb_0.out.below_ b1 (Nat.le_refl _)).mono_ b1.size)
          have Fd_1 := Lib.hid ((Fd_0.out.below_ b1 (Nat.le_refl _)).mono_ b1.size)
          have dbox_1 := Fbox_1.out.2
          clear C1 b1 HB0 Fv_0 Fbox_0 Fb_0 Fd_0 dbox_0
          have C2 := Lib.hid (rlong_any l0 _ ((l2.length : Nat) : Int) HI2 _ w1 Fv_1.out)
          rw [HM2.out] at C2
          go_wp2_with (fail)
          refine (C2.out).mono ?_
          rintro e w2 ⟨rfl, b2⟩
          have HB2 := Lib.hid (HB1.out.trans (b2.mono HB1.out.size))
          have Fv_2 := Lib.hid ((Fv_1.out.below_ b2 (Nat.le_refl _)).mono_ b2.size)
          have Fbox_2 := Lib.hid ((Fbox_1.out.below_ b2 (Nat.le_refl _)).mono_ b2.size)
          have Fb_2 := Lib.hid ((Fb_1.out.below_ b2 (Nat.le_refl _)).mono_ b2.size)
          have Fd_2 := Lib.hid ((Fd_1.out.below_ b2 (Nat.le_refl _)).mono_ b2.size)
          have dbox_2 := Fbox_2.out.2
          clear C2 b2 HB1 Fv_1 Fbox_1 Fb_1 Fd_1 dbox_1
          have h300 := HS.out
          go_wp2_with (at_builtin; go_must (refine wpList_append_m _ yK rfl _ _ rfl w2.heap.size (.slice none 0 0) rfl [] (OwnL.nil_ _ _ _) _ rfl _ l1 Fb_2.out (by show (_ + _) * 1 ≤ _; simp only [List.length_nil]; omega) (by simp only [List.length_nil, maxLen]; omega) (Nat.le_refl _) ?_))
          intro A5 c5 w5 hA hG hM
          have HG5 := Lib.hid ((Below.refl w2.heap.size w2).grown hG (Nat.le_refl _) (by intro k hk; cases hk))
          have HA5 : Hid (OwnL yK w5 w2.heap.size (.slice A5 l1.length c5) l1) := by unfold Hid; simpa using hA
          clear hA hG hM
          go_wp2_with (at_builtin; go_must (refine wpList_push_m _ yK rfl _ _ rfl w2.heap.size (.slice A5 l1.length c5) rfl l1 HA5.out rfl n3 HN3.out _ rfl _ rfl (by show _ * 1 ≤ _; omega) (by simp only [maxLen]; omega) HG5.out.size ?_))
          intro A6 c6 w6 hA hG hM
          have HG6 := Lib.hid (HG5.out.grown hG HG5.out.size (fun k hk => (HA5.out.lt_ k hk).1))
          have HA6 := Lib.hid hA
          have HD6 := Lib.hid (Fd_2.out.below_ HG6.out (Nat.le_refl _))
          clear hA hG hM HA5 HG5
          go_wp2_with (at_builtin; go_must (refine wpList_append_m _ yK rfl _ _ rfl w2.heap.size (.slice A6 (l1.length + 1) c6) rfl (l1 ++ [n3]) HA6.out _ rfl _ l2 HD6.out (by show (_ + _) * 1 ≤ _; simp; omega) (by simp [maxLen]; omega) HG6.out.size ?_))
          intro A7 c7 w7 hA hG hM
          have hg7 := (HG6.out.grown hG HG6.out.size (fun k hk => (HA6.out.lt_ k hk).1))
          have HAL : Hid (OwnL yK w7 w2.heap.size (.slice A7 (l1.length + (l2.length + 1)) c7) (l1 ++ n3 :: l2)) := hA
          clear hA hG hM HA6 HG6 HD6
          have b3 := hg7
          have HB3 := Lib.hid (HB2.out.trans (b3.mono HB2.out.size))
          have Fv_3 := Lib.hid ((Fv_2.out.below_ b3 (Nat.le_refl _)).mono_ b3.size)
          have Fbox_3 := Lib.hid ((Fbox_2.out.below_ b3 (Nat.le_refl _)).mono_ b3.size)
          have Fb_3 := Lib.hid ((Fb_2.out.below_ b3 (Nat.le_refl _)).mono_ b3.size)
          have Fd_3 := Lib.hid ((Fd_2.out.below_ b3 (Nat.le_refl _)).mono_ b3.size)
          have dbox_3 := Fbox_3.out.2
          clear b3 HB2 Fv_2 Fbox_2 Fb_2 Fd_2 dbox_2
          clear hg7
          have Fall_3 := Lib.hid HAL.out.form_
          clear HAL
          have C4 := Lib.hid (pencode_any l0 _ (l1 ++ n3 :: l2) _ _ w7 Fv_3.out Fall_3.out (Nat.le_refl _) HP.out HFA.out)
          rw [HEA.out] at C4
          go_wp2_with (fail)
          refine (C4.out).mono ?_
          rintro e w4 ⟨A4, c4, rfl, o4, b4⟩
          have HB4 := Lib.hid (HB3.out.trans (b4.mono HB3.out.size))
          have Fv_4 := Lib.hid ((Fv_3.out.below_ b4 (Nat.le_refl _)).mono_ b4.size)
          have Fbox_4 := Lib.hid ((Fbox_3.out.below_ b4 (Nat.le_refl _)).mono_ b4.size)
          have Fb_4 := Lib.hid ((Fb_3.out.below_ b4 (Nat.le_refl _)).mono_ b4.size)
          have Fd_4 := Lib.hid ((Fd_3.out.below_ b4 (Nat.le_refl _)).mono_ b4.size)
          have Fall_4 := Lib.hid ((Fall_3.out.below_ b4 (Nat.le_refl _)).mono_ b4.size)
          have dbox_4 := Fbox_4.out.2
          have Fz_4 := Lib.hid (o4.form_)
          clear C4 b4 HB3 Fv_3 Fbox_3 Fb_3 Fd_3 Fall_3 dbox_3 o4
          clear Fall_4
          have C5 := Lib.hid (pencode_any l0 _ l1 _ _ w4 Fv_4.out Fb_4.out (Nat.le_refl _) HP.out HF1.out)
          rw [HE1.out] at C5
          go_wp2_with (fail)
          refine (C5.out).mono ?_
          rintro e w5 ⟨A5, c5, rfl, o5, b5⟩
          have HB5 := Lib.hid (HB4.out.trans (b5.mono HB4.out.size))
          have Fv_5 := Lib.hid ((Fv_4.out.below_ b5 (Nat.le_refl _)).mono_ b5.size)
          have Fbox_5 := Lib.hid ((Fbox_4.out.below_ b5 (Nat.le_refl _)).mono_ b5.size)
          have Fb_5 := Lib.hid ((Fb_4.out.below_ b5 (Nat.le_refl _)).mono_ b5.size)
          have Fd_5 := Lib.hid ((Fd_4.out.below_ b5 (Nat.le_refl _)).mono_ b5.size)
          have Fz_5 := Lib.hid ((Fz_4.out.below_ b5 (Nat.le_refl _)).mono_ b5.size)
          have dbox_5 := Fbox_5.out.2
          have Fx_5 := Lib.hid (o5.form_)
          clear C5 b5 HB4 Fv_4 Fbox_4 Fb_4 Fd_4 Fz_4 dbox_4 o5
          have C6 := Lib.hid (pencode_any l0 _ l2 _ _ w5 Fv_5.out Fd_5.out (Nat.le_refl _) HP.out HF2.out)
          rw [HE2.out] at C6
          go_wp2_with (fail)
          refine (C6.out).mono ?_
          rintro e w6 ⟨A6, c6, rfl, o6, b6⟩
          have HB6 := Lib.hid (HB5.out.trans (b6.mono HB5.out.size))
          have Fv_6 := Lib.hid ((Fv_5.out.below_ b6 (Nat.le_refl _)).mono_ b6.size)
          have Fbox_6 := Lib.hid ((Fbox_5.out.below_ b6 (Nat.le_refl _)).mono_ b6.size)
          have Fb_6 := Lib.hid ((Fb_5.out.below_ b6 (Nat.le_refl _)).mono_ b6.size)
          have Fd_6 := Lib.hid ((Fd_5.out.below_ b6 (Nat.le_refl _)).mono_ b6.size)
          have Fz_6 := Lib.hid ((Fz_5.out.below_ b6 (Nat.le_refl _)).mono_ b6.size)
          have Fx_6 := Lib.hid ((Fx_5.out.below_ b6 (Nat.le_refl _)).mono_ b6.size)
          have dbox_6 := Fbox_6.out.2
          have Fy_6 := Lib.hid (o6.form_)
          clear C6 b6 HB5 Fv_5 Fbox_5 Fb_5 Fd_5 Fz_5 Fx_5 dbox_5 o6
          clear Fb_6
          clear Fd_6
          obtain ⟨Y, hY⟩ : ∃ Y, w6.alloc (.cells #[.int .u8 (n3 : Nat)] 5) = Y := ⟨_, rfl⟩
          have hby : Below w6.heap.size w6 Y := by rw [← hY]; exact (Below.refl _ _).alloc (Nat.le_refl _) _
          have hon := Lv.lit_ (K := (yK : El Try.prog Nat)) w6 (x := n3) HN3.out
          change Lv yK (w6.alloc (.cells #[.int .u8 (n3 : Nat)] 5)) _ _ _ at hon
          rw [hY] at hon
          have HSY : Hid (Y.heap.size = w6.heap.size + 1) := by unfold Hid; rw [← hY]; simp
          have dq := dbox_6
          have b7 := hby
          have HB7 := Lib.hid (HB6.out.trans (b7.mono HB6.out.size))
          have Fv_7 := Lib.hid ((Fv_6.out.below_ b7 (Nat.le_refl _)).mono_ b7.size)
          have Fbox_7 := Lib.hid ((Fbox_6.out.below_ b7 (Nat.le_refl _)).mono_ b7.size)
          have Fz_7 := Lib.hid ((Fz_6.out.below_ b7 (Nat.le_refl _)).mono_ b7.size)
          have Fx_7 := Lib.hid ((Fx_6.out.below_ b7 (Nat.le_refl _)).mono_ b7.size)
          have Fy_7 := Lib.hid ((Fy_6.out.below_ b7 (Nat.le_refl _)).mono_ b7.size)
          have dbox_7 := Fbox_7.out.2
          clear b7 HB6 Fv_6 Fbox_6 Fz_6 Fx_6 Fy_6 dbox_6
          have Fon_7 := Lib.hid (hon.mono_ (Nat.le_of_eq HSY.out.symm))
          clear hby hon
          have C8 := Lib.hid (pbegin_any l0 _ [n3] _ _ Y Fv_7.out Fon_7.out (Nat.le_refl _) HP.out HFO.out)
          rw [HEO.out] at C8
          go_wp2_with (fail)
          refine (C8.out).mono ?_
          rintro e w8 ⟨A8, c8, rfl, o8, b8⟩
          have HB8 := Lib.hid (HB7.out.trans (b8.mono HB7.out.size))
          have Fv_8 := Lib.hid ((Fv_7.out.below_ b8 (Nat.le_refl _)).mono_ b8.size)
          have Fbox_8 := Lib.hid ((Fbox_7.out.below_ b8 (Nat.le_refl _)).mono_ b8.size)
          have Fz_8 := Lib.hid ((Fz_7.out.below_ b8 (Nat.le_refl _)).mono_ b8.size)
          have Fx_8 := Lib.hid ((Fx_7.out.below_ b8 (Nat.le_refl _)).mono_ b8.size)
          have Fy_8 := Lib.hid ((Fy_7.out.below_ b8 (Nat.le_refl _)).mono_ b8.size)
          have Fon_8 := Lib.hid ((Fon_7.out.below_ b8 (Nat.le_refl _)).mono_ b8.size)
          have dbox_8 := Fbox_8.out.2
          have Fo_8 := Lib.hid (o8.form_)
          clear C8 b8 HB7 Fv_7 Fbox_7 Fz_7 Fx_7 Fy_7 Fon_7 dbox_7 o8
          clear dq
          clear Fon_8
          simp only [Int.natCast_zero, List.length_cons, List.length_nil, Nat.zero_add]
          have HPV : Hid (∀ w', Below w8.heap.size w8 w' → w'.cell? ⟨w.heap.size, 0, none⟩ = some (.slice A l0.length c)) := fun w' hb => (Fbox_8.out.below_ hb (Nat.le_refl _)).2
          have Fow := Fo_8
          obtain ⟨b2, o2, tx, rfl, hb2, hx, hqx, hcx⟩ := Fow.out.int_ (k := 0) (by simp)
          obtain rfl : (T : Int) = tx := by simpa using hqx
          rw [Nat.add_zero] at hcx
          have HOW : Hid (∀ w', Below w8.heap.size w8 w' → w'.cell? ⟨b2, o2, none⟩ = some (.int .i64 (T : Nat))) := fun w' hb => (hb.cell (p := ⟨b2, o2, none⟩) hb2).trans hcx
          clear hx hqx hcx hb2 Fow
          go_wp2
          go_loopw [18, 19] (fun i _ wr => ∃ k : Nat, i = .int .i64 (k : Nat) ∧ Hid (∀ j q, j < k → l0[j]? = some q → q.join = true → q.left ≠ (T : Int) ∧ q.right ≠ (T : Int)) ∧ Hid (Below w8.heap.size w8 wr)) (fun i _ _ => l0.length - (intOf i).toNat)
          case atStart => exact ⟨0, rfl, fun j q hj => absurd hj (Nat.not_lt_zero j), Below.refl _ _⟩
          case round =>
            obtain ⟨k, rfl, HNJ, hbr⟩ := hrel
            have wk : k < l0.length → IntKind.i64.wrap ((k : Int) + 1) = (k : Int) + 1 := fun h => by rw [IntKind.wrap_i64]; have := HP.out; omega
            by_cases hkl : k < l0.length
            · skip
              have wk := wk hkl
              have hki : (k : Int) < (l0.length : Int) := by omega
              have d1 := HPV.out wr hbr.out
              obtain ⟨b, off, q, rfl, hbB, hqok, hq, q0, q1, q2, q3, q4⟩ := (Fv_8.out.below_ hbr.out (Nat.le_refl _)).piece_ hkl
              obtain ⟨qj, qb, ql, qr, qk⟩ := q
              simp only at q0 q1 q2 q3 q4
              obtain ⟨W3, hW3⟩ : ∃ W3, wr.alloc (.cells #[.bool qj, .int .u8 (qb : Nat), .int .i64 ql, .int .i64 qr, .int .u32 (qk : Nat)] 42) = W3 := ⟨_, rfl⟩
              have HB3 : Hid (Below w8.heap.size w8 W3) := by unfold Hid; rw [← hW3]; exact hbr.out.alloc hbr.out.size _
              have hcell : ∀ (j : Nat) (u : Value), #[.bool qj, .int .u8 (qb : Nat), .int .i64 ql, .int .i64 qr, .int .u32 (qk : Nat)][j]? = some u → W3.cell? ⟨wr.heap.size, j, none⟩ = some u := fun j u hj => by
                rw [← hW3, cell_of_row _ wr.heap.size j _ _ _ (heap_alloc_new wr _)]
                exact hj
              have k0 := hcell 0 _ rfl
              have k2 := hcell 2 _ rfl
              have k3 := hcell 3 _ rfl
              have k5 := HOW.out W3 HB3.out
              have HNX : Hid ((qj = true → ql ≠ (T : Int) ∧ qr ≠ (T : Int)) → ∀ j q, j < k + 1 → l0[j]? = some q → q.join = true → q.left ≠ (T : Int) ∧ q.right ≠ (T : Int)) := fun h j q' hj hq' => by
                by_cases hjk : j < k
                · exact HNJ.out j q' hjk hq'
                · obtain rfl : j = k := by omega
                  rw [hq] at hq'
                  obtain rfl := Option.some.inj hq'
                  exact h
              have HKL := Lib.hid hkl
              clear hcell hqok hq HNJ hbr hkl
              cases qj with
              | false =>
                have HN2 := Lib.hid (HNX.out (fun h => nomatch h))
                clear HNX
                go_wp2
                go_quiet (fail)
                generalize hW9 : W3.drewN _ = w9
                have HB9 : Hid (Below w8.heap.size w8 w9) := by unfold Hid; rw [← hW9]; exact below_drewN HB3.out _
                clear hW9 HB3
                go_wp2
                go_roundw
                case rel => exact ⟨k + 1, by go_num, HN2.out, HB9.out⟩
                case measure => simp [intOf]; have := HKL.out; omega
              | true =>
                by_cases e1 : ql = (T : Int)
                · subst e1
                  clear HNX
                  go_wp2
                  go_quiet (fail)
                  generalize hW9 : W3.drewN _ = w9
                  have HB9 : Hid (Below w.heap.size w w9) := by unfold Hid; rw [← hW9]; exact HB8.out.trans ((below_drewN HB3.out _).mono HB8.out.size)
                  have C9 := Lib.hid (works_bp w9)
                  clear hW9 HB3
                  go_wp2_with (fail)
                  refine (C9.out).mono ?_
                  rintro e wz ⟨rfl, bz⟩
                  have HBy := Lib.hid (HB9.out.trans (bz.mono HB9.out.size))
                  clear C9 bz
                  go_wp2
                  go_ret
                  exact ⟨rfl, HBy.out⟩
                · have e2 : (ql == (T : Int)) = false := by rw [beq_eq_false_iff_ne]; exact e1
                  by_cases e3 : qr = (T : Int)
                  · subst e3
                    clear HNX e1
                    go_wp2
                    go_quiet (fail)
                    generalize hW9 : W3.drewN _ = w9
                    have HB9 : Hid (Below w.heap.size w w9) := by unfold Hid; rw [← hW9]; exact HB8.out.trans ((below_drewN HB3.out _).mono HB8.out.size)
                    have C9 := Lib.hid (works_bp w9)
                    clear hW9 HB3
                    go_wp2_with (fail)
                    refine (C9.out).mono ?_
                    rintro e wz ⟨rfl, bz⟩
                    have HBy := Lib.hid (HB9.out.trans (bz.mono HB9.out.size))
                    clear C9 bz
                    go_wp2
                    go_ret
                    exact ⟨rfl, HBy.out⟩
                  · have e4 : (qr == (T : Int)) = false := by rw [beq_eq_false_iff_ne]; exact e3
                    have HN2 := Lib.hid (HNX.out (fun _ => ⟨e1, e3⟩))
                    clear HNX e1 e3
                    go_wp2
                    go_quiet (fail)
                    generalize hW9 : W3.drewN _ = w9
                    have HB9 : Hid (Below w8.heap.size w8 w9) := by unfold Hid; rw [← hW9]; exact below_drewN HB3.out _
                    clear hW9 HB3
                    go_wp2
                    go_roundw
                    case rel => exact ⟨k + 1, by go_num, HN2.out, HB9.out⟩
                    case measure => simp [intOf]; have := HKL.out; omega
            · skip
              have hki : ¬ (k : Int) < (l0.length : Int) := by omega
              have HEQ : Hid (za = xa ++ (T : Int) :: ya) := HSP.out (fun q hq => by
                obtain ⟨j, hj⟩ := List.getElem?_of_mem hq
                exact HNJ.out j q (by have := (List.getElem?_eq_some_iff.1 hj).1; omega) hj)
              clear wk HNJ hkl HPV HOW
              have b9 := hbr.out
              have HB9 := Lib.hid (HB8.out.trans (b9.mono HB8.out.size))
              have Fv_9 := Lib.hid ((Fv_8.out.below_ b9 (Nat.le_refl _)).mono_ b9.size)
              have Fbox_9 := Lib.hid ((Fbox_8.out.below_ b9 (Nat.le_refl _)).mono_ b9.size)
              have Fz_9 := Lib.hid ((Fz_8.out.below_ b9 (Nat.le_refl _)).mono_ b9.size)
              have Fx_9 := Lib.hid ((Fx_8.out.below_ b9 (Nat.le_refl _)).mono_ b9.size)
              have Fy_9 := Lib.hid ((Fy_8.out.below_ b9 (Nat.le_refl _)).mono_ b9.size)
              have Fo_9 := Lib.hid ((Fo_8.out.below_ b9 (Nat.le_refl _)).mono_ b9.size)
              have dbox_9 := Fbox_9.out.2
              clear b9 HB8 Fv_8 Fbox_8 Fz_8 Fx_8 Fy_8 Fo_8 dbox_8
              clear hbr
              have h3 := HS.out
              obtain ⟨hx1, hy1⟩ := HLX.out
              go_wp2_with (at_builtin; go_must (refine wpList_append_m _ iK rfl _ _ rfl wr.heap.size (.slice none 0 0) rfl [] (OwnL.nil_ _ _ _) _ rfl _ xa Fx_9.out (by show (_ + _) * 8 ≤ _; simp only [List.length_nil]; omega) (by simp only [List.length_nil, maxLen]; omega) (Nat.le_refl _) ?_))
              intro B5 c5 w5 hA hG hM
              have HG5 := Lib.hid ((Below.refl wr.heap.size wr).grown hG (Nat.le_refl _) (by intro k hk; cases hk))
              have HA5 : Hid (OwnL iK w5 wr.heap.size (.slice B5 xa.length c5) xa) := by unfold Hid; simpa using hA
              have HD5 := Lib.hid (Fo_9.out.below_ HG5.out (Nat.le_refl _))
              clear hA hG hM
              go_wp2_with (at_builtin; go_must (refine wpList_append_m _ iK rfl _ _ rfl wr.heap.size (.slice B5 xa.length c5) rfl xa HA5.out _ rfl _ [(T : Int)] HD5.out (by show (_ + _) * 8 ≤ _; simp; omega) (by simp [maxLen]; omega) HG5.out.size ?_))
              intro B6 c6 w6 hA hG hM
              have HG6 := Lib.hid (HG5.out.grown hG HG5.out.size (fun k hk => (HA5.out.lt_ k hk).1))
              have HA6 := Lib.hid hA
              have HD6 := Lib.hid (Fy_9.out.below_ HG6.out (Nat.le_refl _))
              clear hA hG hM HA5 HG5 HD5
              go_wp2_with (at_builtin; go_must (refine wpList_append_m _ iK rfl _ _ rfl wr.heap.size (.slice B6 (xa.length + 1) c6) rfl (xa ++ [(T : Int)]) HA6.out _ rfl _ ya HD6.out (by show (_ + _) * 8 ≤ _; simp; omega) (by simp [maxLen]; omega) HG6.out.size ?_))
              intro B7 c7 w7 hA hG hM
              have hg7 := (HG6.out.grown hG HG6.out.size (fun k hk => (HA6.out.lt_ k hk).1))
              have HAL : Hid (OwnL iK w7 wr.heap.size (.slice B7 (xa.length + (ya.length + 1)) c7) (xa ++ (T : Int) :: ya)) := hA
              clear hA hG hM HA6 HG6 HD6
              have b10 := hg7
              have HB10 := Lib.hid (HB9.out.trans (b10.mono HB9.out.size))
              have Fv_10 := Lib.hid ((Fv_9.out.below_ b10 (Nat.le_refl _)).mono_ b10.size)
              have Fbox_10 := Lib.hid ((Fbox_9.out.below_ b10 (Nat.le_refl _)).mono_ b10.size)
              have Fz_10 := Lib.hid ((Fz_9.out.below_ b10 (Nat.le_refl _)).mono_ b10.size)
              have Fx_10 := Lib.hid ((Fx_9.out.below_ b10 (Nat.le_refl _)).mono_ b10.size)
              have Fy_10 := Lib.hid ((Fy_9.out.below_ b10 (Nat.le_refl _)).mono_ b10.size)
              have Fo_10 := Lib.hid ((Fo_9.out.below_ b10 (Nat.le_refl _)).mono_ b10.size)
              have dbox_10 := Fbox_10.out.2
              clear b10 HB9 Fv_9 Fbox_9 Fz_9 Fx_9 Fy_9 Fo_9 dbox_9
              clear hg7
              have Fall_10 := Lib.hid HAL.out.form_
              clear HAL
              rw [← HEQ.out] at Fall_10
              have C11 := Lib.hid (ints_lv _ _ _ _ _ _ w7 Fz_10.out Fall_10.out)
              simp only [decide_true] at C11
              go_wp2_with (fail)
              refine (C11.out).mono ?_
              rintro e w11 ⟨rfl, b11⟩
              have HB11 := Lib.hid (HB10.out.trans (b11.mono HB10.out.size))
              have Fv_11 := Lib.hid ((Fv_10.out.below_ b11 (Nat.le_refl _)).mono_ b11.size)
              have Fbox_11 := Lib.hid ((Fbox_10.out.below_ b11 (Nat.le_refl _)).mono_ b11.size)
              have Fz_11 := Lib.hid ((Fz_10.out.below_ b11 (Nat.le_refl _)).mono_ b11.size)
              have Fx_11 := Lib.hid ((Fx_10.out.below_ b11 (Nat.le_refl _)).mono_ b11.size)
              have Fy_11 := Lib.hid ((Fy_10.out.below_ b11 (Nat.le_refl _)).mono_ b11.size)
              have Fo_11 := Lib.hid ((Fo_10.out.below_ b11 (Nat.le_refl _)).mono_ b11.size)
              have Fall_11 := Lib.hid ((Fall_10.out.below_ b11 (Nat.le_refl _)).mono_ b11.size)
              have dbox_11 := Fbox_11.out.2
              clear C11 b11 HB10 Fv_10 Fbox_10 Fz_10 Fx_10 Fy_10 Fo_10 Fall_10 dbox_10
              clear Fall_11
              clear Fz_11
              clear Fx_11
              clear Fy_11
              clear Fo_11
              clear Fv_11
              have C12 := Lib.hid (works_bp w11)
              go_wp2_with (fail)
              refine (C12.out).mono ?_
              rintro e w12 ⟨rfl, b12⟩
              have HB12 := Lib.hid (HB11.out.trans (b12.mono HB11.out.size))
              have Fbox_12 := Lib.hid ((Fbox_11.out.below_ b12 (Nat.le_refl _)).mono_ b12.size)
              have dbox_12 := Fbox_12.out.2
              clear C12 b12 HB11 Fbox_11 dbox_11
              go_wp2
              go_ret
              exact ⟨rfl, HB12.out⟩
        · skip
          have hE : ∀ b : List Nat, Bp.encE l0 b = ([], 11) := fun b => if_neg hmay
          have HEA := Lib.hid (hE (l1 ++ n3 :: l2))
          have HE1 := Lib.hid (hE l1)
          have HE2 := Lib.hid (hE l2)
          have HEO : Hid (Bp.beginE l0 [n3] = ([], 11)) := if_neg hmay
          clear hmay hok hE hs
          obtain ⟨W, hW⟩ : ∃ X, w.alloc (.cells #[v0] 24) = X := ⟨_, rfl⟩
          obtain ⟨db, hsz, hbb⟩ := boxed hW
          have HB0 := Lib.hid hbb
          have Fv_0 := Lib.hid ((h0.below_ hbb (Nat.le_refl _)).mono_ hbb.size)
          have Fbox_0 : Hid (BoxAt W W.heap.size w.heap.size v0) := ⟨by omega, db⟩
          obtain ⟨A, c, rfl, hc1, hc2, _, _⟩ := h0
          have hl0 : l0.length ≤ 9223372036854775807 := by simp only [maxLen] at hc2; omega
          have dbox_0 := Fbox_0.out.2
          clear hc1 hc2 hbb hsz db
          go_enter Try.func11, Try.ntmps11
          have Fb_0 := Lib.hid ((H1.out.below_ HB0.out (Nat.le_refl _)).mono_ HB0.out.size)
          have Fd_0 := Lib.hid ((H2.out.below_ HB0.out (Nat.le_refl _)).mono_ HB0.out.size)
          have C1 := Lib.hid (rlong_any l0 _ ((l1.length : Nat) : Int) HI1 _ W Fv_0.out)
          rw [HM1.out] at C1
          go_wp2_with (fail)
          refine (C1.out).mono ?_
          rintro e w1 ⟨rfl, b1⟩
          have HB1 := Lib.hid (HB0.out.trans (b1.mono HB0.out.size))
          have Fv_1 := Lib.hid ((Fv_0.out.below_ b1 (Nat.le_refl _)).mono_ b1.size)
          have Fbox_1 := Lib.hid ((Fbox_0.out.below_ b1 (Nat.le_refl _)).mono_ b1.size)
          have Fb_1 := Lib.hid ((Fb_0.out.below_ b1 (Nat.le_refl _)).mono_ b1.size)
          have Fd_1 := Lib.hid ((Fd_0.out.below_ b1 (Nat.le_refl _)).mono_ b1.size)
          have dbox_1 := Fbox_1.out.2
          clear C1 b1 HB0 Fv_0 Fbox_0 Fb_0 Fd_0 dbox_0
          have C2 := Lib.hid (rlong_any l0 _ ((l2.length : Nat) : Int) HI2 _ w1 Fv_1.out)
          rw [HM2.out] at C2
          go_wp2_with (fail)
          refine (C2.out).mono ?_
          rintro e w2 ⟨rfl, b2⟩
          have HB2 := Lib.hid (HB1.out.trans (b2.mono HB1.out.size))
          have Fv_2 := Lib.hid ((Fv_1.out.below_ b2 (Nat.le_refl _)).mono_ b2.size)
          have Fbox_2 := Lib.hid ((Fbox_1.out.below_ b2 (Nat.le_refl _)).mono_ b2.size)
          have Fb_2 := Lib.hid ((Fb_1.out.below_ b2 (Nat.le_refl _)).mono_ b2.size)
          have Fd_2 := Lib.hid ((Fd_1.out.below_ b2 (Nat.le_refl _)).mono_ b2.size)
          have dbox_2 := Fbox_2.out.2
          clear C2 b2 HB1 Fv_1 Fbox_1 Fb_1 Fd_1 dbox_1
          have h300 := HS.out
          go_wp2_with (at_builtin; go_must (refine wpList_append_m _ yK rfl _ _ rfl w2.heap.size (.slice none 0 0) rfl [] (OwnL.nil_ _ _ _) _ rfl _ l1 Fb_2.out (by show (_ + _) * 1 ≤ _; simp only [List.length_nil]; omega) (by simp only [List.length_nil, maxLen]; omega) (Nat.le_refl _) ?_))
          intro A5 c5 w5 hA hG hM
          have HG5 := Lib.hid ((Below.refl w2.heap.size w2).grown hG (Nat.le_refl _) (by intro k hk; cases hk))
          have HA5 : Hid (OwnL yK w5 w2.heap.size (.slice A5 l1.length c5) l1) := by unfold Hid; simpa using hA
          clear hA hG hM
          go_wp2_with (at_builtin; go_must (refine wpList_push_m _ yK rfl _ _ rfl w2.heap.size (.slice A5 l1.length c5) rfl l1 HA5.out rfl n3 HN3.out _ rfl _ rfl (by show _ * 1 ≤ _; omega) (by simp only [maxLen]; omega) HG5.out.size ?_))
          intro A6 c6 w6 hA hG hM
          have HG6 := Lib.hid (HG5.out.grown hG HG5.out.size (fun k hk => (HA5.out.lt_ k hk).1))
          have HA6 := Lib.hid hA
          have HD6 := Lib.hid (Fd_2.out.below_ HG6.out (Nat.le_refl _))
          clear hA hG hM HA5 HG5
          go_wp2_with (at_builtin; go_must (refine wpList_append_m _ yK rfl _ _ rfl w2.heap.size (.slice A6 (l1.length + 1) c6) rfl (l1 ++ [n3]) HA6.out _ rfl _ l2 HD6.out (by show (_ + _) * 1 ≤ _; simp; omega) (by simp [maxLen]; omega) HG6.out.size ?_))
          intro A7 c7 w7 hA hG hM
          have hg7 := (HG6.out.grown hG HG6.out.size (fun k hk => (HA6.out.lt_ k hk).1))
          have HAL : Hid (OwnL yK w7 w2.heap.size (.slice A7 (l1.length + (l2.length + 1)) c7) (l1 ++ n3 :: l2)) := hA
          clear hA hG hM HA6 HG6 HD6
          have b3 := hg7
          have HB3 := Lib.hid (HB2.out.trans (b3.mono HB2.out.size))
          have Fv_3 := Lib.hid ((Fv_2.out.below_ b3 (Nat.le_refl _)).mono_ b3.size)
          have Fbox_3 := Lib.hid ((Fbox_2.out.below_ b3 (Nat.le_refl _)).mono_ b3.size)
          have Fb_3 := Lib.hid ((Fb_2.out.below_ b3 (Nat.le_refl _)).mono_ b3.size)
          have Fd_3 := Lib.hid ((Fd_2.out.below_ b3 (Nat.le_refl _)).mono_ b3.size)
          have dbox_3 := Fbox_3.out.2
          clear b3 HB2 Fv_2 Fbox_2 Fb_2 Fd_2 dbox_2
          clear hg7
          have Fall_3 := Lib.hid HAL.out.form_
          clear HAL
          have C4 := Lib.hid (pencode_any l0 _ (l1 ++ n3 :: l2) _ _ w7 Fv_3.out Fall_3.out (Nat.le_refl _) HP.out HFA.out)
          rw [HEA.out] at C4
          go_wp2_with (fail)
          refine (C4.out).mono ?_
          rintro e w4 ⟨A4, c4, rfl, o4, b4⟩
          have HB4 := Lib.hid (HB3.out.trans (b4.mono HB3.out.size))
          have Fv_4 := Lib.hid ((Fv_3.out.below_ b4 (Nat.le_refl _)).mono_ b4.size)
          have Fbox_4 := Lib.hid ((Fbox_3.out.below_ b4 (Nat.le_refl _)).mono_ b4.size)
          have Fb_4 := Lib.hid ((Fb_3.out.below_ b4 (Nat.le_refl _)).mono_ b4.size)
          have Fd_4 := Lib.hid ((Fd_3.out.below_ b4 (Nat.le_refl _)).mono_ b4.size)
          have Fall_4 := Lib.hid ((Fall_3.out.below_ b4 (Nat.le_refl _)).mono_ b4.size)
          have dbox_4 := Fbox_4.out.2
          have Fz_4 := Lib.hid (o4.form_)
          clear C4 b4 HB3 Fv_3 Fbox_3 Fb_3 Fd_3 Fall_3 dbox_3 o4
          clear Fall_4
          have C5 := Lib.hid (pencode_any l0 _ l1 _ _ w4 Fv_4.out Fb_4.out (Nat.le_refl _) HP.out HF1.out)
          rw [HE1.out] at C5
          go_wp2_with (fail)
          refine (C5.out).mono ?_
          rintro e w5 ⟨A5, c5, rfl, o5, b5⟩
          have HB5 := Lib.hid (HB4.out.trans (b5.mono HB4.out.size))
          have Fv_5 := Lib.hid ((Fv_4.out.below_ b5 (Nat.le_refl _)).mono_ b5.size)
          have Fbox_5 := Lib.hid ((Fbox_4.out.below_ b5 (Nat.le_refl _)).mono_ b5.size)
          have Fb_5 := Lib.hid ((Fb_4.out.below_ b5 (Nat.le_refl _)).mono_ b5.size)
          have Fd_5 := Lib.hid ((Fd_4.out.below_ b5 (Nat.le_refl _)).mono_ b5.size)
          have Fz_5 := Lib.hid ((Fz_4.out.below_ b5 (Nat.le_refl _)).mono_ b5.size)
          have dbox_5 := Fbox_5.out.2
          have Fx_5 := Lib.hid (o5.form_)
          clear C5 b5 HB4 Fv_4 Fbox_4 Fb_4 Fd_4 Fz_4 dbox_4 o5
          have C6 := Lib.hid (pencode_any l0 _ l2 _ _ w5 Fv_5.out Fd_5.out (Nat.le_refl _) HP.out HF2.out)
          rw [HE2.out] at C6
          go_wp2_with (fail)
          refine (C6.out).mono ?_
          rintro e w6 ⟨A6, c6, rfl, o6, b6⟩
          have HB6 := Lib.hid (HB5.out.trans (b6.mono HB5.out.size))
          have Fv_6 := Lib.hid ((Fv_5.out.below_ b6 (Nat.le_refl _)).mono_ b6.size)
          have Fbox_6 := Lib.hid ((Fbox_5.out.below_ b6 (Nat.le_refl _)).mono_ b6.size)
          have Fb_6 := Lib.hid ((Fb_5.out.below_ b6 (Nat.le_refl _)).mono_ b6.size)
          have Fd_6 := Lib.hid ((Fd_5.out.below_ b6 (Nat.le_refl _)).mono_ b6.size)
          have Fz_6 := Lib.hid ((Fz_5.out.below_ b6 (Nat.le_refl _)).mono_ b6.size)
          have Fx_6 := Lib.hid ((Fx_5.out.below_ b6 (Nat.le_refl _)).mono_ b6.size)
          have dbox_6 := Fbox_6.out.2
          have Fy_6 := Lib.hid (o6.form_)
          clear C6 b6 HB5 Fv_5 Fbox_5 Fb_5 Fd_5 Fz_5 Fx_5 dbox_5 o6
          clear Fb_6
          clear Fd_6
          obtain ⟨Y, hY⟩ : ∃ Y, w6.alloc (.cells #[.int .u8 (n3 : Nat)] 5) = Y := ⟨_, rfl⟩
          have hby : Below w6.heap.size w6 Y := by rw [← hY]; exact (Below.refl _ _).alloc (Nat.le_refl _) _
          have hon := Lv.lit_ (K := (yK : El Try.prog Nat)) w6 (x := n3) HN3.out
          change Lv yK (w6.alloc (.cells #[.int .u8 (n3 : Nat)] 5)) _ _ _ at hon
          rw [hY] at hon
          have HSY : Hid (Y.heap.size = w6.heap.size + 1) := by unfold Hid; rw [← hY]; simp
          have dq := dbox_6
          have b7 := hby
          have HB7 := Lib.hid (HB6.out.trans (b7.mono HB6.out.size))
          have Fv_7 := Lib.hid ((Fv_6.out.below_ b7 (Nat.le_refl _)).mono_ b7.size)
          have Fbox_7 := Lib.hid ((Fbox_6.out.below_ b7 (Nat.le_refl _)).mono_ b7.size)
          have Fz_7 := Lib.hid ((Fz_6.out.below_ b7 (Nat.le_refl _)).mono_ b7.size)
          have Fx_7 := Lib.hid ((Fx_6.out.below_ b7 (Nat.le_refl _)).mono_ b7.size)
          have Fy_7 := Lib.hid ((Fy_6.out.below_ b7 (Nat.le_refl _)).mono_ b7.size)
          have dbox_7 := Fbox_7.out.2
          clear b7 HB6 Fv_6 Fbox_6 Fz_6 Fx_6 Fy_6 dbox_6
          have Fon_7 := Lib.hid (hon.mono_ (Nat.le_of_eq HSY.out.symm))
          clear hby hon
          have C8 := Lib.hid (pbegin_any l0 _ [n3] _ _ Y Fv_7.out Fon_7.out (Nat.le_refl _) HP.out HFO.out)
          rw [HEO.out] at C8
          go_wp2_with (fail)
          refine (C8.out).mono ?_
          rintro e w8 ⟨A8, c8, rfl, o8, b8⟩
          have HB8 := Lib.hid (HB7.out.trans (b8.mono HB7.out.size))
          have Fv_8 := Lib.hid ((Fv_7.out.below_ b8 (Nat.le_refl _)).mono_ b8.size)
          have Fbox_8 := Lib.hid ((Fbox_7.out.below_ b8 (Nat.le_refl _)).mono_ b8.size)
          have Fz_8 := Lib.hid ((Fz_7.out.below_ b8 (Nat.le_refl _)).mono_ b8.size)
          have Fx_8 := Lib.hid ((Fx_7.out.below_ b8 (Nat.le_refl _)).mono_ b8.size)
          have Fy_8 := Lib.hid ((Fy_7.out.below_ b8 (Nat.le_refl _)).mono_ b8.size)
          have Fon_8 := Lib.hid ((Fon_7.out.below_ b8 (Nat.le_refl _)).mono_ b8.size)
          have dbox_8 := Fbox_8.out.2
          have Fo_8 := Lib.hid (o8.form_)
          clear C8 b8 HB7 Fv_7 Fbox_7 Fz_7 Fx_7 Fy_7 Fon_7 dbox_7 o8
          clear dq
          clear Fon_8
          clear Fv_8
          clear Fx_8
          clear Fy_8
          clear Fz_8
          clear Fo_8
          have C9 := Lib.hid (works_bp w8)
          go_wp2_with (fail)
          refine (C9.out).mono ?_
          rintro e w9 ⟨rfl, b9⟩
          have HB9 := Lib.hid (HB8.out.trans (b9.mono HB8.out.size))
          have Fbox_9 := Lib.hid ((Fbox_8.out.below_ b9 (Nat.le_refl _)).mono_ b9.size)
          have dbox_9 := Fbox_9.out.2
          clear C9 b9 HB8 Fbox_8 dbox_8
          go_wp2
          go_ret
          exact ⟨rfl, HB9.out⟩

/-! ### From the walk to the row -/
set_option maxRecDepth 100000 in
theorem lifted (os : Os) (started : os.Started) (H : Type) (enc : TypeId × Value → H) :
    ReturnsInHanded {} Try.checked os 11 .any (Rows.bpeSplitsSpec.pre6 enc Try.prog Try.f11 Rows.bpeSplitsRow.domain false) (Rows.bpeSplitsSpec.post enc Try.prog Try.f11 false true false false) := by
  refine returnsInHanded_of_change_sized (C := Try.checked) own started (by kernel_rfl) Try.func11
    (ChangeSpec.witness6 (enc := enc) (C := Try.checked) false ⟨#[], #[.agg #[.slice none 0 0], .slice none 0 0, .slice none 0 0, .int .u8 0], []⟩ 8 (by kernel_rfl) (by kernel_rfl) (by kernel_rfl) (by kernel_rfl)) ?_
  intro W base args ds gs before hval0 hW hcnd hreach _
  have hval : ∀ (j : Nat) t v, Try.f11.params[j]? = some t → args[j]? = some v → Value.okWide Try.prog W .any base t v := hval0
  have hW' := hW
  obtain ⟨p, q, hA0, hV, rfl, hfz, hnd⟩ := hW
  have hA : DataW.TrodAll enc Try.prog W 0 (fun _ => true) true Try.f11.params.toList args.toList ds p := hA0
  rw [Try.params11] at hA hval
  obtain ⟨v0, vs0, d0, ds0, p0, q0, hargs, rfl, rfl, h0, r0⟩ := trodAll_cons hA
  obtain ⟨v1, vs1, d1, ds1, p1, q1, rfl, rfl, rfl, h1, r1⟩ := trodAll_cons r0
  obtain ⟨v2, vs2, d2, ds2, p2, q2, rfl, rfl, rfl, h2, r2⟩ := trodAll_cons r1
  obtain ⟨v3, vs3, d3, ds3, p3, q3, rfl, rfl, rfl, h3, r3⟩ := trodAll_cons r2
  obtain ⟨rfl, rfl, rfl⟩ := trodAll_nil r3
  obtain rfl : args = #[v0, v1, v2, v3] := by cases args; simp_all
  obtain ⟨rfl, rfl⟩ := trodVars_none hV
  have k0 := h0
  have lt0 : ∀ x ∈ p0, x.block < W.heap.size := by obtain ⟨m, hm⟩ := k0; exact DataW.trod_lt m _ _ _ hm
  obtain ⟨u0, l0, rfl, hb0⟩ := voc_in (hval 0 24 v0 rfl rfl) h0
  obtain ⟨a1, len1, cap1, rfl⟩ := okWide_slice Try.underlying25 (hval 1 25 v1 rfl rfl)
  have k1 := h1
  have lt1 : ∀ x ∈ p1, x.block < W.heap.size := by obtain ⟨m, hm⟩ := k1; exact DataW.trod_lt m _ _ _ hm
  obtain ⟨l1, len_1, hb1⟩ : ∃ l : List Nat, l.length = len1 ∧ Bv W W.heap.size (.slice a1 len1 cap1) l := by
    obtain ⟨fuel, hf⟩ := h1
    rcases open_ints Try.underlying25 Try.underlying5 (by kernel_rfl) hf with ⟨hcs, _⟩ | ⟨x, l, c, zs, hcs, _, hl, hm, hz, _, hcell, hwz⟩
    · simp [Value.cells] at hcs
      obtain ⟨rfl, rfl, rfl⟩ := hcs
      exact bytes_in (.inl ⟨rfl, rfl, rfl⟩)
    · simp [Value.cells] at hcs
      obtain ⟨rfl, rfl, rfl⟩ := hcs
      exact bytes_in (.inr ⟨x, zs, rfl, hl, hm, by simpa using hz, hcell, hwz⟩)
  obtain ⟨a2, len2, cap2, rfl⟩ := okWide_slice Try.underlying25 (hval 2 25 v2 rfl rfl)
  have k2 := h2
  have lt2 : ∀ x ∈ p2, x.block < W.heap.size := by obtain ⟨m, hm⟩ := k2; exact DataW.trod_lt m _ _ _ hm
  obtain ⟨l2, len_2, hb2⟩ : ∃ l : List Nat, l.length = len2 ∧ Bv W W.heap.size (.slice a2 len2 cap2) l := by
    obtain ⟨fuel, hf⟩ := h2
    rcases open_ints Try.underlying25 Try.underlying5 (by kernel_rfl) hf with ⟨hcs, _⟩ | ⟨x, l, c, zs, hcs, _, hl, hm, hz, _, hcell, hwz⟩
    · simp [Value.cells] at hcs
      obtain ⟨rfl, rfl, rfl⟩ := hcs
      exact bytes_in (.inl ⟨rfl, rfl, rfl⟩)
    · simp [Value.cells] at hcs
      obtain ⟨rfl, rfl, rfl⟩ := hcs
      exact bytes_in (.inr ⟨x, zs, rfl, hl, hm, by simpa using hz, hcell, hwz⟩)
  obtain ⟨a3, rfl, rfl, rfl, w3⟩ := open_int Try.underlying5 (hval 3 5 v3 rfl rfl) h3
  obtain ⟨n3, e3, b3⟩ := u8_nat w3
  subst e3
  have reach1 : len1 * 1 ≤ 140737488351232 := by
    obtain ⟨fuel, hf⟩ := k1
    rcases open_ints Try.underlying25 Try.underlying5 (by kernel_rfl) hf with ⟨hcs, _⟩ | ⟨x, l, c, zs, hcs, _, hl, hm, hz, hx, hcell, hwz⟩
    · simp [Value.cells] at hcs
      omega
    · simp [Value.cells] at hcs
      obtain ⟨rfl, rfl, rfl⟩ := hcs
      rw [Prod.mk.injEq] at hx
      have hs := sized_slice hreach (j := 1) (t := 25) (e := 5) (elems := lits .u8 (zs.take len1)) (spare := lits .u8 (zs.drop len1)) rfl (by rw [hx.1]; rfl) Try.underlying25
      have hb : Try.prog.bytesOf 5 = 1 := by kernel_rfl
      change _ * Try.prog.bytesOf 5 ≤ _ at hs
      rw [hb] at hs
      simp [lits, reachBytes] at hs hz
      omega
  have reach2 : len2 * 1 ≤ 140737488351232 := by
    obtain ⟨fuel, hf⟩ := k2
    rcases open_ints Try.underlying25 Try.underlying5 (by kernel_rfl) hf with ⟨hcs, _⟩ | ⟨x, l, c, zs, hcs, _, hl, hm, hz, hx, hcell, hwz⟩
    · simp [Value.cells] at hcs
      omega
    · simp [Value.cells] at hcs
      obtain ⟨rfl, rfl, rfl⟩ := hcs
      rw [Prod.mk.injEq] at hx
      have hs := sized_slice hreach (j := 2) (t := 25) (e := 5) (elems := lits .u8 (zs.take len2)) (spare := lits .u8 (zs.drop len2)) rfl (by rw [hx.1]; rfl) Try.underlying25
      have hb : Try.prog.bytesOf 5 = 1 := by kernel_rfl
      change _ * Try.prog.bytesOf 5 ≤ _ at hs
      rw [hb] at hs
      simp [lits, reachBytes] at hs hz
      omega
  clear hA0 hval0
  refine (walk W u0 l0 hb0 (.slice a1 len1 cap1) l1 hb1 (.slice a2 len2 cap2) l2 hb2 n3 b3 (by rw [len_1]; exact reach1) (by rw [len_2]; exact reach2)).mono fun e W' ⟨he, bel⟩ => ?_
  subst he
  exact ⟨_, rfl, _, _, _, [], _, [], hW', trodAll_mk1 (shut_bool Try.underlying4 _), (trodAll_cons_mk (Below.trod laidOut (by kernel_rfl) (of_decide_eq_true (by kernel_rfl)) k0 bel lt0) (trodAll_cons_mk (Below.trod laidOut (by kernel_rfl) (of_decide_eq_true (by kernel_rfl)) k1 bel lt1) (trodAll_cons_mk (Below.trod laidOut (by kernel_rfl) (of_decide_eq_true (by kernel_rfl)) k2 bel lt2) (trodAll_cons_mk (shut_int Try.underlying5 w3) trodAll_mk0)))), rfl, bel.frame _, fun h => by cases h⟩

theorem proved : Rows.BpeSplitsSaid :=
  OpenClaim.holds_of_wide 11 Try.f11 rfl rfl rfl rfl rfl rfl rfl ⟨rfl, rfl, rfl, rfl, rfl⟩ rfl rfl rfl rfl rfl (by kernel_rfl) Try.func11 (by kernel_rfl)
    (of_decide_eq_true (by kernel_rfl)) (by unfold Func.isWrapper; first | (rw [if_pos (by decide +kernel)]; kernel_rfl) | (rw [if_neg (by decide +kernel)]; exact ⟨rfl, rfl⟩))
    (fun os started H enc _ => lifted os started H enc)

end Go.Proofs.Ytaedhccmdbodlaa.bpeSplits
