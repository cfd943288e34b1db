/-
  RecordDocs: what any record's document is, and whether the record is right, is the document's, or its error. No condition.
-/
import Derived.Test.YtkialijipcbgkaaPk45
import Derived.Test.YtkialijipcbgkaaPk43
import Derived.Test.YtkialijipcbgkaaPk21
import Derived.Test.YtkialijipcbgkaaPk24
namespace Go.Proofs.Ytkialijipcbgkaa.recordDocs
open Go.ChangeShapes Go.WideShapes Go.ChangeAt Go.RowKit
open Go.ChangeMaps (open_string shut_string)
set_option linter.unusedVariables false

set_option maxHeartbeats 4000000 in
set_option maxRecDepth 100000 in
theorem walk (w : World) (v0 : Value) (l0 : List Vo.Pc) (h0 : Lv pK w w.heap.size v0 l0) (r1 : Rc.Rec) (t1 : Value) (f1 : Rc.Fit r1) (h1 : Lv iK w w.heap.size t1 r1.toks) :
    Calls Try.prog 6 #[.agg #[v0], .agg (rcC r1 t1)] w (IsBool true w) := by
  have HI1 : I64 ((r1.toks.length : Nat) : Int) := by
    obtain ⟨A1, c1, rfl, hd1, hd2, _, _⟩ := id h1
    simp only [maxLen] at hd2
    unfold I64; omega
  by_cases hm : 500 < l0.length ∨ (300 < ((r1.toks.length : Nat) : Int) ∧ ((r1.toks.length : Nat) : Int) ≤ 4096)
  · skip
    have HM : Hid (decide (500 < l0.length ∨ (300 < ((r1.toks.length : Nat) : Int) ∧ ((r1.toks.length : Nat) : Int) ≤ 4096)) = true) := decide_eq_true hm
    clear hm
    obtain ⟨W, hW⟩ : ∃ X, w.alloc (.cells #[v0] 41) = X := ⟨_, rfl⟩
    obtain ⟨db, hsz, hbb⟩ := boxed hW
    have HB0 := Lib.hid hbb
    have Fv_0 := Lib.hid ((h0.below_ hbb (Nat.le_refl _)).mono_ hbb.size)
    have Fbox_0 : Hid (BoxAt W W.heap.size w.heap.size v0) := ⟨by omega, db⟩
    obtain ⟨A, c, rfl, hc1, hc2, _, _⟩ := h0
    have hl0 : l0.length ≤ 9223372036854775807 := by simp only [maxLen] at hc2; omega
    have dbox_0 := Fbox_0.out.2
    clear hc1 hc2 hbb hsz db
    have vs' := rc_sizeof (t := t1) f1
    have fitp := Lib.hid f1
    obtain ⟨At, ct, rfl, -, -, -, -, -⟩ := id h1
    obtain ⟨Dp, hDp⟩ : ∃ C, rcC r1 (.slice At r1.toks.length ct) = C := ⟨_, rfl⟩
    obtain ⟨vsp, vop, vzp⟩ := rc_val f1 hDp
    rw [hDp]
    replace hDp := Lib.hid hDp
    clear vs' vop vzp
    have HCP : Hid (Dp[33]? = some (.int .i64 r1.len) ∧ Dp[34]? = some (.slice At r1.toks.length ct)) := by unfold Hid; rw [← hDp.out]; exact ⟨rcC_len f1, rcC_toks f1⟩
    obtain ⟨V, hV⟩ : ∃ X, W.alloc (.cells Dp 27) = X := ⟨_, rfl⟩
    obtain ⟨hxa, hxb⟩ := rc_boxat hV
    have Ft_0 := Lib.hid ((h1.below_ HB0.out (Nat.le_refl _)).mono_ HB0.out.size)
    have b1 := hxb
    have HB1 := Lib.hid (HB0.out.trans (b1.mono HB0.out.size))
    have Fv_1 := Lib.hid ((Fv_0.out.below_ b1 (Nat.le_refl _)).mono_ b1.size)
    have Fbox_1 := Lib.hid ((Fbox_0.out.below_ b1 (Nat.le_refl _)).mono_ b1.size)
    have Ft_1 := Lib.hid ((Ft_0.out.below_ b1 (Nat.le_refl _)).mono_ b1.size)
    have dbox_1 := Fbox_1.out.2
    clear b1 HB0 Fv_0 Fbox_0 Ft_0 dbox_0
    have Fbt_1 := Lib.hid hxa
    clear hxa hxb h1 f1
    have dbt_1 := Fbt_1.out.2.val_ HCP.out.1
    have dbtb_1 := Fbt_1.out.2.val_ HCP.out.2
    go_enter Try.func6, Try.ntmps6
    have C2 := Lib.hid (rlong_any l0 _ ((r1.toks.length : Nat) : Int) HI1 _ V Fv_1.out)
    rw [HM.out] at C2
    go_wp2_with (first
      | (refine wpList_load_row rfl _ _ rfl W.heap.size rfl 27 Dp (0, 0) _ Fbt_1.out.2 Try.underlying27 rfl (by rw [vsp]) ?_))
    refine (C2.out).mono ?_
    rintro e w2 ⟨rfl, b2⟩
    have HB2 := Lib.hid (HB1.out.trans (b2.mono HB1.out.size))
    have Fv_2 := Lib.hid ((Fv_1.out.below_ b2 (Nat.le_refl _)).mono_ b2.size)
    have Fbox_2 := Lib.hid ((Fbox_1.out.below_ b2 (Nat.le_refl _)).mono_ b2.size)
    have Ft_2 := Lib.hid ((Ft_1.out.below_ b2 (Nat.le_refl _)).mono_ b2.size)
    have Fbt_2 := Lib.hid ((Fbt_1.out.below_ b2 (Nat.le_refl _)).mono_ b2.size)
    have dbox_2 := Fbox_2.out.2
    have dbt_2 := Fbt_2.out.2.val_ HCP.out.1
    have dbtb_2 := Fbt_2.out.2.val_ HCP.out.2
    clear C2 b2 HB1 Fv_1 Fbox_1 Ft_1 Fbt_1 dbox_1 dbt_1 dbtb_1
    clear Fv_2
    clear Ft_2
    have C3 := Lib.hid (works_rc w2)
    go_wp2_with (first
      | (refine wpList_load_row rfl _ _ rfl W.heap.size rfl 27 Dp (0, 0) _ Fbt_2.out.2 Try.underlying27 rfl (by rw [vsp]) ?_))
    refine (C3.out).mono ?_
    rintro e w3 ⟨rfl, b3⟩
    have HB3 := Lib.hid (HB2.out.trans (b3.mono HB2.out.size))
    have Fbox_3 := Lib.hid ((Fbox_2.out.below_ b3 (Nat.le_refl _)).mono_ b3.size)
    have Fbt_3 := Lib.hid ((Fbt_2.out.below_ b3 (Nat.le_refl _)).mono_ b3.size)
    have dbox_3 := Fbox_3.out.2
    have dbt_3 := Fbt_3.out.2.val_ HCP.out.1
    have dbtb_3 := Fbt_3.out.2.val_ HCP.out.2
    clear C3 b3 HB2 Fbox_2 Fbt_2 dbox_2 dbt_2 dbtb_2
    go_wp2_with (first
      | (refine wpList_load_row rfl _ _ rfl W.heap.size rfl 27 Dp (0, 0) _ Fbt_3.out.2 Try.underlying27 rfl (by rw [vsp]) ?_))
    go_ret
    exact ⟨rfl, HB3.out⟩
  · skip
    have HM : Hid (decide (500 < l0.length ∨ (300 < ((r1.toks.length : Nat) : Int) ∧ ((r1.toks.length : Nat) : Int) ≤ 4096)) = false) := decide_eq_false hm
    clear hm
    by_cases hlr : 300 < r1.len
    · skip
      obtain ⟨W, hW⟩ : ∃ X, w.alloc (.cells #[v0] 41) = X := ⟨_, rfl⟩
      obtain ⟨db, hsz, hbb⟩ := boxed hW
      have HB0 := Lib.hid hbb
      have Fv_0 := Lib.hid ((h0.below_ hbb (Nat.le_refl _)).mono_ hbb.size)
      have Fbox_0 : Hid (BoxAt W W.heap.size w.heap.size v0) := ⟨by omega, db⟩
      obtain ⟨A, c, rfl, hc1, hc2, _, _⟩ := h0
      have hl0 : l0.length ≤ 9223372036854775807 := by simp only [maxLen] at hc2; omega
      have dbox_0 := Fbox_0.out.2
      clear hc1 hc2 hbb hsz db
      have vs' := rc_sizeof (t := t1) f1
      have fitp := Lib.hid f1
      obtain ⟨At, ct, rfl, -, -, -, -, -⟩ := id h1
      obtain ⟨Dp, hDp⟩ : ∃ C, rcC r1 (.slice At r1.toks.length ct) = C := ⟨_, rfl⟩
      obtain ⟨vsp, vop, vzp⟩ := rc_val f1 hDp
      rw [hDp]
      replace hDp := Lib.hid hDp
      clear vs' vop vzp
      have HCP : Hid (Dp[33]? = some (.int .i64 r1.len) ∧ Dp[34]? = some (.slice At r1.toks.length ct)) := by unfold Hid; rw [← hDp.out]; exact ⟨rcC_len f1, rcC_toks f1⟩
      obtain ⟨V, hV⟩ : ∃ X, W.alloc (.cells Dp 27) = X := ⟨_, rfl⟩
      obtain ⟨hxa, hxb⟩ := rc_boxat hV
      have Ft_0 := Lib.hid ((h1.below_ HB0.out (Nat.le_refl _)).mono_ HB0.out.size)
      have b1 := hxb
      have HB1 := Lib.hid (HB0.out.trans (b1.mono HB0.out.size))
      have Fv_1 := Lib.hid ((Fv_0.out.below_ b1 (Nat.le_refl _)).mono_ b1.size)
      have Fbox_1 := Lib.hid ((Fbox_0.out.below_ b1 (Nat.le_refl _)).mono_ b1.size)
      have Ft_1 := Lib.hid ((Ft_0.out.below_ b1 (Nat.le_refl _)).mono_ b1.size)
      have dbox_1 := Fbox_1.out.2
      clear b1 HB0 Fv_0 Fbox_0 Ft_0 dbox_0
      have Fbt_1 := Lib.hid hxa
      clear hxa hxb h1 f1
      have dbt_1 := Fbt_1.out.2.val_ HCP.out.1
      have dbtb_1 := Fbt_1.out.2.val_ HCP.out.2
      go_enter Try.func6, Try.ntmps6
      have C2 := Lib.hid (rlong_any l0 _ ((r1.toks.length : Nat) : Int) HI1 _ V Fv_1.out)
      rw [HM.out] at C2
      go_wp2_with (first
        | (refine wpList_load_row rfl _ _ rfl W.heap.size rfl 27 Dp (0, 0) _ Fbt_1.out.2 Try.underlying27 rfl (by rw [vsp]) ?_))
      refine (C2.out).mono ?_
      rintro e w2 ⟨rfl, b2⟩
      have HB2 := Lib.hid (HB1.out.trans (b2.mono HB1.out.size))
      have Fv_2 := Lib.hid ((Fv_1.out.below_ b2 (Nat.le_refl _)).mono_ b2.size)
      have Fbox_2 := Lib.hid ((Fbox_1.out.below_ b2 (Nat.le_refl _)).mono_ b2.size)
      have Ft_2 := Lib.hid ((Ft_1.out.below_ b2 (Nat.le_refl _)).mono_ b2.size)
      have Fbt_2 := Lib.hid ((Fbt_1.out.below_ b2 (Nat.le_refl _)).mono_ b2.size)
      have dbox_2 := Fbox_2.out.2
      have dbt_2 := Fbt_2.out.2.val_ HCP.out.1
      have dbtb_2 := Fbt_2.out.2.val_ HCP.out.2
      clear C2 b2 HB1 Fv_1 Fbox_1 Ft_1 Fbt_1 dbox_1 dbt_1 dbtb_1
      clear Fv_2
      clear Ft_2
      have C3 := Lib.hid (works_rc w2)
      go_wp2_with (first
        | (refine wpList_load_row rfl _ _ rfl W.heap.size rfl 27 Dp (0, 0) _ Fbt_2.out.2 Try.underlying27 rfl (by rw [vsp]) ?_))
      refine (C3.out).mono ?_
      rintro e w3 ⟨rfl, b3⟩
      have HB3 := Lib.hid (HB2.out.trans (b3.mono HB2.out.size))
      have Fbox_3 := Lib.hid ((Fbox_2.out.below_ b3 (Nat.le_refl _)).mono_ b3.size)
      have Fbt_3 := Lib.hid ((Fbt_2.out.below_ b3 (Nat.le_refl _)).mono_ b3.size)
      have dbox_3 := Fbox_3.out.2
      have dbt_3 := Fbt_3.out.2.val_ HCP.out.1
      have dbtb_3 := Fbt_3.out.2.val_ HCP.out.2
      clear C3 b3 HB2 Fbox_2 Fbt_2 dbox_2 dbt_2 dbtb_2
      go_wp2_with (first
        | (refine wpList_load_row rfl _ _ rfl W.heap.size rfl 27 Dp (0, 0) _ Fbt_3.out.2 Try.underlying27 rfl (by rw [vsp]) ?_))
      go_ret
      exact ⟨rfl, HB3.out⟩
    · skip
      obtain ⟨⟨x, E⟩, hx⟩ : ∃ r, Rc.docE l0 r1 = r := ⟨_, rfl⟩
      have HX := Lib.hid hx
      obtain ⟨q, hqq⟩ : ∃ q, Rc.rightE l0 r1 = q := ⟨_, rfl⟩
      have HQ := Lib.hid hqq
      clear hx hqq
      obtain ⟨W, hW⟩ : ∃ X, w.alloc (.cells #[v0] 41) = X := ⟨_, rfl⟩
      obtain ⟨db, hsz, hbb⟩ := boxed hW
      have HB0 := Lib.hid hbb
      have Fv_0 := Lib.hid ((h0.below_ hbb (Nat.le_refl _)).mono_ hbb.size)
      have Fbox_0 : Hid (BoxAt W W.heap.size w.heap.size v0) := ⟨by omega, db⟩
      obtain ⟨A, c, rfl, hc1, hc2, _, _⟩ := h0
      have hl0 : l0.length ≤ 9223372036854775807 := by simp only [maxLen] at hc2; omega
      have dbox_0 := Fbox_0.out.2
      clear hc1 hc2 hbb hsz db
      have vs' := rc_sizeof (t := t1) f1
      have fitp := Lib.hid f1
      obtain ⟨At, ct, rfl, -, -, -, -, -⟩ := id h1
      obtain ⟨Dp, hDp⟩ : ∃ C, rcC r1 (.slice At r1.toks.length ct) = C := ⟨_, rfl⟩
      obtain ⟨vsp, vop, vzp⟩ := rc_val f1 hDp
      rw [hDp]
      replace hDp := Lib.hid hDp
      clear vs' vop vzp
      have HCP : Hid (Dp[33]? = some (.int .i64 r1.len) ∧ Dp[34]? = some (.slice At r1.toks.length ct)) := by unfold Hid; rw [← hDp.out]; exact ⟨rcC_len f1, rcC_toks f1⟩
      obtain ⟨V, hV⟩ : ∃ X, W.alloc (.cells Dp 27) = X := ⟨_, rfl⟩
      obtain ⟨hxa, hxb⟩ := rc_boxat hV
      have Ft_0 := Lib.hid ((h1.below_ HB0.out (Nat.le_refl _)).mono_ HB0.out.size)
      have b1 := hxb
      have HB1 := Lib.hid (HB0.out.trans (b1.mono HB0.out.size))
      have Fv_1 := Lib.hid ((Fv_0.out.below_ b1 (Nat.le_refl _)).mono_ b1.size)
      have Fbox_1 := Lib.hid ((Fbox_0.out.below_ b1 (Nat.le_refl _)).mono_ b1.size)
      have Ft_1 := Lib.hid ((Ft_0.out.below_ b1 (Nat.le_refl _)).mono_ b1.size)
      have dbox_1 := Fbox_1.out.2
      clear b1 HB0 Fv_0 Fbox_0 Ft_0 dbox_0
      have Fbt_1 := Lib.hid hxa
      clear hxa hxb h1 f1
      have dbt_1 := Fbt_1.out.2.val_ HCP.out.1
      have dbtb_1 := Fbt_1.out.2.val_ HCP.out.2
      go_enter Try.func6, Try.ntmps6
      have C2 := Lib.hid (rlong_any l0 _ ((r1.toks.length : Nat) : Int) HI1 _ V Fv_1.out)
      rw [HM.out] at C2
      go_wp2_with (first
        | (refine wpList_load_row rfl _ _ rfl W.heap.size rfl 27 Dp (0, 0) _ Fbt_1.out.2 Try.underlying27 rfl (by rw [vsp]) ?_))
      refine (C2.out).mono ?_
      rintro e w2 ⟨rfl, b2⟩
      have HB2 := Lib.hid (HB1.out.trans (b2.mono HB1.out.size))
      have Fv_2 := Lib.hid ((Fv_1.out.below_ b2 (Nat.le_refl _)).mono_ b2.size)
      have Fbox_2 := Lib.hid ((Fbox_1.out.below_ b2 (Nat.le_refl _)).mono_ b2.size)
      have Ft_2 := Lib.hid ((Ft_1.out.below_ b2 (Nat.le_refl _)).mono_ b2.size)
      have Fbt_2 := Lib.hid ((Fbt_1.out.below_ b2 (Nat.le_refl _)).mono_ b2.size)
      have dbox_2 := Fbox_2.out.2
      have dbt_2 := Fbt_2.out.2.val_ HCP.out.1
      have dbtb_2 := Fbt_2.out.2.val_ HCP.out.2
      clear C2 b2 HB1 Fv_1 Fbox_1 Ft_1 Fbt_1 dbox_1 dbt_1 dbtb_1
      have C3 := Lib.hid (prcdoc_any l0 _ r1 _ _ w2 Fv_2.out fitp.out Ft_2.out (Nat.le_refl _))
      rw [HX.out, hDp.out] at C3
      go_wp2_with (first
        | (refine wpList_load_row rfl _ _ rfl W.heap.size rfl 27 Dp (0, 0) _ Fbt_2.out.2 Try.underlying27 rfl (by rw [vsp]) ?_))
      refine (C3.out).mono ?_
      rintro e w3 ⟨A3, c3, rfl, o3, b3⟩
      have HB3 := Lib.hid (HB2.out.trans (b3.mono HB2.out.size))
      have Fv_3 := Lib.hid ((Fv_2.out.below_ b3 (Nat.le_refl _)).mono_ b3.size)
      have Fbox_3 := Lib.hid ((Fbox_2.out.below_ b3 (Nat.le_refl _)).mono_ b3.size)
      have Ft_3 := Lib.hid ((Ft_2.out.below_ b3 (Nat.le_refl _)).mono_ b3.size)
      have Fbt_3 := Lib.hid ((Fbt_2.out.below_ b3 (Nat.le_refl _)).mono_ b3.size)
      have dbox_3 := Fbox_3.out.2
      have dbt_3 := Fbt_3.out.2.val_ HCP.out.1
      have dbtb_3 := Fbt_3.out.2.val_ HCP.out.2
      have Fx_3 := Lib.hid (o3.form_)
      clear C3 b3 HB2 Fv_2 Fbox_2 Ft_2 Fbt_2 dbox_2 dbt_2 dbtb_2 o3
      have C4 := Lib.hid (rrcdoc_any l0 _ r1 _ _ w3 Fv_3.out fitp.out Ft_3.out (Nat.le_refl _))
      rw [HX.out, hDp.out] at C4
      go_wp2_with (first
        | (refine wpList_load_row rfl _ _ rfl W.heap.size rfl 27 Dp (0, 0) _ Fbt_3.out.2 Try.underlying27 rfl (by rw [vsp]) ?_))
      refine (C4.out).mono ?_
      rintro e w4 ⟨A4, c4, rfl, o4, b4⟩
      have HB4 := Lib.hid (HB3.out.trans (b4.mono HB3.out.size))
      have Fv_4 := Lib.hid ((Fv_3.out.below_ b4 (Nat.le_refl _)).mono_ b4.size)
      have Fbox_4 := Lib.hid ((Fbox_3.out.below_ b4 (Nat.le_refl _)).mono_ b4.size)
      have Ft_4 := Lib.hid ((Ft_3.out.below_ b4 (Nat.le_refl _)).mono_ b4.size)
      have Fbt_4 := Lib.hid ((Fbt_3.out.below_ b4 (Nat.le_refl _)).mono_ b4.size)
      have Fx_4 := Lib.hid ((Fx_3.out.below_ b4 (Nat.le_refl _)).mono_ b4.size)
      have dbox_4 := Fbox_4.out.2
      have dbt_4 := Fbt_4.out.2.val_ HCP.out.1
      have dbtb_4 := Fbt_4.out.2.val_ HCP.out.2
      have Fy_4 := Lib.hid (o4.form_)
      clear C4 b4 HB3 Fv_3 Fbox_3 Ft_3 Fbt_3 Fx_3 dbox_3 dbt_3 dbtb_3 o4
      have HSM : Hid (∀ w', Below w4.heap.size w4 w' → Calls Try.prog 13 #[.slice A3 x.length c3, .slice A4 x.length c4] w' (IsBool true w')) := fun w' hb => by
        have := octs_lv _ _ _ _ _ _ w' (Fx_4.out.below_ hb (Nat.le_refl _)) (Fy_4.out.below_ hb (Nat.le_refl _))
        simpa using this
      have HPR : Hid (∀ w', Below w4.heap.size w4 w' → Calls Try.prog 23 #[.agg #[.slice A l0.length c], .agg Dp] w' (IsBool q w')) := fun w' hb => by
        have := prcright_any l0 _ r1 _ _ w' (Fv_4.out.below_ hb (Nat.le_refl _)) fitp.out (Ft_4.out.below_ hb (Nat.le_refl _)) hb.size
        rwa [HQ.out, hDp.out] at this
      have HRR : Hid (∀ w', Below w4.heap.size w4 w' → Calls Try.prog 24 #[.agg #[.slice A l0.length c], .agg Dp] w' (IsBool q w')) := fun w' hb => by
        have := rrcright_any l0 _ r1 _ _ w' (Fv_4.out.below_ hb (Nat.le_refl _)) fitp.out (Ft_4.out.below_ hb (Nat.le_refl _)) hb.size
        rwa [HQ.out, hDp.out] at this
      have HC0 : Hid (∀ w', Below w4.heap.size w4 w' → w'.cell? ⟨w.heap.size, 0, none⟩ = some (.slice A l0.length c)) := fun w' hb => (Fbox_4.out.below_ hb (Nat.le_refl _)).2
      have HCR : Hid (∀ w', Below w4.heap.size w4 w' → w'.heap[W.heap.size]? = some (.cells Dp 27 (0, 0))) := fun w' hb => (Fbt_4.out.below_ hb (Nat.le_refl _)).2
      have hq2 : (q == q) = true := by simp
      clear Fv_4 Ft_4 Fx_4 Fy_4 Fbox_4 dbox_4 dbt_4 dbtb_4 HM
      go_wp2_with (first
              | (refine wpList_load_row rfl _ _ rfl W.heap.size rfl 27 Dp (0, 0) _ Fbt_4.out.2 Try.underlying27 rfl (by rw [vsp]) ?_))
      clear Fbt_4
      refine wp_region_grow 20 (by kernel_rfl) (by kernel_rfl) (fun w' => Below w4.heap.size w4 w') ((Below.refl _ _).drew) ?_
      simp only [List.take_succ_cons, List.take_zero, List.drop_succ_cons, List.drop_zero]
      iterate 2 (refine wpGrow_pure (v := ?_) rfl ?_ ?_; rotate_left; focus (intro w' hb'; go_simp; first | done | with_reducible rfl)
                 go_simp)
      refine wpGrow_call (v := .bool true) (f := 13) (args := #[.slice A3 x.length c3, .slice A4 x.length c4]) rfl (fun w' => by go_simp) (fun w' h => (HSM.out w' h).mono ?_) ?_
      · rintro e w5 ⟨rfl, hb5⟩
        exact ⟨rfl, h.trans (hb5.mono h.size)⟩
      go_simp
      iterate 6 (refine wpGrow_pure (v := ?_) rfl ?_ ?_; rotate_left; focus (intro w' hb'; go_simp; first | done | with_reducible rfl)
                 go_simp)
      iterate 1 (refine wpGrow_pure (v := ?_) rfl ?_ ?_; rotate_left; focus (intro w' hb'; have c0 := HC0.out w' hb'; go_simp; first | done | with_reducible rfl)
                 go_simp)
      refine wpGrow_load_row rfl _ _ rfl W.heap.size rfl _ Dp (0, 0) _ (fun w' h => HCR.out w' h) Try.underlying27 rfl vsp ?_
      go_simp
      refine wpGrow_call (v := .bool q) (f := 23) (args := #[.agg #[.slice A l0.length c], .agg Dp]) rfl (fun w' => by go_simp) (fun w' h => (HPR.out w' h).mono ?_) ?_
      · rintro e w5 ⟨rfl, hb5⟩
        exact ⟨rfl, h.trans (hb5.mono h.size)⟩
      go_simp
      iterate 1 (refine wpGrow_pure (v := ?_) rfl ?_ ?_; rotate_left; focus (intro w' hb'; have c0 := HC0.out w' hb'; go_simp; first | done | with_reducible rfl)
                 go_simp)
      refine wpGrow_load_row rfl _ _ rfl W.heap.size rfl _ Dp (0, 0) _ (fun w' h => HCR.out w' h) Try.underlying27 rfl vsp ?_
      go_simp
      refine wpGrow_call (v := .bool q) (f := 24) (args := #[.agg #[.slice A l0.length c], .agg Dp]) rfl (fun w' => by go_simp) (fun w' h => (HRR.out w' h).mono ?_) ?_
      · rintro e w5 ⟨rfl, hb5⟩
        exact ⟨rfl, h.trans (hb5.mono h.size)⟩
      go_simp
      iterate 3 (refine wpGrow_pure (v := ?_) rfl ?_ ?_; rotate_left; focus (intro w' hb'; go_simp; first | done | with_reducible rfl)
                 go_simp)
      refine wpGrow_call (v := .bool true) (f := 14) (args := #[]) rfl (fun w' => by go_simp) (fun w' h => (works_rc w').mono ?_) ?_
      · rintro e w5 ⟨rfl, hb5⟩
        exact ⟨rfl, h.trans (hb5.mono h.size)⟩
      go_simp
      iterate 1 (refine wpGrow_pure (v := ?_) rfl ?_ ?_; rotate_left; focus (intro w' hb'; go_simp; first | done | with_reducible rfl)
                 go_simp)
      refine wpGrow_nil ?_
      intro w5 hb5
      have HB5 := Lib.hid (HB4.out.trans (hb5.mono HB4.out.size))
      clear hb5
      go_wp2
      go_ret
      exact ⟨rfl, HB5.out⟩

/-! ### From the walk to the row -/
set_option maxRecDepth 100000 in
theorem lifted (os : Os) (started : os.Started) (H : Type) (enc : TypeId × Value → H) :
    ReturnsInHanded {} Try.checked os 6 .any (Rows.recordDocsSpec.pre6 enc Try.prog Try.f6 Rows.recordDocsRow.domain false) (Rows.recordDocsSpec.post enc Try.prog Try.f6 false true false false) := by
  refine returnsInHanded_of_change (C := Try.checked) own started (by kernel_rfl) Try.func6
    (ChangeSpec.witness6 (enc := enc) (C := Try.checked) false ⟨#[], #[.agg #[.slice none 0 0], .agg #[.int .u8 0, .int .u8 0, .int .u8 0, .int .u8 0, .int .u8 0, .int .u8 0, .int .u8 0, .int .u8 0, .int .u8 0, .int .u8 0, .int .u8 0, .int .u8 0, .int .u8 0, .int .u8 0, .int .u8 0, .int .u8 0, .int .u8 0, .int .u8 0, .int .u8 0, .int .u8 0, .int .u8 0, .int .u8 0, .int .u8 0, .int .u8 0, .int .u8 0, .int .u8 0, .int .u8 0, .int .u8 0, .int .u8 0, .int .u8 0, .int .u8 0, .int .u8 0, .int .u64 0, .int .i64 0, .slice none 0 0]], []⟩ 8 (by kernel_rfl) (by kernel_rfl) (by kernel_rfl) (by kernel_rfl)) ?_
  intro W base args ds gs before hval0 hW hcnd _
  have hval : ∀ (j : Nat) t v, Try.f6.params[j]? = some t → args[j]? = some v → Value.okWide Try.prog W .any base t v := hval0
  have hW' := hW
  obtain ⟨p, q, hA0, hV, rfl, hfz, hnd⟩ := hW
  have hA : DataW.TrodAll enc Try.prog W 0 (fun _ => true) true Try.f6.params.toList args.toList ds p := hA0
  rw [Try.params6] at hA hval
  obtain ⟨v0, vs0, d0, ds0, p0, q0, hargs, rfl, rfl, h0, r0⟩ := trodAll_cons hA
  obtain ⟨v1, vs1, d1, ds1, p1, q1, rfl, rfl, rfl, h1, r1⟩ := trodAll_cons r0
  obtain ⟨rfl, rfl, rfl⟩ := trodAll_nil r1
  obtain rfl : args = #[v0, v1] := by cases args; simp_all
  obtain ⟨rfl, rfl⟩ := trodVars_none hV
  have k0 := h0
  have lt0 : ∀ x ∈ p0, x.block < W.heap.size := by obtain ⟨m, hm⟩ := k0; exact DataW.trod_lt m _ _ _ hm
  obtain ⟨u0, l0, rfl, hb0⟩ := voc_in (hval 0 41 v0 rfl rfl) h0
  have k1 := h1
  have lt1 : ∀ x ∈ p1, x.block < W.heap.size := by obtain ⟨m, hm⟩ := k1; exact DataW.trod_lt m _ _ _ hm
  obtain ⟨rc1, t1, rfl, f1, hb1, wt1⟩ := rec_in (hval 1 27 v1 rfl rfl) h1
  clear wt1
  clear hA0 hval0
  refine (walk W u0 l0 hb0 rc1 t1 f1 hb1).mono fun e W' ⟨he, bel⟩ => ?_
  subst he
  exact ⟨_, rfl, _, _, _, [], _, [], hW', trodAll_mk1 (shut_bool Try.underlying4 _), (trodAll_cons_mk (Below.trod laidOut (by kernel_rfl) (of_decide_eq_true (by kernel_rfl)) k0 bel lt0) (trodAll_cons_mk (Below.trod laidOut (by kernel_rfl) (of_decide_eq_true (by kernel_rfl)) k1 bel lt1) trodAll_mk0)), rfl, bel.frame _, fun h => by cases h⟩

theorem proved : Rows.RecordDocsSaid :=
  OpenClaim.holds_of_wide 6 Try.f6 rfl rfl rfl rfl rfl rfl rfl ⟨rfl, rfl, rfl, rfl, rfl⟩ rfl rfl rfl rfl rfl (by kernel_rfl) Try.func6 (by kernel_rfl)
    (of_decide_eq_true (by kernel_rfl)) (by unfold Func.isWrapper; first | (rw [if_pos (by decide +kernel)]; kernel_rfl) | (rw [if_neg (by decide +kernel)]; exact ⟨rfl, rfl⟩))
    (fun os started H enc _ => lifted os started H enc)

end Go.Proofs.Ytkialijipcbgkaa.recordDocs
