/-
  RecordFresh: what is handed in stays, the room behind it, too; what is answered is new memory. Reach: each slice that comes in has at most 140737488351232 bytes.
-/
import Derived.Test.YtkialijipcbgkaaPk45
import Derived.Test.YtkialijipcbgkaaPk44
import Derived.Test.YtkialijipcbgkaaPk43
import Derived.Test.YtkialijipcbgkaaPk21
import Derived.Test.YtkialijipcbgkaaPk46
import Derived.Test.YtkialijipcbgkaaPk47
import Derived.Test.YtkialijipcbgkaaPk48
namespace Go.Proofs.Ytkialijipcbgkaa.recordFresh
open Go.ChangeShapes Go.WideShapes Go.ChangeAt Go.RowKit
open Go.ChangeMaps (open_string shut_string)
set_option linter.unusedVariables false

set_option maxHeartbeats 2000000 in
set_option maxRecDepth 100000 in
theorem walk (w : World) (r0 : Rc.Rec) (t0 : Value) (f0 : Rc.Fit r0) (h0 : Lv iK w w.heap.size t0 r0.toks) (v1 : Value) (l1 : List Nat) (g1 : Bv w w.heap.size v1 l1) (q0 : r0.toks.length * 8 ≤ 140737488351232) (q1 : l1.length * 1 ≤ 140737488351232) :
    Calls Try.prog 9 #[.agg (rcC r0 t0), v1] w (IsBool true w) := by
  have hz35 := rc_zeroV
  have hn35 := rc_n35
  have hb0 := rc_built0
  obtain ⟨N, hN⟩ : ∃ N, none35 = N := ⟨_, rfl⟩
  rw [hN] at hz35 hn35 hb0
  have HN0 : Hid (rcC Rc.zero (.slice none 0 0) = N) := hN
  clear hN
  have HR0 : Hid (r0.toks.length ≤ 17592186044416) := by unfold Hid; omega
  have HR1 : Hid (l1.length ≤ 140737488351232) := by unfold Hid; omega
  obtain ⟨⟨x, E⟩, hx⟩ : ∃ r, Rc.putE r0 = r := ⟨_, rfl⟩
  obtain ⟨⟨y, E2⟩, hy⟩ : ∃ r, Rc.getE l1 = r := ⟨_, rfl⟩
  have HX := Lib.hid hx
  have HY := Lib.hid hy
  clear hx hy q0 q1
  have vs' := rc_sizeof (t := t0) f0
  have fitp := Lib.hid f0
  obtain ⟨At, ct, rfl, -, -, -, -, -⟩ := id h0
  obtain ⟨Dp, hDp⟩ : ∃ C, rcC r0 (.slice At r0.toks.length ct) = C := ⟨_, rfl⟩
  obtain ⟨vsp, vop, vzp⟩ := rc_val f0 hDp
  rw [hDp]
  replace hDp := Lib.hid hDp
  clear vs' vop vzp
  have HCP : Hid (Dp[33]? = some (.int .i64 r0.len) ∧ Dp[34]? = some (.slice At r0.toks.length ct)) := by unfold Hid; rw [← hDp.out]; exact ⟨rcC_len f0, rcC_toks f0⟩
  obtain ⟨V, hV⟩ : ∃ X, w.alloc (.cells Dp 27) = X := ⟨_, rfl⟩
  obtain ⟨hxa, hxb⟩ := rc_boxat hV
  have HB0 := Lib.hid hxb
  have Ft_0 := Lib.hid ((h0.below_ hxb (Nat.le_refl _)).mono_ hxb.size)
  have Fbt_0 := Lib.hid hxa
  clear hxa hxb h0 f0
  have Fb_0 := Lib.hid ((g1.lv_.below_ HB0.out (Nat.le_refl _)).mono_ HB0.out.size)
  clear g1
  have dbt_0 := Fbt_0.out.2.val_ HCP.out.2
  obtain ⟨X1, hX1⟩ : ∃ X, (V.alloc (.cells N 27)).setRow V.heap.size Dp = X := ⟨_, rfl⟩
  obtain ⟨hxa, hxb⟩ := rc_stored hX1
  have dt1 := (Fbt_0.out.below_ hxb (Nat.le_refl _)).2.val_ HCP.out.2
  have C1 := Lib.hid (copyInts_any _ r0.toks _ X1 (Ft_0.out.below_ hxb (Nat.le_refl _)) HR0.out)
  have HXA := Lib.hid hxa
  have HXB := Lib.hid hxb
  have hvzp : N.size = Dp.size := by rw [hn35]; have := rcC_size (t := .slice At r0.toks.length ct) fitp.out; rw [hDp.out] at this; exact this.symm
  have hvop : Dp.all (·.oneCell') = true := by rw [← hDp.out]; exact rcC_one rfl
  clear hxa hxb
  go_enter Try.func9, Try.ntmps9
  go_wp2_with (first
    | (refine wpList_store_row rfl _ _ _ rfl V.heap.size Dp rfl rfl 27 N (Rw.new V _ _) vsp hvzp hvop ?_; rw [hX1])
    | (refine wpList_load_row rfl _ _ rfl w.heap.size rfl 27 Dp (0, 0) _ Fbt_0.out.2 Try.underlying27 rfl (by rw [vsp]) ?_))
  refine (C1.out).mono ?_
  rintro e w1 ⟨A1, c1, rfl, o1, b1⟩
  have hR1 : Rw w1 V.heap.size 27 Dp := HXA.out.2.below b1 HXA.out.1
  have hfit := fitp.out
  have hst := rcC_setToks (r := r0) (t := .slice At r0.toks.length ct) hfit.dl (.slice A1 r0.toks.length c1)
  rw [hDp.out] at hst
  have HST := Lib.hid hst
  have df : w1.frozen? ⟨V.heap.size, 34, none⟩ = false := hR1.frozen _
  have dc : w1.cell? ⟨V.heap.size, 34, none⟩ = some (.slice At r0.toks.length ct) := hR1.val_ HCP.out.2
  obtain ⟨Y, hY⟩ : ∃ Y, w1.setCell ⟨V.heap.size, 34, none⟩ (.slice A1 r0.toks.length c1) = Y := ⟨_, rfl⟩
  obtain ⟨Dq, hDq⟩ : ∃ C, rcC r0 (.slice A1 r0.toks.length c1) = C := ⟨_, rfl⟩
  have hRY := hR1.set 34 (.slice A1 r0.toks.length c1)
  rw [HST.out, hY, hDq] at hRY
  obtain ⟨vsq, voq, vzq⟩ := rc_val hfit hDq
  have HDQ := Lib.hid hDq
  have HBw1 : Below V.heap.size V w1 := HXB.out.trans (b1.mono HXB.out.size)
  have hbY : Below V.heap.size V Y := by rw [← hY]; exact HBw1.setCell (p := ⟨V.heap.size, 34, none⟩) (Nat.le_refl _) _
  have hoY : OwnL iK Y X1.heap.size (.slice A1 r0.toks.length c1) r0.toks := o1.of_block (fun k hk => by
    have h1 := (o1.lt_ k hk).1
    have h2 := HXA.out.1
    rw [← hY]
    exact setCell_block _ _ _ _ _ (by omega))
  have HRY := Lib.hid (show RcAt Y Y.heap.size V.heap.size Dq from ⟨hRY.lt, hRY⟩)
  have HOY := Lib.hid hoY
  clear C1 hX1 dt1 hR1 hst HBw1 hRY hoY o1 b1 HXA HXB hDq voq vzq hvzp hvop hfit
  have b1 := hbY
  have HB1 := Lib.hid (HB0.out.trans (b1.mono HB0.out.size))
  have Ft_1 := Lib.hid ((Ft_0.out.below_ b1 (Nat.le_refl _)).mono_ b1.size)
  have Fbt_1 := Lib.hid ((Fbt_0.out.below_ b1 (Nat.le_refl _)).mono_ b1.size)
  have Fb_1 := Lib.hid ((Fb_0.out.below_ b1 (Nat.le_refl _)).mono_ b1.size)
  have dbt_1 := Fbt_1.out.2.val_ HCP.out.2
  clear b1 HB0 Ft_0 Fbt_0 Fb_0 dbt_0
  have Fown_1 := Lib.hid HOY.out.form_
  have Fbown_1 := HRY
  clear HOY HRY
  have C2 := Lib.hid (prcput_any r0 _ _ Y fitp.out Fown_1.out (Nat.le_refl _))
  rw [HX.out, HDQ.out] at C2
  go_wp2_with (first
    | (refine wpList_load_row rfl _ _ rfl w.heap.size rfl 27 Dp (0, 0) _ Fbt_1.out.2 Try.underlying27 rfl (by rw [vsp]) ?_)
    | (refine wpList_load_row rfl _ _ rfl V.heap.size rfl 27 Dq (0, 0) _ Fbown_1.out.2 Try.underlying27 rfl (by rw [vsq]) ?_))
  refine (C2.out).mono ?_
  rintro e w2 ⟨A2, c2, rfl, o2, b2⟩
  have dbt_2 := (Fbt_1.out.below_ b2 (Nat.le_refl _)).2
  have C3 := Lib.hid (spoilO_any _ _ _ w2 o2)
  have Oz2 := Lib.hid o2
  have Bz2 := Lib.hid b2
  clear C2 o2 b2
  go_wp2_with (fail)
  refine (C3.out).mono ?_
  rintro e w3 ⟨⟨xx3, rfl⟩, g3⟩
  have b3 := Bz2.out.grown g3 Bz2.out.size (fun k hk => (Oz2.out.lt_ k hk).1)
  have HB3 := Lib.hid (HB1.out.trans (b3.mono HB1.out.size))
  have Ft_3 := Lib.hid ((Ft_1.out.below_ b3 (Nat.le_refl _)).mono_ b3.size)
  have Fbt_3 := Lib.hid ((Fbt_1.out.below_ b3 (Nat.le_refl _)).mono_ b3.size)
  have Fb_3 := Lib.hid ((Fb_1.out.below_ b3 (Nat.le_refl _)).mono_ b3.size)
  have Fown_3 := Lib.hid ((Fown_1.out.below_ b3 (Nat.le_refl _)).mono_ b3.size)
  have Fbown_3 := Lib.hid ((Fbown_1.out.below_ b3 (Nat.le_refl _)).mono_ b3.size)
  have dbt_3 := Fbt_3.out.2
  clear C3 b3 g3 Oz2 Bz2 HB1 Ft_1 Fbt_1 Fb_1 Fown_1 Fbown_1 dbt_1 dbt_2
  clear hY df dc HST
  have C4 := Lib.hid (wide_far _ l1 _ w3 (Nat.le_refl _) Fb_3.out.bv_ HR1.out)
  go_wp2_with (first
    | (refine wpList_load_row rfl _ _ rfl w.heap.size rfl 27 Dp (0, 0) _ Fbt_3.out.2 Try.underlying27 rfl (by rw [vsp]) ?_)
    | (refine wpList_load_row rfl _ _ rfl V.heap.size rfl 27 Dq (0, 0) _ Fbown_3.out.2 Try.underlying27 rfl (by rw [vsq]) ?_))
  refine (C4.out).mono ?_
  rintro e w4 ⟨g4, rfl, o4, b4⟩
  have HB4 := Lib.hid (HB3.out.trans (b4.mono HB3.out.size))
  have Ft_4 := Lib.hid ((Ft_3.out.below_ b4 (Nat.le_refl _)).mono_ b4.size)
  have Fbt_4 := Lib.hid ((Fbt_3.out.below_ b4 (Nat.le_refl _)).mono_ b4.size)
  have Fb_4 := Lib.hid ((Fb_3.out.below_ b4 (Nat.le_refl _)).mono_ b4.size)
  have Fown_4 := Lib.hid ((Fown_3.out.below_ b4 (Nat.le_refl _)).mono_ b4.size)
  have Fbown_4 := Lib.hid ((Fbown_3.out.below_ b4 (Nat.le_refl _)).mono_ b4.size)
  have dbt_4 := Fbt_4.out.2.val_ HCP.out.2
  clear C4 b4 HB3 Ft_3 Fbt_3 Fb_3 Fown_3 Fbown_3 dbt_3
  have ht := o4.form_.take_ (k := l1.length) (by simp)
  rw [List.take_left] at ht
  have Fz_4 : Hid (Lv yK w4 w4.heap.size (.slice (some ⟨g4, 0, none⟩) l1.length (l1.length + 3)) l1) := ht.lv_
  have Fzw_4 : Hid (Lv yK w4 w4.heap.size (.slice (some ⟨g4, 0, none⟩) (l1.length + 3) (l1.length + 3)) (l1 ++ [7, 7, 7])) := o4.form_.lv_
  clear ht o4
  have C5 := Lib.hid (prcget_any _ l1 _ w4 Fz_4.out (Nat.le_refl _))
  rw [HY.out] at C5
  go_wp2_with (first
      | (refine wpList_load_row rfl _ _ rfl w.heap.size rfl 27 Dp (0, 0) _ Fbt_4.out.2 Try.underlying27 rfl (by rw [vsp]) ?_)
      | (refine wpList_load_row rfl _ _ rfl V.heap.size rfl 27 Dq (0, 0) _ Fbown_4.out.2 Try.underlying27 rfl (by rw [vsq]) ?_))
  refine (C5.out).mono ?_
  rintro e w5 ⟨A5, c5, rfl, f5, o5, b5⟩
  obtain ⟨D5, hD5⟩ : ∃ C, rcC y (.slice A5 y.toks.length c5) = C := ⟨_, rfl⟩
  obtain ⟨vs5, vo5, vz5⟩ := rc_val f5 hD5
  have c34 : Hid (D5[34]? = some (.slice A5 y.toks.length c5)) := by unfold Hid; rw [← hD5]; exact rcC_toks f5
  rw [hD5]
  obtain ⟨X5, hX5⟩ : ∃ X, (w5.alloc (.cells N 27)).setRow w5.heap.size D5 = X := ⟨_, rfl⟩
  obtain ⟨hxa, hxb⟩ := rc_stored hX5
  have d34 := hxa.2.val_ c34.out
  have OX := Lib.hid (o5.below_ hxb (Nat.le_refl _))
  have Bz5 := Lib.hid (b5.trans (hxb.mono b5.size))
  have C6 := Lib.hid (spoilInts_any _ _ _ X5 OX.out)
  replace vz5 := Lib.hid vz5
  clear C5 hxa hxb o5 b5 f5 hD5
  go_wp2_with (first
    | (refine wpList_store_row rfl _ _ _ rfl w5.heap.size D5 rfl rfl 27 N (Rw.new w5 _ _) vs5 (by rw [vz5.out, hn35]) vo5 ?_; rw [hX5]))
  refine (C6.out).mono ?_
  rintro e w6 ⟨⟨xx6, rfl⟩, g6⟩
  have b6 := Bz5.out.grown g6 Bz5.out.size (fun k hk => (OX.out.lt_ k hk).1)
  have HB6 := Lib.hid (HB4.out.trans (b6.mono HB4.out.size))
  have Ft_6 := Lib.hid ((Ft_4.out.below_ b6 (Nat.le_refl _)).mono_ b6.size)
  have Fbt_6 := Lib.hid ((Fbt_4.out.below_ b6 (Nat.le_refl _)).mono_ b6.size)
  have Fb_6 := Lib.hid ((Fb_4.out.below_ b6 (Nat.le_refl _)).mono_ b6.size)
  have Fown_6 := Lib.hid ((Fown_4.out.below_ b6 (Nat.le_refl _)).mono_ b6.size)
  have Fbown_6 := Lib.hid ((Fbown_4.out.below_ b6 (Nat.le_refl _)).mono_ b6.size)
  have Fz_6 := Lib.hid ((Fz_4.out.below_ b6 (Nat.le_refl _)).mono_ b6.size)
  have Fzw_6 := Lib.hid ((Fzw_4.out.below_ b6 (Nat.le_refl _)).mono_ b6.size)
  have dbt_6 := Fbt_6.out.2.val_ HCP.out.2
  clear C6 b6 g6 Bz5 OX d34 c34 hX5 vs5 vo5 vz5 HB4 Ft_4 Fbt_4 Fb_4 Fown_4 Fbown_4 Fz_4 Fzw_4 dbt_4
  clear Fz_6
  have C7 := Lib.hid (rec_lv r0 r0 _ _ _ _ w6 fitp.out fitp.out Fown_6.out Ft_6.out (Nat.le_refl _) (Nat.le_refl _))
  rw [HDQ.out, hDp.out] at C7
  simp only [decide_true] at C7
  go_wp2_with (first
    | (refine wpList_load_row rfl _ _ rfl w.heap.size rfl 27 Dp (0, 0) _ Fbt_6.out.2 Try.underlying27 rfl (by rw [vsp]) ?_)
    | (refine wpList_load_row rfl _ _ rfl V.heap.size rfl 27 Dq (0, 0) _ Fbown_6.out.2 Try.underlying27 rfl (by rw [vsq]) ?_))
  refine (C7.out).mono ?_
  rintro e w7 ⟨rfl, b7⟩
  have HB7 := Lib.hid (HB6.out.trans (b7.mono HB6.out.size))
  have Ft_7 := Lib.hid ((Ft_6.out.below_ b7 (Nat.le_refl _)).mono_ b7.size)
  have Fbt_7 := Lib.hid ((Fbt_6.out.below_ b7 (Nat.le_refl _)).mono_ b7.size)
  have Fb_7 := Lib.hid ((Fb_6.out.below_ b7 (Nat.le_refl _)).mono_ b7.size)
  have Fown_7 := Lib.hid ((Fown_6.out.below_ b7 (Nat.le_refl _)).mono_ b7.size)
  have Fbown_7 := Lib.hid ((Fbown_6.out.below_ b7 (Nat.le_refl _)).mono_ b7.size)
  have Fzw_7 := Lib.hid ((Fzw_6.out.below_ b7 (Nat.le_refl _)).mono_ b7.size)
  have dbt_7 := Fbt_7.out.2.val_ HCP.out.2
  clear C7 b7 HB6 Ft_6 Fbt_6 Fb_6 Fown_6 Fbown_6 Fzw_6 dbt_6
  have C8 := Lib.hid (left_any g4 l1 _ _ _ w7 Fzw_7.out.bv_ Fb_7.out.bv_)
  go_wp2_with (first
    | (refine wpList_load_row rfl _ _ rfl w.heap.size rfl 27 Dp (0, 0) _ Fbt_7.out.2 Try.underlying27 rfl (by rw [vsp]) ?_)
    | (refine wpList_load_row rfl _ _ rfl V.heap.size rfl 27 Dq (0, 0) _ Fbown_7.out.2 Try.underlying27 rfl (by rw [vsq]) ?_))
  refine (C8.out).mono ?_
  rintro e w8 ⟨rfl, b8⟩
  have HB8 := Lib.hid (HB7.out.trans (b8.mono HB7.out.size))
  have Ft_8 := Lib.hid ((Ft_7.out.below_ b8 (Nat.le_refl _)).mono_ b8.size)
  have Fbt_8 := Lib.hid ((Fbt_7.out.below_ b8 (Nat.le_refl _)).mono_ b8.size)
  have Fb_8 := Lib.hid ((Fb_7.out.below_ b8 (Nat.le_refl _)).mono_ b8.size)
  have Fown_8 := Lib.hid ((Fown_7.out.below_ b8 (Nat.le_refl _)).mono_ b8.size)
  have Fbown_8 := Lib.hid ((Fbown_7.out.below_ b8 (Nat.le_refl _)).mono_ b8.size)
  have Fzw_8 := Lib.hid ((Fzw_7.out.below_ b8 (Nat.le_refl _)).mono_ b8.size)
  have dbt_8 := Fbt_8.out.2.val_ HCP.out.2
  clear C8 b8 HB7 Ft_7 Fbt_7 Fb_7 Fown_7 Fbown_7 Fzw_7 dbt_7
  clear Fown_8
  clear Ft_8
  clear Fzw_8
  clear Fb_8
  clear Fbown_8
  have C9 := Lib.hid (works_rc w8)
  go_wp2_with (first
    | (refine wpList_load_row rfl _ _ rfl w.heap.size rfl 27 Dp (0, 0) _ Fbt_8.out.2 Try.underlying27 rfl (by rw [vsp]) ?_))
  refine (C9.out).mono ?_
  rintro e w9 ⟨rfl, b9⟩
  have HB9 := Lib.hid (HB8.out.trans (b9.mono HB8.out.size))
  have Fbt_9 := Lib.hid ((Fbt_8.out.below_ b9 (Nat.le_refl _)).mono_ b9.size)
  have dbt_9 := Fbt_9.out.2.val_ HCP.out.2
  clear C9 b9 HB8 Fbt_8 dbt_8
  go_wp2_with (first
    | (refine wpList_load_row rfl _ _ rfl w.heap.size rfl 27 Dp (0, 0) _ Fbt_9.out.2 Try.underlying27 rfl (by rw [vsp]) ?_))
  go_ret
  exact ⟨rfl, HB9.out⟩

/-! ### From the walk to the row -/
set_option maxRecDepth 100000 in
theorem lifted (os : Os) (started : os.Started) (H : Type) (enc : TypeId × Value → H) :
    ReturnsInHanded {} Try.checked os 9 .any (Rows.recordFreshSpec.pre6 enc Try.prog Try.f9 Rows.recordFreshRow.domain false) (Rows.recordFreshSpec.post enc Try.prog Try.f9 false true false false) := by
  refine returnsInHanded_of_change_sized (C := Try.checked) own started (by kernel_rfl) Try.func9
    (ChangeSpec.witness6 (enc := enc) (C := Try.checked) false ⟨#[], #[.agg #[.int .u8 0, .int .u8 0, .int .u8 0, .int .u8 0, .int .u8 0, .int .u8 0, .int .u8 0, .int .u8 0, .int .u8 0, .int .u8 0, .int .u8 0, .int .u8 0, .int .u8 0, .int .u8 0, .int .u8 0, .int .u8 0, .int .u8 0, .int .u8 0, .int .u8 0, .int .u8 0, .int .u8 0, .int .u8 0, .int .u8 0, .int .u8 0, .int .u8 0, .int .u8 0, .int .u8 0, .int .u8 0, .int .u8 0, .int .u8 0, .int .u8 0, .int .u8 0, .int .u64 0, .int .i64 0, .slice none 0 0], .slice none 0 0], []⟩ 8 (by kernel_rfl) (by kernel_rfl) (by kernel_rfl) (by kernel_rfl)) ?_
  intro W base args ds gs before hval0 hW hcnd hreach _
  have hval : ∀ (j : Nat) t v, Try.f9.params[j]? = some t → args[j]? = some v → Value.okWide Try.prog W .any base t v := hval0
  have hW' := hW
  obtain ⟨p, q, hA0, hV, rfl, hfz, hnd⟩ := hW
  have hA : DataW.TrodAll enc Try.prog W 0 (fun _ => true) true Try.f9.params.toList args.toList ds p := hA0
  rw [Try.params9] at hA hval
  obtain ⟨v0, vs0, d0, ds0, p0, q0, hargs, rfl, rfl, h0, r0⟩ := trodAll_cons hA
  obtain ⟨v1, vs1, d1, ds1, p1, q1, rfl, rfl, rfl, h1, r1⟩ := trodAll_cons r0
  obtain ⟨rfl, rfl, rfl⟩ := trodAll_nil r1
  obtain rfl : args = #[v0, v1] := by cases args; simp_all
  obtain ⟨rfl, rfl⟩ := trodVars_none hV
  have k0 := h0
  have lt0 : ∀ x ∈ p0, x.block < W.heap.size := by obtain ⟨m, hm⟩ := k0; exact DataW.trod_lt m _ _ _ hm
  obtain ⟨rc0, t0, rfl, f0, hb0, wt0⟩ := rec_in (hval 0 27 v0 rfl rfl) h0
  have reach0 : rc0.toks.length * 8 ≤ 140737488351232 := by have := wt0 (List.all_eq_true.2 fun n hn => List.all_eq_true.1 hreach n (DataW.weights_mem_each (j := 0) rfl rfl n hn)); simpa [reachBytes] using this
  obtain ⟨a1, len1, cap1, rfl⟩ := okWide_slice Try.underlying28 (hval 1 28 v1 rfl rfl)
  have k1 := h1
  have lt1 : ∀ x ∈ p1, x.block < W.heap.size := by obtain ⟨m, hm⟩ := k1; exact DataW.trod_lt m _ _ _ hm
  obtain ⟨l1, len_1, hb1⟩ : ∃ l : List Nat, l.length = len1 ∧ Bv W W.heap.size (.slice a1 len1 cap1) l := by
    obtain ⟨fuel, hf⟩ := h1
    rcases open_ints Try.underlying28 Try.underlying5 (by kernel_rfl) hf with ⟨hcs, _⟩ | ⟨x, l, c, zs, hcs, _, hl, hm, hz, _, hcell, hwz⟩
    · simp [Value.cells] at hcs
      obtain ⟨rfl, rfl, rfl⟩ := hcs
      exact bytes_in (.inl ⟨rfl, rfl, rfl⟩)
    · simp [Value.cells] at hcs
      obtain ⟨rfl, rfl, rfl⟩ := hcs
      exact bytes_in (.inr ⟨x, zs, rfl, hl, hm, by simpa using hz, hcell, hwz⟩)
  have reach1 : len1 * 1 ≤ 140737488351232 := by
    obtain ⟨fuel, hf⟩ := k1
    rcases open_ints Try.underlying28 Try.underlying5 (by kernel_rfl) hf with ⟨hcs, _⟩ | ⟨x, l, c, zs, hcs, _, hl, hm, hz, hx, hcell, hwz⟩
    · simp [Value.cells] at hcs
      omega
    · simp [Value.cells] at hcs
      obtain ⟨rfl, rfl, rfl⟩ := hcs
      rw [Prod.mk.injEq] at hx
      have hs := sized_slice hreach (j := 1) (t := 28) (e := 5) (elems := lits .u8 (zs.take len1)) (spare := lits .u8 (zs.drop len1)) rfl (by rw [hx.1]; rfl) Try.underlying28
      have hb : Try.prog.bytesOf 5 = 1 := by kernel_rfl
      change _ * Try.prog.bytesOf 5 ≤ _ at hs
      rw [hb] at hs
      simp [lits, reachBytes] at hs hz
      omega
  clear hA0 hval0
  refine (walk W rc0 t0 f0 hb0 (.slice a1 len1 cap1) l1 hb1 reach0 (by rw [len_1]; exact reach1)).mono fun e W' ⟨he, bel⟩ => ?_
  subst he
  exact ⟨_, rfl, _, _, _, [], _, [], hW', trodAll_mk1 (shut_bool Try.underlying4 _), (trodAll_cons_mk (Below.trod laidOut (by kernel_rfl) (of_decide_eq_true (by kernel_rfl)) k0 bel lt0) (trodAll_cons_mk (Below.trod laidOut (by kernel_rfl) (of_decide_eq_true (by kernel_rfl)) k1 bel lt1) trodAll_mk0)), rfl, bel.frame _, fun h => by cases h⟩

theorem proved : Rows.RecordFreshSaid :=
  OpenClaim.holds_of_wide 9 Try.f9 rfl rfl rfl rfl rfl rfl rfl ⟨rfl, rfl, rfl, rfl, rfl⟩ rfl rfl rfl rfl rfl (by kernel_rfl) Try.func9 (by kernel_rfl)
    (of_decide_eq_true (by kernel_rfl)) (by unfold Func.isWrapper; first | (rw [if_pos (by decide +kernel)]; kernel_rfl) | (rw [if_neg (by decide +kernel)]; exact ⟨rfl, rfl⟩))
    (fun os started H enc _ => lifted os started H enc)

end Go.Proofs.Ytkialijipcbgkaa.recordFresh
