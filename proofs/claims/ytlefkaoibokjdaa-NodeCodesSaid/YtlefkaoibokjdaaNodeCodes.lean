/-
  NodeCodes: which nodes may be, their bytes, and what is read of any bytes, are the document's. Reach: each slice that comes in has at most 140737488351232 bytes.
-/
import Derived.Test.YtlefkaoibokjdaaPc12
import Derived.Test.YtlefkaoibokjdaaPc04
import Derived.Test.YtlefkaoibokjdaaPc05
import Derived.Test.YtlefkaoibokjdaaPc25
import Derived.Test.YtlefkaoibokjdaaPc26
import Derived.Test.YtlefkaoibokjdaaPc27
import Derived.Test.YtlefkaoibokjdaaPc13
import Derived.Test.YtlefkaoibokjdaaPc18
import Derived.Test.YtlefkaoibokjdaaPc16
import Derived.Test.YtlefkaoibokjdaaPc03
namespace Go.Proofs.Ytlefkaoibokjdaa.nodeCodes
open Go.ChangeShapes Go.WideShapes Go.ChangeAt Go.RowKit
open Go.ChangeMaps (open_string shut_string)
set_option linter.unusedVariables false

theorem nd_cells {w : World} {B : Nat} {v : Value} {n : Nd.Node} (h : NdIs w B v n) : ∃ D, v = .agg D ∧ (Try.prog.info? 26).map (·.size) = some D.size ∧ D.all (·.oneCell') = true ∧ D.size = 4 := by
  obtain ⟨Ak, ck, Av, cv, Ai, ci, e, -⟩ := h
  exact ⟨_, e, by kernel_rfl, by simp [Value.oneCell'], rfl⟩
set_option maxHeartbeats 4000000 in
set_option maxRecDepth 100000 in
theorem walk (w : World) (n0 : Nd.Node) (v0 : Value) (h0 : NdIs w w.heap.size v0 n0) (n1 : Nat) (u1 : n1 < 256) (v2 : Value) (l2 : List Nat) (g2 : Bv w w.heap.size v2 l2) (q2 : l2.length * 1 ≤ 140737488351232) :
    Calls Try.prog 3 #[v0, .int .u8 (n1 : Nat), v2] w (IsBool true w) := by
  have hz := (zero_of_info nd_zero).1
  obtain ⟨Z, hZ⟩ : ∃ Z, ndZ = Z := ⟨_, rfl⟩
  have HZS : Hid (Z.size = 4) := by unfold Hid; rw [← hZ]; rfl
  rw [hZ] at hz
  clear hZ
  have HR : Hid (l2.length ≤ 140737488351232) := by unfold Hid; omega
  have HU := Lib.hid u1
  obtain ⟨D, rfl, hsz, -, -⟩ := nd_cells h0
  obtain ⟨⟨p, E⟩, hp⟩ : ∃ r, Nd.putE n0 = r := ⟨_, rfl⟩
  obtain ⟨⟨g, E2⟩, hg⟩ : ∃ r, Nd.getE n1 l2 = r := ⟨_, rfl⟩
  obtain ⟨bw, hbw⟩ : ∃ b, Nd.wide n0 = b := ⟨_, rfl⟩
  obtain ⟨bm, hbm⟩ : ∃ b, Nd.may n0 = b := ⟨_, rfl⟩
  have HP := Lib.hid hp
  have HG := Lib.hid hg
  have HBW := Lib.hid hbw
  have HBM := Lib.hid hbm
  obtain ⟨W, hW⟩ : ∃ W, w.alloc (.cells D 26) = W := ⟨_, rfl⟩
  obtain ⟨hxa, hxb⟩ := bxt_new hW
  have HB0 := Lib.hid hxb
  have Fbr_0 := Lib.hid hxa
  have Fn_0 := Lib.hid ((h0.below_ hxb (Nat.le_refl _)).mono_ hxb.size)
  have Fb_0 := Lib.hid ((g2.lv_.below_ hxb (Nat.le_refl _)).mono_ hxb.size)
  clear hxa hxb h0 g2 q2 u1 hp hg hbw hbm
  go_enter Try.func3, Try.ntmps3
  have C1 := Lib.hid (pnput_any n0 _ _ W Fn_0.out (Nat.le_refl _))
  rw [HP.out] at C1
  go_wp2_with (first
    | (refine wpList_load_row rfl _ _ rfl w.heap.size rfl 26 D (0, 0) _ Fbr_0.out.2 Try.underlying26 rfl hsz ?_))
  refine C1.out.mono ?_
  rintro e w1 ⟨A1, c1, rfl, o1, b1⟩
  have HB1 := Lib.hid (HB0.out.trans (b1.mono HB0.out.size))
  have Fbr_1 := Lib.hid ((Fbr_0.out.below_ b1 (Nat.le_refl _)).mono_ b1.size)
  have Fn_1 := Lib.hid ((Fn_0.out.below_ b1 (Nat.le_refl _)).mono_ b1.size)
  have Fb_1 := Lib.hid ((Fb_0.out.below_ b1 (Nat.le_refl _)).mono_ b1.size)
  have Fp_1 := Lib.hid (o1.form_)
  clear C1 b1 HB0 Fbr_0 Fn_0 Fb_0 o1
  have C2 := Lib.hid (rndput_any n0 _ _ w1 Fn_1.out (Nat.le_refl _))
  rw [HP.out] at C2
  simp only at Fp_1 ⊢
  go_wp2_with (first
    | (refine wpList_load_row rfl _ _ rfl w.heap.size rfl 26 D (0, 0) _ Fbr_1.out.2 Try.underlying26 rfl hsz ?_))
  refine C2.out.mono ?_
  rintro e w2 ⟨A2, c2, rfl, o2, b2⟩
  have HB2 := Lib.hid (HB1.out.trans (b2.mono HB1.out.size))
  have Fbr_2 := Lib.hid ((Fbr_1.out.below_ b2 (Nat.le_refl _)).mono_ b2.size)
  have Fn_2 := Lib.hid ((Fn_1.out.below_ b2 (Nat.le_refl _)).mono_ b2.size)
  have Fb_2 := Lib.hid ((Fb_1.out.below_ b2 (Nat.le_refl _)).mono_ b2.size)
  have Fp_2 := Lib.hid ((Fp_1.out.below_ b2 (Nat.le_refl _)).mono_ b2.size)
  have Fq_2 := Lib.hid (o2.form_)
  clear C2 b2 HB1 Fbr_1 Fn_1 Fb_1 Fp_1 o2
  simp only at Fq_2 ⊢
  have HSM : Hid (∀ w', Below w2.heap.size w2 w' → Calls Try.prog 15 #[.slice A1 p.length c1, .slice A2 p.length c2] w' (IsBool true w')) := fun w' hb => by
    have := same_bv _ _ _ _ _ _ w' (Fp_2.out.below_ hb (Nat.le_refl _)) (Fq_2.out.below_ hb (Nat.le_refl _))
    simpa using this
  have HPW : Hid (∀ w', Below w2.heap.size w2 w' → Calls Try.prog 11 #[.agg D] w' (IsBool bw w')) := fun w' hb => by
    have := pnwide_any n0 _ _ w' (Fn_2.out.below_ hb (Nat.le_refl _)) hb.size
    rwa [HBW.out] at this
  have HRW : Hid (∀ w', Below w2.heap.size w2 w' → Calls Try.prog 12 #[.agg D] w' (IsBool bw w')) := fun w' hb => by
    have := rwide_any n0 _ _ w' (Fn_2.out.below_ hb (Nat.le_refl _)) hb.size
    rwa [HBW.out] at this
  have HPM : Hid (∀ w', Below w2.heap.size w2 w' → Calls Try.prog 13 #[.agg D] w' (IsBool bm w')) := fun w' hb => by
    have := pnmay_any n0 _ _ w' (Fn_2.out.below_ hb (Nat.le_refl _)) hb.size
    rwa [HBM.out] at this
  have HRM : Hid (∀ w', Below w2.heap.size w2 w' → Calls Try.prog 14 #[.agg D] w' (IsBool bm w')) := fun w' hb => by
    have := rmay_any n0 _ _ w' (Fn_2.out.below_ hb (Nat.le_refl _)) hb.size
    rwa [HBM.out] at this
  have HCR : Hid (∀ w', Below w2.heap.size w2 w' → w'.heap[w.heap.size]? = some (.cells D 26 (0, 0))) := fun w' hb => (Fbr_2.out.below_ hb (Nat.le_refl _)).2
  clear Fn_2 Fbr_2 Fp_2 Fq_2
  go_wp2
  refine wp_region_grow 22 (by kernel_rfl) (by kernel_rfl) (fun w' => Below w2.heap.size w2 w') ((Below.refl _ _).drew) ?_
  simp only [List.take_succ_cons, List.take_zero, List.drop_succ_cons, List.drop_zero]
  refine wpGrow_load_row rfl _ _ rfl w.heap.size rfl _ D (0, 0) _ (fun w' h => HCR.out w' h) Try.underlying26 rfl hsz ?_
  go_simp
  refine wpGrow_call (v := .bool bw) (f := 11) (args := #[.agg D]) rfl (fun w' => by go_simp) (fun w' h => (HPW.out w' h).mono ?_) ?_
  · rintro e w5 ⟨rfl, hb5⟩
    exact ⟨rfl, h.trans (hb5.mono h.size)⟩
  go_simp
  refine wpGrow_load_row rfl _ _ rfl w.heap.size rfl _ D (0, 0) _ (fun w' h => HCR.out w' h) Try.underlying26 rfl hsz ?_
  go_simp
  refine wpGrow_call (v := .bool bw) (f := 12) (args := #[.agg D]) rfl (fun w' => by go_simp) (fun w' h => (HRW.out w' h).mono ?_) ?_
  · rintro e w5 ⟨rfl, hb5⟩
    exact ⟨rfl, h.trans (hb5.mono h.size)⟩
  go_simp
  iterate 2 (refine wpGrow_pure (v := ?_) rfl ?_ ?_; rotate_left; focus (intro w' hb'; go_simp; first | done | with_reducible rfl)
             go_simp)
  refine wpGrow_load_row rfl _ _ rfl w.heap.size rfl _ D (0, 0) _ (fun w' h => HCR.out w' h) Try.underlying26 rfl hsz ?_
  go_simp
  refine wpGrow_call (v := .bool bm) (f := 13) (args := #[.agg D]) rfl (fun w' => by go_simp) (fun w' h => (HPM.out w' h).mono ?_) ?_
  · rintro e w5 ⟨rfl, hb5⟩
    exact ⟨rfl, h.trans (hb5.mono h.size)⟩
  go_simp
  refine wpGrow_load_row rfl _ _ rfl w.heap.size rfl _ D (0, 0) _ (fun w' h => HCR.out w' h) Try.underlying26 rfl hsz ?_
  go_simp
  refine wpGrow_call (v := .bool bm) (f := 14) (args := #[.agg D]) rfl (fun w' => by go_simp) (fun w' h => (HRM.out w' h).mono ?_) ?_
  · rintro e w5 ⟨rfl, hb5⟩
    exact ⟨rfl, h.trans (hb5.mono h.size)⟩
  go_simp
  iterate 10 (refine wpGrow_pure (v := ?_) rfl ?_ ?_; rotate_left; focus (intro w' hb'; go_simp; first | done | with_reducible rfl)
              go_simp)
  refine wpGrow_call (v := .bool true) (f := 15) (args := #[.slice A1 p.length c1, .slice A2 p.length c2]) rfl (fun w' => by go_simp) (fun w' h => (HSM.out w' h).mono ?_) ?_
  · rintro e w5 ⟨rfl, hb5⟩
    exact ⟨rfl, h.trans (hb5.mono h.size)⟩
  go_simp
  iterate 1 (refine wpGrow_pure (v := ?_) rfl ?_ ?_; rotate_left; focus (intro w' hb'; go_simp; first | done | with_reducible rfl)
             go_simp)
  refine wpGrow_nil ?_
  intro w5 hb5
  clear HSM HPW HRW HPM HRM HCR
  have HB5 := Lib.hid (HB2.out.trans (hb5.mono HB2.out.size))
  have Fb_5 := Lib.hid ((Fb_2.out.below_ hb5 (Nat.le_refl _)).mono_ hb5.size)
  clear hb5 Fb_2 HB2
  have C6 := Lib.hid (wide_far _ l2 _ w5 (Nat.le_refl _) Fb_5.out.bv_ HR.out)
  go_wp2_with (fail)
  refine (C6.out).mono ?_
  rintro e w6 ⟨g6, rfl, o6, b6⟩
  have HB6 := Lib.hid (HB5.out.trans (b6.mono HB5.out.size))
  have Fb_6 := Lib.hid ((Fb_5.out.below_ b6 (Nat.le_refl _)).mono_ b6.size)
  clear C6 b6 HB5 Fb_5
  have ht := o6.form_.take_ (k := l2.length) (by simp)
  rw [List.take_left] at ht
  have Fz_6 : Hid (Bv w6 w6.heap.size (.slice (some ⟨g6, 0, none⟩) l2.length (l2.length + 3)) l2) := ht
  have Fzw_6 : Hid (Lv yK w6 w6.heap.size (.slice (some ⟨g6, 0, none⟩) (l2.length + 3) (l2.length + 3)) (l2 ++ [7, 7, 7])) := o6.form_.lv_
  clear ht o6
  have C7 := Lib.hid (pnget_any n1 HU.out _ l2 _ w6 Fz_6.out (Nat.le_refl _) (by have := HR.out; omega))
  rw [HG.out] at C7
  go_wp2_with (fail)
  refine (C7.out).mono ?_
  rintro e w7 ⟨v7, rfl, f7, b7⟩
  have HB7 := Lib.hid (HB6.out.trans (b7.mono HB6.out.size))
  have Fb_7 := Lib.hid ((Fb_6.out.below_ b7 (Nat.le_refl _)).mono_ b7.size)
  have Fzw_7 := Lib.hid ((Fzw_6.out.below_ b7 (Nat.le_refl _)).mono_ b7.size)
  clear C7 b7 HB6 Fb_6 Fz_6 Fzw_6
  obtain ⟨D7, rfl, vs7, vo7, vz7⟩ := nd_cells f7
  obtain ⟨X7, hX7⟩ : ∃ X, (w7.alloc (.cells Z 26)).setRow w7.heap.size D7 = X := ⟨_, rfl⟩
  obtain ⟨hxa7, b8⟩ := bxt_stored hX7
  have HB8 := Lib.hid (HB7.out.trans (b8.mono HB7.out.size))
  have Fb_8 := Lib.hid ((Fb_7.out.below_ b8 (Nat.le_refl _)).mono_ b8.size)
  have Fzw_8 := Lib.hid ((Fzw_7.out.below_ b8 (Nat.le_refl _)).mono_ b8.size)
  have Fx_8 := Lib.hid ((f7.below_ b8 (Nat.le_refl _)).mono_ b8.size)
  have Fbx_8 := Lib.hid hxa7
  have HZ7 : Hid (Z.size = D7.size) := by unfold Hid; rw [HZS.out, vz7]
  clear b8 HB7 Fb_7 Fzw_7 f7 hxa7
  have C9 := Lib.hid (rndget_any n1 _ l2 _ X7 Fb_8.out.bv_ (Nat.le_refl _) (by have := HR.out; omega))
  rw [HG.out] at C9
  simp only
  go_wp2_with (first
    | (refine wpList_store_row rfl _ _ _ rfl w7.heap.size D7 rfl rfl 26 Z (Rw.new w7 _ _) vs7 HZ7.out vo7 ?_; rw [hX7])
    | (refine wpList_load_row rfl _ _ rfl w7.heap.size rfl 26 D7 (0, 0) _ Fbx_8.out.2 Try.underlying26 rfl vs7 ?_))
  refine (C9.out).mono ?_
  rintro e w9 ⟨v9, rfl, f9, b9⟩
  have HB9 := Lib.hid (HB8.out.trans (b9.mono HB8.out.size))
  have Fb_9 := Lib.hid ((Fb_8.out.below_ b9 (Nat.le_refl _)).mono_ b9.size)
  have Fzw_9 := Lib.hid ((Fzw_8.out.below_ b9 (Nat.le_refl _)).mono_ b9.size)
  have Fx_9 := Lib.hid ((Fx_8.out.below_ b9 (Nat.le_refl _)).mono_ b9.size)
  have Fbx_9 := Lib.hid ((Fbx_8.out.below_ b9 (Nat.le_refl _)).mono_ b9.size)
  clear C9 b9 HB8 Fb_8 Fzw_8 Fx_8 Fbx_8 hX7
  obtain ⟨D9, rfl, vs9, vo9, vz9⟩ := nd_cells f9
  obtain ⟨X9, hX9⟩ : ∃ X, (w9.alloc (.cells Z 26)).setRow w9.heap.size D9 = X := ⟨_, rfl⟩
  obtain ⟨hxa9, b10⟩ := bxt_stored hX9
  have HB10 := Lib.hid (HB9.out.trans (b10.mono HB9.out.size))
  have Fb_10 := Lib.hid ((Fb_9.out.below_ b10 (Nat.le_refl _)).mono_ b10.size)
  have Fzw_10 := Lib.hid ((Fzw_9.out.below_ b10 (Nat.le_refl _)).mono_ b10.size)
  have Fx_10 := Lib.hid ((Fx_9.out.below_ b10 (Nat.le_refl _)).mono_ b10.size)
  have Fbx_10 := Lib.hid ((Fbx_9.out.below_ b10 (Nat.le_refl _)).mono_ b10.size)
  have Fy_10 := Lib.hid ((f9.below_ b10 (Nat.le_refl _)).mono_ b10.size)
  have Fby_10 := Lib.hid hxa9
  have HZ9 : Hid (Z.size = D9.size) := by unfold Hid; rw [HZS.out, vz9]
  clear b10 HB9 Fb_9 Fzw_9 Fx_9 Fbx_9 f9 hxa9
  have C10 := Lib.hid (rsame_any g g _ _ _ X9 Fx_10.out Fy_10.out (Nat.le_refl _))
  rw [decide_eq_true rfl] at C10
  simp only
  go_wp2_with (first
    | (refine wpList_store_row rfl _ _ _ rfl w9.heap.size D9 rfl rfl 26 Z (Rw.new w9 _ _) vs9 HZ9.out vo9 ?_; rw [hX9])
    | (refine wpList_load_row rfl _ _ rfl w7.heap.size rfl 26 D7 (0, 0) _ Fbx_10.out.2 Try.underlying26 rfl vs7 ?_)
    | (refine wpList_load_row rfl _ _ rfl w9.heap.size rfl 26 D9 (0, 0) _ Fby_10.out.2 Try.underlying26 rfl vs9 ?_))
  refine (C10.out).mono ?_
  rintro e w10 ⟨rfl, b11⟩
  have HB11 := Lib.hid (HB10.out.trans (b11.mono HB10.out.size))
  have Fb_11 := Lib.hid ((Fb_10.out.below_ b11 (Nat.le_refl _)).mono_ b11.size)
  have Fzw_11 := Lib.hid ((Fzw_10.out.below_ b11 (Nat.le_refl _)).mono_ b11.size)
  clear C10 b11 HB10 Fb_10 Fzw_10 Fx_10 Fy_10 Fbx_10 Fby_10 hX9
  have C11 := Lib.hid (left_any g6 l2 _ _ _ w10 Fzw_11.out.bv_ Fb_11.out.bv_)
  go_wp2_with (fail)
  refine (C11.out).mono ?_
  rintro e w11 ⟨rfl, b12⟩
  have HB12 := Lib.hid (HB11.out.trans (b12.mono HB11.out.size))
  have C12 := Lib.hid (lives_nd w11)
  clear C11 b12 HB11 Fb_11 Fzw_11
  go_wp2_with (fail)
  refine (C12.out).mono ?_
  rintro e w12 ⟨rfl, b13⟩
  have HB13 := Lib.hid (HB12.out.trans (b13.mono HB12.out.size))
  clear C12 b13 HB12
  go_wp2
  go_ret
  exact ⟨rfl, HB13.out⟩
/-! ### From the walk to the row -/
set_option maxRecDepth 100000 in
theorem lifted (os : Os) (started : os.Started) (H : Type) (enc : TypeId × Value → H) :
    ReturnsInHanded {} Try.checked os 3 .any (Rows.nodeCodesSpec.pre6 enc Try.prog Try.f3 Rows.nodeCodesRow.domain false) (Rows.nodeCodesSpec.post enc Try.prog Try.f3 false true false false) := by
  refine returnsInHanded_of_change_sized (C := Try.checked) own started (by kernel_rfl) Try.func3
    (ChangeSpec.witness6 (enc := enc) (C := Try.checked) false ⟨#[], #[.agg #[.int .u8 0, .slice none 0 0, .slice none 0 0, .slice none 0 0], .int .u8 0, .slice none 0 0], []⟩ 8 (by kernel_rfl) (by kernel_rfl) (by kernel_rfl) (by kernel_rfl)) ?_
  intro W base args ds gs before hval0 hW hcnd hreach _
  have hval : ∀ (j : Nat) t v, Try.f3.params[j]? = some t → args[j]? = some v → Value.okWide Try.prog W .any base t v := hval0
  have hW' := hW
  obtain ⟨p, q, hA0, hV, rfl, hfz, hnd⟩ := hW
  have hA : DataW.TrodAll enc Try.prog W 0 (fun _ => true) true Try.f3.params.toList args.toList ds p := hA0
  rw [Try.params3] at hA hval
  obtain ⟨v0, vs0, d0, ds0, p0, q0, hargs, rfl, rfl, h0, r0⟩ := trodAll_cons hA
  obtain ⟨v1, vs1, d1, ds1, p1, q1, rfl, rfl, rfl, h1, r1⟩ := trodAll_cons r0
  obtain ⟨v2, vs2, d2, ds2, p2, q2, rfl, rfl, rfl, h2, r2⟩ := trodAll_cons r1
  obtain ⟨rfl, rfl, rfl⟩ := trodAll_nil r2
  obtain rfl : args = #[v0, v1, v2] := by cases args; simp_all
  obtain ⟨rfl, rfl⟩ := trodVars_none hV
  have k0 := h0
  have lt0 : ∀ x ∈ p0, x.block < W.heap.size := by obtain ⟨m, hm⟩ := k0; exact DataW.trod_lt m _ _ _ hm
  obtain ⟨n0, hb0⟩ := node_in (hval 0 26 v0 rfl rfl) h0
  obtain ⟨a1, rfl, rfl, rfl, w1⟩ := open_int Try.underlying22 (hval 1 22 v1 rfl rfl) h1
  obtain ⟨n1, e1, b1⟩ := u8_nat w1
  subst e1
  obtain ⟨a2, len2, cap2, rfl⟩ := okWide_slice Try.underlying27 (hval 2 27 v2 rfl rfl)
  have k2 := h2
  have lt2 : ∀ x ∈ p2, x.block < W.heap.size := by obtain ⟨m, hm⟩ := k2; exact DataW.trod_lt m _ _ _ hm
  obtain ⟨l2, len_2, hb2⟩ : ∃ l : List Nat, l.length = len2 ∧ Bv W W.heap.size (.slice a2 len2 cap2) l := by
    obtain ⟨fuel, hf⟩ := h2
    rcases open_ints Try.underlying27 Try.underlying5 (by kernel_rfl) hf with ⟨hcs, _⟩ | ⟨x, l, c, zs, hcs, _, hl, hm, hz, _, hcell, hwz⟩
    · simp [Value.cells] at hcs
      obtain ⟨rfl, rfl, rfl⟩ := hcs
      exact bytes_in (.inl ⟨rfl, rfl, rfl⟩)
    · simp [Value.cells] at hcs
      obtain ⟨rfl, rfl, rfl⟩ := hcs
      exact bytes_in (.inr ⟨x, zs, rfl, hl, hm, by simpa using hz, hcell, hwz⟩)
  have reach2 : len2 * 1 ≤ 140737488351232 := by
    obtain ⟨fuel, hf⟩ := k2
    rcases open_ints Try.underlying27 Try.underlying5 (by kernel_rfl) hf with ⟨hcs, _⟩ | ⟨x, l, c, zs, hcs, _, hl, hm, hz, hx, hcell, hwz⟩
    · simp [Value.cells] at hcs
      omega
    · simp [Value.cells] at hcs
      obtain ⟨rfl, rfl, rfl⟩ := hcs
      rw [Prod.mk.injEq] at hx
      have hs := sized_slice hreach (j := 2) (t := 27) (e := 5) (elems := lits .u8 (zs.take len2)) (spare := lits .u8 (zs.drop len2)) rfl (by rw [hx.1]; rfl) Try.underlying27
      have hb : Try.prog.bytesOf 5 = 1 := by kernel_rfl
      change _ * Try.prog.bytesOf 5 ≤ _ at hs
      rw [hb] at hs
      simp [lits, reachBytes] at hs hz
      omega
  clear hA0 hval0
  refine (walk W n0 v0 hb0 n1 b1 (.slice a2 len2 cap2) l2 hb2 (by rw [len_2]; exact reach2)).mono fun e W' ⟨he, bel⟩ => ?_
  subst he
  exact ⟨_, rfl, _, _, _, [], _, [], hW', trodAll_mk1 (shut_bool Try.underlying4 _), (trodAll_cons_mk (Below.trod laidOut (by kernel_rfl) (of_decide_eq_true (by kernel_rfl)) k0 bel lt0) (trodAll_cons_mk (shut_int Try.underlying22 w1) (trodAll_cons_mk (Below.trod laidOut (by kernel_rfl) (of_decide_eq_true (by kernel_rfl)) k2 bel lt2) trodAll_mk0))), rfl, bel.frame _, fun h => by cases h⟩

theorem proved : Rows.NodeCodesSaid :=
  OpenClaim.holds_of_wide 3 Try.f3 rfl rfl rfl rfl rfl rfl rfl ⟨rfl, rfl, rfl, rfl, rfl⟩ rfl rfl rfl rfl rfl (by kernel_rfl) Try.func3 (by kernel_rfl)
    (of_decide_eq_true (by kernel_rfl)) (by unfold Func.isWrapper; first | (rw [if_pos (by decide +kernel)]; kernel_rfl) | (rw [if_neg (by decide +kernel)]; exact ⟨rfl, rfl⟩))
    (fun os started H enc _ => lifted os started H enc)

end Go.Proofs.Ytlefkaoibokjdaa.nodeCodes
