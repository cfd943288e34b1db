/-
  RootPuts: a root's page, its place, and what is read of any bytes, are the document's. Reach: each slice that comes in has at most 140737488351232 bytes.
-/
import Derived.Test.YtoefogmjekcbeaaPk24
import Derived.Test.YtoefogmjekcbeaaPk25
import Derived.Test.YtoefogmjekcbeaaPk23
import Derived.Test.YtoefogmjekcbeaaPk04
import Derived.Test.YtoefogmjekcbeaaPk26
import Derived.Test.YtoefogmjekcbeaaPk27
import Derived.Test.YtoefogmjekcbeaaPk03
namespace Go.Proofs.Ytoefogmjekcbeaa.rootPuts
open Go.ChangeShapes Go.WideShapes Go.ChangeAt Go.RowKit
open Go.ChangeMaps (open_string shut_string)
set_option linter.unusedVariables false

set_option maxHeartbeats 4000000 in
set_option maxRecDepth 100000 in
theorem walk (w : World) (r0 : Rt.Root) (f0 : Rt.Fit r0) (a1 : Int) (u1 : (Lit.int .i64 a1).wf = true) (v2 : Value) (l2 : List Nat) (g2 : Bv w w.heap.size v2 l2) (q2 : l2.length * 1 ≤ 140737488351232) :
    Calls Try.prog 3 #[.agg (rtC r0), .int .i64 a1, v2] w (IsBool true w) := by
  have hz7 := (zero_of_info (n := 7) rt_zero).1
  have HNS : Hid (none7.size = 7) := rfl
  have HN0 : Hid (rtC Rt.zero = none7) := rfl
  obtain ⟨N, hN⟩ : ∃ N, none7 = N := ⟨_, rfl⟩
  rw [hN] at hz7 HNS HN0
  have hn35 : N.size = 7 := HNS.out
  clear hN
  have HR : Hid (l2.length ≤ 140737488351232) := by unfold Hid; omega
  obtain ⟨⟨p, E⟩, hx⟩ : ∃ r, Rt.putE r0 = r := ⟨_, rfl⟩
  obtain ⟨⟨y, E2⟩, hy⟩ : ∃ r, Rt.getE a1 l2 = r := ⟨_, rfl⟩
  have HX := Lib.hid hx
  have HY := Lib.hid hy
  have HF := Lib.hid f0
  obtain ⟨s, hs⟩ : ∃ s, r0.seq % 2 = s := ⟨_, rfl⟩
  have HS2 : Hid (s < 2) := by unfold Hid; omega
  have HSQ := Lib.hid hs
  obtain ⟨D, hD⟩ : ∃ D, rtC r0 = D := ⟨_, rfl⟩
  have vsD : (Try.prog.info? 24).map (·.size) = some D.size := by rw [← hD]; exact rt_size
  have HD0 : Hid (D[0]? = some (.int .u64 (r0.seq : Nat))) := by unfold Hid; rw [← hD]; rfl
  rw [hD]
  have HDD := Lib.hid hD
  obtain ⟨W, hW⟩ : ∃ W, w.alloc (.cells D 24) = W := ⟨_, rfl⟩
  obtain ⟨hxa, hxb⟩ := bxt_new hW
  have HB0 := Lib.hid hxb
  have Fbr_0 := Lib.hid hxa
  have Fb_0 := Lib.hid ((g2.lv_.below_ hxb (Nat.le_refl _)).mono_ hxb.size)
  clear hx hy q2 u1 f0 hs hD hxa hxb g2
  go_enter Try.func3, Try.ntmps3
  have C1 := Lib.hid (prtput_any r0 W HF.out)
  rw [HDD.out, HX.out] at C1
  go_wp2_with (first
    | (refine wpList_load_row rfl _ _ rfl w.heap.size rfl 24 D (0, 0) _ Fbr_0.out.2 Try.underlying24 rfl (by rw [vsD]) ?_))
  refine (C1.out).mono ?_
  rintro e w1 ⟨A1, c1, rfl, o1, b1⟩
  have HB1 := Lib.hid (HB0.out.trans (b1.mono HB0.out.size))
  have Fbr_1 := Lib.hid ((Fbr_0.out.below_ b1 (Nat.le_refl _)).mono_ b1.size)
  have Fb_1 := Lib.hid ((Fb_0.out.below_ b1 (Nat.le_refl _)).mono_ b1.size)
  have Fp_1 := Lib.hid (o1.form_)
  clear C1 b1 HB0 Fbr_0 Fb_0 o1
  have C2 := Lib.hid (rrtput_any r0 w1 HF.out)
  rw [HDD.out, HX.out] at C2
  go_wp2_with (first
    | (refine wpList_load_row rfl _ _ rfl w.heap.size rfl 24 D (0, 0) _ Fbr_1.out.2 Try.underlying24 rfl (by rw [vsD]) ?_))
  refine (C2.out).mono ?_
  rintro e w2 ⟨A2, c2, rfl, o2, b2⟩
  have HB2 := Lib.hid (HB1.out.trans (b2.mono HB1.out.size))
  have Fbr_2 := Lib.hid ((Fbr_1.out.below_ b2 (Nat.le_refl _)).mono_ b2.size)
  have Fb_2 := Lib.hid ((Fb_1.out.below_ b2 (Nat.le_refl _)).mono_ b2.size)
  have Fp_2 := Lib.hid ((Fp_1.out.below_ b2 (Nat.le_refl _)).mono_ b2.size)
  have Fq_2 := Lib.hid (o2.form_)
  clear C2 b2 HB1 Fbr_1 Fb_1 Fp_1 o2
  have HSM : Hid (∀ w', Below w2.heap.size w2 w' → Calls Try.prog 8 #[.slice A1 p.length c1, .slice A2 p.length c2] w' (IsBool true w')) := fun w' hb => by
    have := octs_lv _ _ _ _ _ _ w' (Fp_2.out.below_ hb (Nat.le_refl _)) (Fq_2.out.below_ hb (Nat.le_refl _))
    simpa using this
  have HPL : Hid (∀ w', Below w2.heap.size w2 w' → Calls Try.prog 9 #[.agg D] w' (fun e w'' => e = .returned (.int .i64 (s : Nat)) ∧ Below w'.heap.size w' w'')) := fun w' hb => by
    have := prtplace_any r0 w' HF.out
    rwa [HDD.out, HSQ.out] at this
  have HCR : Hid (∀ w', Below w2.heap.size w2 w' → w'.heap[w.heap.size]? = some (.cells D 24 (0, 0))) := fun w' hb => (Fbr_2.out.below_ hb (Nat.le_refl _)).2
  have HC0 : Hid (∀ w', Below w2.heap.size w2 w' → w'.cell? ⟨w.heap.size, 0, none⟩ = some (.int .u64 (r0.seq : Nat))) := fun w' hb => (Rw.cell (Fbr_2.out.below_ hb (Nat.le_refl _)).2 0).trans HD0.out
  have hrm : ((r0.seq : Nat) : Int).tmod 2 = (s : Int) := by rw [Int.tmod_eq_emod_of_nonneg (by omega)]; have := HSQ.out; omega
  have hw1 : IntKind.u64.wrap (s : Int) = (s : Int) := by have := HS2.out; rw [IntKind.wrap_u64]; omega
  have hw2 : IntKind.i64.wrap (s : Int) = (s : Int) := by have := HS2.out; rw [IntKind.wrap_i64]; omega
  clear Fp_2 Fq_2
  go_wp2_with (first
      | (refine wpList_load_row rfl _ _ rfl w.heap.size rfl 24 D (0, 0) _ Fbr_2.out.2 Try.underlying24 rfl (by rw [vsD]) ?_))
  refine wp_region_grow 17 (by kernel_rfl) (by kernel_rfl) (fun w' => Below w2.heap.size w2 w') ((Below.refl _ _).drew) ?_
  simp only [List.take_succ_cons, List.take_zero, List.drop_succ_cons, List.drop_zero]
  iterate 6 (refine wpGrow_pure (v := ?_) rfl ?_ ?_; rotate_left; focus (intro w' hb'; go_simp; first | done | with_reducible rfl)
             go_simp)
  refine wpGrow_call (v := .bool true) (f := 8) (args := #[.slice A1 p.length c1, .slice A2 p.length c2]) rfl (fun w' => by go_simp) (fun w' h => (HSM.out w' h).mono ?_) ?_
  · rintro e w5 ⟨rfl, hb5⟩
    exact ⟨rfl, h.trans (hb5.mono h.size)⟩
  go_simp
  iterate 3 (refine wpGrow_pure (v := ?_) rfl ?_ ?_; rotate_left; focus (intro w' hb'; go_simp; first | done | with_reducible rfl)
             go_simp)
  refine wpGrow_load_row rfl _ _ rfl w.heap.size rfl _ D (0, 0) _ (fun w' h => HCR.out w' h) Try.underlying24 rfl vsD ?_
  go_simp
  refine wpGrow_call (v := .int .i64 (s : Nat)) (f := 9) (args := #[.agg D]) rfl (fun w' => by go_simp) (fun w' h => (HPL.out w' h).mono ?_) ?_
  · rintro e w5 ⟨rfl, hb5⟩
    exact ⟨rfl, h.trans (hb5.mono h.size)⟩
  go_simp
  iterate 1 (refine wpGrow_pure (v := ?_) rfl ?_ ?_; rotate_left; focus (intro w' hb'; go_simp; first | done | with_reducible rfl)
             go_simp)
  iterate 1 (refine wpGrow_pure (v := ?_) rfl ?_ ?_; rotate_left; focus (intro w' hb'; have c0 := HC0.out w' hb'; go_simp; first | done | with_reducible rfl)
             go_simp)
  iterate 3 (refine wpGrow_pure (v := ?_) rfl ?_ ?_; rotate_left; focus (intro w' hb'; go_simp; first | done | with_reducible rfl)
             go_simp)
  refine wpGrow_nil ?_
  intro w5 hb5
  clear hrm hw1 hw2 HSM HPL HCR HC0
  have HB5 := Lib.hid (HB2.out.trans (hb5.mono HB2.out.size))
  have Fb_5 := Lib.hid ((Fb_2.out.below_ hb5 (Nat.le_refl _)).mono_ hb5.size)
  clear hb5 Fb_2 Fbr_2 HB2
  have C6 := Lib.hid (wide_far _ l2 _ w5 (Nat.le_refl _) Fb_5.out.bv_ HR.out)
  go_wp2_with (fail)
  refine (C6.out).mono ?_
  rintro e w6 ⟨g6, rfl, o6, b6⟩
  have HB6 := Lib.hid (HB5.out.trans (b6.mono HB5.out.size))
  have Fb_6 := Lib.hid ((Fb_5.out.below_ b6 (Nat.le_refl _)).mono_ b6.size)
  clear C6 b6 HB5 Fb_5
  have ht := o6.form_.take_ (k := l2.length) (by simp)
  rw [List.take_left] at ht
  have Fz_6 : Hid (Lv yK w6 w6.heap.size (.slice (some ⟨g6, 0, none⟩) l2.length (l2.length + 3)) l2) := ht.lv_
  have Fzw_6 : Hid (Lv yK w6 w6.heap.size (.slice (some ⟨g6, 0, none⟩) (l2.length + 3) (l2.length + 3)) (l2 ++ [7, 7, 7])) := o6.form_.lv_
  clear ht o6
  have C7 := Lib.hid (prtget_any a1 _ l2 _ w6 Fz_6.out (Nat.le_refl _))
  rw [HY.out] at C7
  go_wp2_with (fail)
  refine (C7.out).mono ?_
  rintro e w7 ⟨rfl, f7, b7⟩
  have HB7 := Lib.hid (HB6.out.trans (b7.mono HB6.out.size))
  have Fb_7 := Lib.hid ((Fb_6.out.below_ b7 (Nat.le_refl _)).mono_ b7.size)
  have Fz_7 := Lib.hid ((Fz_6.out.below_ b7 (Nat.le_refl _)).mono_ b7.size)
  have Fzw_7 := Lib.hid ((Fzw_6.out.below_ b7 (Nat.le_refl _)).mono_ b7.size)
  clear C7 b7 HB6 Fb_6 Fz_6 Fzw_6
  have fit7 := Lib.hid f7
  obtain ⟨D7, hD7⟩ : ∃ C, rtC y = C := ⟨_, rfl⟩
  have vs7 : (Try.prog.info? 24).map (·.size) = some D7.size := by rw [← hD7]; exact rt_size
  have vo7 : D7.all (·.oneCell') = true := by rw [← hD7]; exact rtC_one _
  have vz7 : Hid (D7.size = 7) := by unfold Hid; rw [← hD7]; rfl
  rw [hD7]
  replace hD7 := Lib.hid hD7
  clear f7
  obtain ⟨X7, hX7⟩ : ∃ X, (w7.alloc (.cells N 24)).setRow w7.heap.size D7 = X := ⟨_, rfl⟩
  obtain ⟨hxa7, hxb7⟩ := bxt_stored hX7
  have b8 := hxb7
  have HB8 := Lib.hid (HB7.out.trans (b8.mono HB7.out.size))
  have Fb_8 := Lib.hid ((Fb_7.out.below_ b8 (Nat.le_refl _)).mono_ b8.size)
  have Fz_8 := Lib.hid ((Fz_7.out.below_ b8 (Nat.le_refl _)).mono_ b8.size)
  have Fzw_8 := Lib.hid ((Fzw_7.out.below_ b8 (Nat.le_refl _)).mono_ b8.size)
  clear b8 HB7 Fb_7 Fz_7 Fzw_7
  have Fbx_8 := Lib.hid hxa7
  clear hxa7 hxb7
  clear Fz_8
  have C9 := Lib.hid (rrtget_any a1 _ l2 _ X7 Fb_8.out (Nat.le_refl _))
  rw [HY.out] at C9
  go_wp2_with (first
    | (refine wpList_store_row rfl _ _ _ rfl w7.heap.size D7 rfl rfl 24 N (Rw.new w7 _ _) vs7 (by rw [vz7.out, hn35]) vo7 ?_; rw [hX7])
    | (refine wpList_load_row rfl _ _ rfl w7.heap.size rfl 24 D7 (0, 0) _ Fbx_8.out.2 Try.underlying24 rfl (by rw [vs7]) ?_))
  refine (C9.out).mono ?_
  rintro e w9 ⟨rfl, f9, b9⟩
  have HB9 := Lib.hid (HB8.out.trans (b9.mono HB8.out.size))
  have Fb_9 := Lib.hid ((Fb_8.out.below_ b9 (Nat.le_refl _)).mono_ b9.size)
  have Fzw_9 := Lib.hid ((Fzw_8.out.below_ b9 (Nat.le_refl _)).mono_ b9.size)
  have Fbx_9 := Lib.hid ((Fbx_8.out.below_ b9 (Nat.le_refl _)).mono_ b9.size)
  clear C9 b9 HB8 Fb_8 Fzw_8 Fbx_8
  clear hX7
  have fit9 := Lib.hid f9
  obtain ⟨D9, hD9⟩ : ∃ C, rtC y = C := ⟨_, rfl⟩
  have vs9 : (Try.prog.info? 24).map (·.size) = some D9.size := by rw [← hD9]; exact rt_size
  have vo9 : D9.all (·.oneCell') = true := by rw [← hD9]; exact rtC_one _
  have vz9 : Hid (D9.size = 7) := by unfold Hid; rw [← hD9]; rfl
  rw [hD9]
  replace hD9 := Lib.hid hD9
  clear f9
  obtain ⟨X9, hX9⟩ : ∃ X, (w9.alloc (.cells N 24)).setRow w9.heap.size D9 = X := ⟨_, rfl⟩
  obtain ⟨hxa9, hxb9⟩ := bxt_stored hX9
  have b10 := hxb9
  have HB10 := Lib.hid (HB9.out.trans (b10.mono HB9.out.size))
  have Fb_10 := Lib.hid ((Fb_9.out.below_ b10 (Nat.le_refl _)).mono_ b10.size)
  have Fzw_10 := Lib.hid ((Fzw_9.out.below_ b10 (Nat.le_refl _)).mono_ b10.size)
  have Fbx_10 := Lib.hid ((Fbx_9.out.below_ b10 (Nat.le_refl _)).mono_ b10.size)
  clear b10 HB9 Fb_9 Fzw_9 Fbx_9
  have Fby_10 := Lib.hid hxa9
  clear hxa9 hxb9
  have heq : ∀ w', (Op.equalIn 10000 24 (.agg D7) (.agg D9)).run Try.prog w' = .ok true w' := fun w' => by
    rw [← hD7.out, ← hD9.out]
    have := rt_equalIn y y w'
    simpa using this
  have C11 := Lib.hid (left_any g6 l2 _ _ _ X9 Fzw_10.out.bv_ Fb_10.out.bv_)
  go_wp2_with (first
    | (refine wpList_store_row rfl _ _ _ rfl w9.heap.size D9 rfl rfl 24 N (Rw.new w9 _ _) vs9 (by rw [vz9.out, hn35]) vo9 ?_; rw [hX9])
    | (refine wpList_load_row rfl _ _ rfl w7.heap.size rfl 24 D7 (0, 0) _ Fbx_10.out.2 Try.underlying24 rfl (by rw [vs7]) ?_)
    | (refine wpList_load_row rfl _ _ rfl w9.heap.size rfl 24 D9 (0, 0) _ Fby_10.out.2 Try.underlying24 rfl (by rw [vs9]) ?_))
  refine (C11.out).mono ?_
  rintro e w11 ⟨rfl, b11⟩
  have HB11 := Lib.hid (HB10.out.trans (b11.mono HB10.out.size))
  have Fb_11 := Lib.hid ((Fb_10.out.below_ b11 (Nat.le_refl _)).mono_ b11.size)
  have Fzw_11 := Lib.hid ((Fzw_10.out.below_ b11 (Nat.le_refl _)).mono_ b11.size)
  have Fbx_11 := Lib.hid ((Fbx_10.out.below_ b11 (Nat.le_refl _)).mono_ b11.size)
  have Fby_11 := Lib.hid ((Fby_10.out.below_ b11 (Nat.le_refl _)).mono_ b11.size)
  clear C11 b11 HB10 Fb_10 Fzw_10 Fbx_10 Fby_10
  clear hX9
  clear Fzw_11
  clear Fb_11
  have C12 := Lib.hid (lives_rt w11)
  go_wp2_with (first
    | (refine wpList_load_row rfl _ _ rfl w7.heap.size rfl 24 D7 (0, 0) _ Fbx_11.out.2 Try.underlying24 rfl (by rw [vs7]) ?_)
    | (refine wpList_load_row rfl _ _ rfl w9.heap.size rfl 24 D9 (0, 0) _ Fby_11.out.2 Try.underlying24 rfl (by rw [vs9]) ?_))
  refine (C12.out).mono ?_
  rintro e w12 ⟨rfl, b12⟩
  have HB12 := Lib.hid (HB11.out.trans (b12.mono HB11.out.size))
  have Fbx_12 := Lib.hid ((Fbx_11.out.below_ b12 (Nat.le_refl _)).mono_ b12.size)
  have Fby_12 := Lib.hid ((Fby_11.out.below_ b12 (Nat.le_refl _)).mono_ b12.size)
  clear C12 b12 HB11 Fbx_11 Fby_11
  go_wp2_with (first
    | (refine wpList_load_row rfl _ _ rfl w7.heap.size rfl 24 D7 (0, 0) _ Fbx_12.out.2 Try.underlying24 rfl (by rw [vs7]) ?_)
    | (refine wpList_load_row rfl _ _ rfl w9.heap.size rfl 24 D9 (0, 0) _ Fby_12.out.2 Try.underlying24 rfl (by rw [vs9]) ?_))
  go_ret
  exact ⟨rfl, HB12.out⟩

/-! ### From the walk to the row -/
set_option maxRecDepth 100000 in
theorem lifted (os : Os) (started : os.Started) (H : Type) (enc : TypeId × Value → H) :
    ReturnsInHanded {} Try.checked os 3 .any (Rows.rootPutsSpec.pre6 enc Try.prog Try.f3 Rows.rootPutsRow.domain false) (Rows.rootPutsSpec.post enc Try.prog Try.f3 false true false false) := by
  refine returnsInHanded_of_change_sized (C := Try.checked) own started (by kernel_rfl) Try.func3
    (ChangeSpec.witness6 (enc := enc) (C := Try.checked) false ⟨#[], #[.agg #[.int .u64 0, .int .i64 0, .int .i64 0, .int .u64 0, .int .u64 0, .int .i64 0, .int .i64 0], .int .i64 0, .slice none 0 0], []⟩ 8 (by kernel_rfl) (by kernel_rfl) (by kernel_rfl) (by kernel_rfl)) ?_
  intro W base args ds gs before hval0 hW hcnd hreach _
  have hval : ∀ (j : Nat) t v, Try.f3.params[j]? = some t → args[j]? = some v → Value.okWide Try.prog W .any base t v := hval0
  have hW' := hW
  obtain ⟨p, q, hA0, hV, rfl, hfz, hnd⟩ := hW
  have hA : DataW.TrodAll enc Try.prog W 0 (fun _ => true) true Try.f3.params.toList args.toList ds p := hA0
  rw [Try.params3] at hA hval
  obtain ⟨v0, vs0, d0, ds0, p0, q0, hargs, rfl, rfl, h0, r0⟩ := trodAll_cons hA
  obtain ⟨v1, vs1, d1, ds1, p1, q1, rfl, rfl, rfl, h1, r1⟩ := trodAll_cons r0
  obtain ⟨v2, vs2, d2, ds2, p2, q2, rfl, rfl, rfl, h2, r2⟩ := trodAll_cons r1
  obtain ⟨rfl, rfl, rfl⟩ := trodAll_nil r2
  obtain rfl : args = #[v0, v1, v2] := by cases args; simp_all
  obtain ⟨rfl, rfl⟩ := trodVars_none hV
  have k0 := h0
  have lt0 : ∀ x ∈ p0, x.block < W.heap.size := by obtain ⟨m, hm⟩ := k0; exact DataW.trod_lt m _ _ _ hm
  obtain ⟨rt0, rfl, f0⟩ := rt_in (hval 0 24 v0 rfl rfl) h0
  obtain ⟨a1, rfl, rfl, rfl, w1⟩ := open_int Try.underlying3 (hval 1 3 v1 rfl rfl) h1
  obtain ⟨a2, len2, cap2, rfl⟩ := okWide_slice Try.underlying25 (hval 2 25 v2 rfl rfl)
  have k2 := h2
  have lt2 : ∀ x ∈ p2, x.block < W.heap.size := by obtain ⟨m, hm⟩ := k2; exact DataW.trod_lt m _ _ _ hm
  obtain ⟨l2, len_2, hb2⟩ : ∃ l : List Nat, l.length = len2 ∧ Bv W W.heap.size (.slice a2 len2 cap2) l := by
    obtain ⟨fuel, hf⟩ := h2
    rcases open_ints Try.underlying25 Try.underlying5 (by kernel_rfl) hf with ⟨hcs, _⟩ | ⟨x, l, c, zs, hcs, _, hl, hm, hz, _, hcell, hwz⟩
    · simp [Value.cells] at hcs
      obtain ⟨rfl, rfl, rfl⟩ := hcs
      exact bytes_in (.inl ⟨rfl, rfl, rfl⟩)
    · simp [Value.cells] at hcs
      obtain ⟨rfl, rfl, rfl⟩ := hcs
      exact bytes_in (.inr ⟨x, zs, rfl, hl, hm, by simpa using hz, hcell, hwz⟩)
  have reach2 : len2 * 1 ≤ 140737488351232 := by
    obtain ⟨fuel, hf⟩ := k2
    rcases open_ints Try.underlying25 Try.underlying5 (by kernel_rfl) hf with ⟨hcs, _⟩ | ⟨x, l, c, zs, hcs, _, hl, hm, hz, hx, hcell, hwz⟩
    · simp [Value.cells] at hcs
      omega
    · simp [Value.cells] at hcs
      obtain ⟨rfl, rfl, rfl⟩ := hcs
      rw [Prod.mk.injEq] at hx
      have hs := sized_slice hreach (j := 2) (t := 25) (e := 5) (elems := lits .u8 (zs.take len2)) (spare := lits .u8 (zs.drop len2)) rfl (by rw [hx.1]; rfl) Try.underlying25
      have hb : Try.prog.bytesOf 5 = 1 := by kernel_rfl
      change _ * Try.prog.bytesOf 5 ≤ _ at hs
      rw [hb] at hs
      simp [lits, reachBytes] at hs hz
      omega
  clear hA0 hval0
  refine (walk W rt0 f0 a1 w1 (.slice a2 len2 cap2) l2 hb2 (by rw [len_2]; exact reach2)).mono fun e W' ⟨he, bel⟩ => ?_
  subst he
  exact ⟨_, rfl, _, _, _, [], _, [], hW', trodAll_mk1 (shut_bool Try.underlying4 _), (trodAll_cons_mk (Below.trod laidOut (by kernel_rfl) (of_decide_eq_true (by kernel_rfl)) k0 bel lt0) (trodAll_cons_mk (shut_int Try.underlying3 w1) (trodAll_cons_mk (Below.trod laidOut (by kernel_rfl) (of_decide_eq_true (by kernel_rfl)) k2 bel lt2) trodAll_mk0))), rfl, bel.frame _, fun h => by cases h⟩

theorem proved : Rows.RootPutsSaid :=
  OpenClaim.holds_of_wide 3 Try.f3 rfl rfl rfl rfl rfl rfl rfl ⟨rfl, rfl, rfl, rfl, rfl⟩ rfl rfl rfl rfl rfl (by kernel_rfl) Try.func3 (by kernel_rfl)
    (of_decide_eq_true (by kernel_rfl)) (by unfold Func.isWrapper; first | (rw [if_pos (by decide +kernel)]; kernel_rfl) | (rw [if_neg (by decide +kernel)]; exact ⟨rfl, rfl⟩))
    (fun os started H enc _ => lifted os started H enc)

end Go.Proofs.Ytoefogmjekcbeaa.rootPuts
