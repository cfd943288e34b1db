/-
  NodeFinds: where a key stands, and under which kid, is the document's, of any node.
-/
import Derived.Test.YtlefkaoibokjdaaPf11
import Derived.Test.YtlefkaoibokjdaaPf22
import Derived.Test.YtlefkaoibokjdaaPf19
import Derived.Test.YtlefkaoibokjdaaPf15
import Derived.Test.YtlefkaoibokjdaaPf14
import Derived.Test.YtlefkaoibokjdaaPf03
namespace Go.Proofs.Ytlefkaoibokjdaa.nodeFinds
open Go.ChangeShapes Go.WideShapes Go.ChangeAt Go.RowKit
open Go.ChangeMaps (open_string shut_string)
set_option linter.unusedVariables false

set_option maxHeartbeats 4000000 in
set_option maxRecDepth 100000 in
theorem walk (w : World) (n0 : Nd.Node) (v0 : Value) (h0 : NdIs w w.heap.size v0 n0) (s1 : ByteArray) (z1 : s1.size ≤ maxLen) :
    Calls Try.prog 4 #[v0, .string s1] w (IsBool true w) := by
  obtain ⟨D, rfl, hsz, hone⟩ : ∃ D, v0 = .agg D ∧ (Try.prog.info? 26).map (·.size) = some D.size ∧ D.all (·.oneCell') = true := by
    obtain ⟨Ak, ck, Av, cv, Ai, ci, e, -⟩ := h0
    exact ⟨_, e, by kernel_rfl, by simp [Value.oneCell']⟩
  obtain ⟨W, hW⟩ : ∃ W, w.alloc (.cells D 26) = W := ⟨_, rfl⟩
  obtain ⟨hxa, hxb⟩ := bxt_new hW
  have HB0 := Lib.hid hxb
  have Fbr_0 := Lib.hid hxa
  have Fn_0 := Lib.hid ((h0.below_ hxb (Nat.le_refl _)).mono_ hxb.size)
  obtain ⟨i, hi⟩ : ∃ i, Nd.below n0.keys s1 = i := ⟨_, rfl⟩
  obtain ⟨b, hb⟩ : ∃ b, Nd.isAt n0.keys s1 = b := ⟨_, rfl⟩
  obtain ⟨k, hk⟩ : ∃ k, Nd.kid n0.keys s1 = k := ⟨_, rfl⟩
  have HI := Lib.hid hi
  have HBb := Lib.hid hb
  have HK := Lib.hid hk
  clear hxa hxb h0 z1 hi hb hk
  go_enter Try.func4, Try.ntmps4
  have C1 := Lib.hid (pnfind_any n0 s1 _ _ W Fn_0.out (Nat.le_refl _))
  rw [HI.out, HBb.out] at C1
  go_wp2_with (first
    | (refine wpList_load_row rfl _ _ rfl w.heap.size rfl 26 D (0, 0) _ Fbr_0.out.2 Try.underlying26 rfl hsz ?_))
  refine C1.out.mono ?_
  rintro e w1 ⟨rfl, b1⟩
  have HB1 := Lib.hid (HB0.out.trans (b1.mono HB0.out.size))
  have Fbr_1 := Lib.hid ((Fbr_0.out.below_ b1 (Nat.le_refl _)).mono_ b1.size)
  have Fn_1 := Lib.hid ((Fn_0.out.below_ b1 (Nat.le_refl _)).mono_ b1.size)
  clear C1 b1 HB0 Fbr_0 Fn_0
  have C2 := Lib.hid (rfind_any n0 s1 _ _ w1 Fn_1.out (Nat.le_refl _))
  rw [HI.out, HBb.out] at C2
  go_wp2_with (first
    | (refine wpList_load_row rfl _ _ rfl w.heap.size rfl 26 D (0, 0) _ Fbr_1.out.2 Try.underlying26 rfl hsz ?_))
  refine C2.out.mono ?_
  rintro e w2 ⟨rfl, b2⟩
  have HB2 := Lib.hid (HB1.out.trans (b2.mono HB1.out.size))
  have Fbr_2 := Lib.hid ((Fbr_1.out.below_ b2 (Nat.le_refl _)).mono_ b2.size)
  have Fn_2 := Lib.hid ((Fn_1.out.below_ b2 (Nat.le_refl _)).mono_ b2.size)
  clear C2 b2 HB1 Fbr_1 Fn_1
  have HPK : Hid (∀ w', Below w2.heap.size w2 w' → Calls Try.prog 24 #[.agg D, .string s1] w' (IsInt k w')) := fun w' hb => by
    have := pnkid_any n0 s1 _ _ w' (Fn_2.out.below_ hb (Nat.le_refl _)) hb.size
    rwa [HK.out] at this
  have HRK : Hid (∀ w', Below w2.heap.size w2 w' → Calls Try.prog 25 #[.agg D, .string s1] w' (IsInt k w')) := fun w' hb => by
    have := rkid_any n0 s1 _ _ w' (Fn_2.out.below_ hb (Nat.le_refl _)) hb.size
    rwa [HK.out] at this
  have HLV : Hid (∀ w', Below w2.heap.size w2 w' → Calls Try.prog 21 #[] w' (IsBool true w')) := fun w' _ => lives_nd w'
  have HCR : Hid (∀ w', Below w2.heap.size w2 w' → w'.heap[w.heap.size]? = some (.cells D 26 (0, 0))) := fun w' hb => (Fbr_2.out.below_ hb (Nat.le_refl _)).2
  clear Fn_2 Fbr_2
  go_wp2
  refine wp_region_grow 20 (by kernel_rfl) (by kernel_rfl) (fun w' => Below w2.heap.size w2 w') ((Below.refl _ _).drew) ?_
  simp only [List.take_succ_cons, List.take_zero, List.drop_succ_cons, List.drop_zero]
  iterate 9 (refine wpGrow_pure (v := ?_) rfl ?_ ?_; rotate_left; focus (intro w' hb'; go_simp; first | done | with_reducible rfl)
             go_simp)
  refine wpGrow_load_row rfl _ _ rfl w.heap.size rfl _ D (0, 0) _ (fun w' h => HCR.out w' h) Try.underlying26 rfl hsz ?_
  go_simp
  iterate 1 (refine wpGrow_pure (v := ?_) rfl ?_ ?_; rotate_left; focus (intro w' hb'; go_simp; first | done | with_reducible rfl)
             go_simp)
  refine wpGrow_call (v := .int .i64 (k : Nat)) (f := 24) (args := #[.agg D, .string s1]) rfl (fun w' => by go_simp) (fun w' h => (HPK.out w' h).mono ?_) ?_
  · rintro e w5 ⟨rfl, hb5⟩
    exact ⟨rfl, h.trans (hb5.mono h.size)⟩
  go_simp
  refine wpGrow_load_row rfl _ _ rfl w.heap.size rfl _ D (0, 0) _ (fun w' h => HCR.out w' h) Try.underlying26 rfl hsz ?_
  go_simp
  iterate 1 (refine wpGrow_pure (v := ?_) rfl ?_ ?_; rotate_left; focus (intro w' hb'; go_simp; first | done | with_reducible rfl)
             go_simp)
  refine wpGrow_call (v := .int .i64 (k : Nat)) (f := 25) (args := #[.agg D, .string s1]) rfl (fun w' => by go_simp) (fun w' h => (HRK.out w' h).mono ?_) ?_
  · rintro e w5 ⟨rfl, hb5⟩
    exact ⟨rfl, h.trans (hb5.mono h.size)⟩
  go_simp
  iterate 3 (refine wpGrow_pure (v := ?_) rfl ?_ ?_; rotate_left; focus (intro w' hb'; go_simp; first | done | with_reducible rfl)
             go_simp)
  refine wpGrow_call (v := .bool true) (f := 21) (args := #[]) rfl (fun w' => by go_simp) (fun w' h => (HLV.out w' h).mono ?_) ?_
  · rintro e w5 ⟨rfl, hb5⟩
    exact ⟨rfl, h.trans (hb5.mono h.size)⟩
  go_simp
  iterate 1 (refine wpGrow_pure (v := ?_) rfl ?_ ?_; rotate_left; focus (intro w' hb'; go_simp; first | done | with_reducible rfl)
             go_simp)
  refine wpGrow_nil ?_
  intro w5 hb5
  clear HPK HRK HLV HCR
  have HB5 := Lib.hid (HB2.out.trans (hb5.mono HB2.out.size))
  go_wp2
  go_ret
  exact ⟨rfl, HB5.out⟩
/-! ### From the walk to the row -/
set_option maxRecDepth 100000 in
theorem lifted (os : Os) (started : os.Started) (H : Type) (enc : TypeId × Value → H) :
    ReturnsInHanded {} Try.checked os 4 .any (Rows.nodeFindsSpec.pre6 enc Try.prog Try.f4 Rows.nodeFindsRow.domain false) (Rows.nodeFindsSpec.post enc Try.prog Try.f4 false true false false) := by
  refine returnsInHanded_of_change (C := Try.checked) own started (by kernel_rfl) Try.func4
    (ChangeSpec.witness6 (enc := enc) (C := Try.checked) false ⟨#[], #[.agg #[.int .u8 0, .slice none 0 0, .slice none 0 0, .slice none 0 0], .string { data := #[] }], []⟩ 8 (by kernel_rfl) (by kernel_rfl) (by kernel_rfl) (by kernel_rfl)) ?_
  intro W base args ds gs before hval0 hW hcnd _
  have hval : ∀ (j : Nat) t v, Try.f4.params[j]? = some t → args[j]? = some v → Value.okWide Try.prog W .any base t v := hval0
  have hW' := hW
  obtain ⟨p, q, hA0, hV, rfl, hfz, hnd⟩ := hW
  have hA : DataW.TrodAll enc Try.prog W 0 (fun _ => true) true Try.f4.params.toList args.toList ds p := hA0
  rw [Try.params4] at hA hval
  obtain ⟨v0, vs0, d0, ds0, p0, q0, hargs, rfl, rfl, h0, r0⟩ := trodAll_cons hA
  obtain ⟨v1, vs1, d1, ds1, p1, q1, rfl, rfl, rfl, h1, r1⟩ := trodAll_cons r0
  obtain ⟨rfl, rfl, rfl⟩ := trodAll_nil r1
  obtain rfl : args = #[v0, v1] := by cases args; simp_all
  obtain ⟨rfl, rfl⟩ := trodVars_none hV
  have k0 := h0
  have lt0 : ∀ x ∈ p0, x.block < W.heap.size := by obtain ⟨m, hm⟩ := k0; exact DataW.trod_lt m _ _ _ hm
  obtain ⟨n0, hb0⟩ := node_in (hval 0 26 v0 rfl rfl) h0
  obtain ⟨s1, rfl, rfl, rfl, z1⟩ := open_string Try.underlying9 (hval 1 9 v1 rfl rfl) h1
  clear hA0 hval0
  refine (walk W n0 v0 hb0 s1 z1).mono fun e W' ⟨he, bel⟩ => ?_
  subst he
  exact ⟨_, rfl, _, _, _, [], _, [], hW', trodAll_mk1 (shut_bool Try.underlying4 _), (trodAll_cons_mk (Below.trod laidOut (by kernel_rfl) (of_decide_eq_true (by kernel_rfl)) k0 bel lt0) (trodAll_cons_mk (shut_string Try.underlying9 z1) trodAll_mk0)), rfl, bel.frame _, fun h => by cases h⟩

theorem proved : Rows.NodeFindsSaid :=
  OpenClaim.holds_of_wide 4 Try.f4 rfl rfl rfl rfl rfl rfl rfl ⟨rfl, rfl, rfl, rfl, rfl⟩ rfl rfl rfl rfl rfl (by kernel_rfl) Try.func4 (by kernel_rfl)
    (of_decide_eq_true (by kernel_rfl)) (by unfold Func.isWrapper; first | (rw [if_pos (by decide +kernel)]; kernel_rfl) | (rw [if_neg (by decide +kernel)]; exact ⟨rfl, rfl⟩))
    (fun os started H enc _ => lifted os started H enc)

end Go.Proofs.Ytlefkaoibokjdaa.nodeFinds
