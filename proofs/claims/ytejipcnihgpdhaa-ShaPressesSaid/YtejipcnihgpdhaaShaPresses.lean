/-
  ShaPresses: a block is pressed into eight words as the document says. No condition.
-/
import Derived.Test.YtejipcnihgpdhaaFrameX
import Derived.Test.YtejipcnihgpdhaaSpEq
import Derived.Test.YtejipcnihgpdhaaShPress
import Derived.Test.YtejipcnihgpdhaaGrow
namespace Go.Proofs.Ytejipcnihgpdhaa.shaPresses
open Go.ChangeShapes Go.WideShapes Go.ChangeAt Go.RowKit
open Go.ChangeMaps (open_string shut_string)
set_option linter.unusedVariables false

set_option maxHeartbeats 1000000 in
set_option maxRecDepth 100000 in
theorem walk (w : World) (s0 : Sh.St) (l1 : List Nat) (n1 : l1.length = 64) (b1 : ∀ x ∈ l1, x < 256) :
    Calls Try.prog 3 #[.agg (stv s0), .agg (bvs l1)] w (IsBool true w) := by
  have HP : Hid (∀ w, Calls Try.prog 10 #[.agg (stv s0), .agg (bvs l1)] w (IsSt (Sh.press s0 l1) w)) := fun w => press_any s0 l1 n1 b1 w
  have HR : Hid (∀ w, Calls Try.prog 11 #[.agg (stv s0), .agg (bvs l1)] w (IsSt (Sh.press s0 l1) w)) := fun w => rpress_any s0 l1 n1 b1 w
  have heq := same8 (Sh.press s0 l1)
  have h1s : (Try.prog.info? 23).map (·.size) = some (stv s0).size := size23
  have h2s : (Try.prog.info? 24).map (·.size) = some (bvs l1).size := by rw [bvs_size, n1]; exact size24
  obtain ⟨S, hS⟩ : ∃ S, Sh.press s0 l1 = S := ⟨_, rfl⟩
  obtain ⟨sc, hsc⟩ : ∃ c, stv s0 = c := ⟨_, rfl⟩
  obtain ⟨bc, hbc⟩ : ∃ c, bvs l1 = c := ⟨_, rfl⟩
  rw [hS] at HP HR heq
  rw [hsc, hbc] at HP HR ⊢
  rw [hsc] at h1s
  rw [hbc] at h2s
  obtain ⟨so, hso⟩ : ∃ c, stv S = c := ⟨_, rfl⟩
  rw [hso] at heq
  have HSO := Lib.hid hso
  clear hS hsc hbc n1 b1 hso
  go_enter Try.func3, Try.ntmps3
  go_wp2
  generalize hw1 : (w.alloc _).alloc _ = w1
  have H1 : Hid (Rw w1 w.heap.size 23 sc) := by unfold Hid; rw [← hw1]; exact (Rw.new w _ _).old _
  have H2 : Hid (Rw w1 (w.heap.size + 1) 24 bc) := by unfold Hid; rw [← hw1]; exact Rw.at_ (by simp) _ _
  have HB1 : Hid (Below w.heap.size w w1) := by unfold Hid; rw [← hw1]; exact ((Below.refl w.heap.size w).alloc (Nat.le_refl _) _).alloc (by simp) _
  clear hw1
  have HPM : Hid (∀ w', Below w1.heap.size w1 w' → Calls Try.prog 10 #[.agg sc, .agg bc] w' (fun e w'' => e = .returned (.agg so) ∧ Below w1.heap.size w1 w'')) := fun w' hb => by
    refine (HP.out w').mono ?_
    rintro e w'' ⟨rfl, hb'⟩
    exact ⟨by rw [HSO.out], hb.trans (hb'.mono hb.size)⟩
  have HRM : Hid (∀ w', Below w1.heap.size w1 w' → Calls Try.prog 11 #[.agg sc, .agg bc] w' (fun e w'' => e = .returned (.agg so) ∧ Below w1.heap.size w1 w'')) := fun w' hb => by
    refine (HR.out w').mono ?_
    rintro e w'' ⟨rfl, hb'⟩
    exact ⟨by rw [HSO.out], hb.trans (hb'.mono hb.size)⟩
  have HWM : Hid (∀ w', Below w1.heap.size w1 w' → Calls Try.prog 12 #[] w' (fun e w'' => e = .returned (.bool true) ∧ Below w1.heap.size w1 w'')) := fun w' hb => by
    refine (works_any w').mono ?_
    rintro e w'' ⟨rfl, hb'⟩
    exact ⟨rfl, hb.trans (hb'.mono hb.size)⟩
  have H1M : Hid (∀ w', Below w1.heap.size w1 w' → Rw w' w.heap.size 23 sc) := fun w' hb => H1.out.below hb H1.out.lt
  have H2M : Hid (∀ w', Below w1.heap.size w1 w' → Rw w' (w.heap.size + 1) 24 bc) := fun w' hb => H2.out.below hb H2.out.lt
  have HBE : Hid (∀ w', Below w1.heap.size w1 w' → Below w.heap.size w w') := fun w' hb => HB1.out.trans (hb.mono HB1.out.size)
  clear HP HR H1 H2 HB1
  refine wp_region_grow 10 (by kernel_rfl) (by kernel_rfl) (fun w' => Below w1.heap.size w1 w') (Below.refl _ _).drew ?_
  simp only [List.take_succ_cons, List.take_zero, List.drop_succ_cons, List.drop_zero]
  refine wpGrow_load_row rfl _ _ rfl w.heap.size rfl 23 sc (0, 0) _ (fun w' h => H1M.out w' h) Try.underlying23 rfl h1s ?_
  go_simp
  refine wpGrow_load_row rfl _ _ rfl (w.heap.size + 1) rfl 24 bc (0, 0) _ (fun w' h => H2M.out w' h) Try.underlying24 rfl h2s ?_
  go_simp
  refine wpGrow_call (v := .agg so) (f := 10) (args := #[.agg sc, .agg bc]) rfl (fun w' => by go_simp) HPM.out ?_
  go_simp
  refine wpGrow_load_row rfl _ _ rfl w.heap.size rfl 23 sc (0, 0) _ (fun w' h => H1M.out w' h) Try.underlying23 rfl h1s ?_
  go_simp
  refine wpGrow_load_row rfl _ _ rfl (w.heap.size + 1) rfl 24 bc (0, 0) _ (fun w' h => H2M.out w' h) Try.underlying24 rfl h2s ?_
  go_simp
  refine wpGrow_call (v := .agg so) (f := 11) (args := #[.agg sc, .agg bc]) rfl (fun w' => by go_simp) HRM.out ?_
  go_simp
  iterate 2 (refine wpGrow_pure (v := ?_) rfl ?_ ?_; rotate_left; focus (intro w' _; go_simp; first | done | with_reducible rfl)
             go_simp)
  refine wpGrow_call (v := .bool true) (f := 12) (args := #[]) rfl (fun w' => by go_simp) HWM.out ?_
  go_simp
  iterate 1 (refine wpGrow_pure (v := ?_) rfl ?_ ?_; rotate_left; focus (intro w' _; go_simp; first | done | with_reducible rfl)
             go_simp)
  refine wpGrow_nil ?_
  intro w8 hb8
  have HB8 := Lib.hid (HBE.out w8 hb8)
  clear hb8
  go_wp2
  go_ret
  exact ⟨rfl, HB8.out⟩

/-! ### From the walk to the row -/
set_option maxRecDepth 100000 in
theorem lifted (os : Os) (started : os.Started) (H : Type) (enc : TypeId × Value → H) :
    ReturnsInHanded {} Try.checked os 3 .any (Rows.shaPressesSpec.pre6 enc Try.prog Try.f3 Rows.shaPressesRow.domain false) (Rows.shaPressesSpec.post enc Try.prog Try.f3 false true false false) := by
  refine returnsInHanded_of_change (C := Try.checked) own started (by kernel_rfl) Try.func3
    (ChangeSpec.witness6 (enc := enc) (C := Try.checked) false ⟨#[], #[.agg #[.int .u32 0, .int .u32 0, .int .u32 0, .int .u32 0, .int .u32 0, .int .u32 0, .int .u32 0, .int .u32 0], .agg #[.int .u8 0, .int .u8 0, .int .u8 0, .int .u8 0, .int .u8 0, .int .u8 0, .int .u8 0, .int .u8 0, .int .u8 0, .int .u8 0, .int .u8 0, .int .u8 0, .int .u8 0, .int .u8 0, .int .u8 0, .int .u8 0, .int .u8 0, .int .u8 0, .int .u8 0, .int .u8 0, .int .u8 0, .int .u8 0, .int .u8 0, .int .u8 0, .int .u8 0, .int .u8 0, .int .u8 0, .int .u8 0, .int .u8 0, .int .u8 0, .int .u8 0, .int .u8 0, .int .u8 0, .int .u8 0, .int .u8 0, .int .u8 0, .int .u8 0, .int .u8 0, .int .u8 0, .int .u8 0, .int .u8 0, .int .u8 0, .int .u8 0, .int .u8 0, .int .u8 0, .int .u8 0, .int .u8 0, .int .u8 0, .int .u8 0, .int .u8 0, .int .u8 0, .int .u8 0, .int .u8 0, .int .u8 0, .int .u8 0, .int .u8 0, .int .u8 0, .int .u8 0, .int .u8 0, .int .u8 0, .int .u8 0, .int .u8 0, .int .u8 0, .int .u8 0]], []⟩ 8 (by kernel_rfl) (by kernel_rfl) (by kernel_rfl) (by kernel_rfl)) ?_
  intro W base args ds gs before hval0 hW hcnd _
  have hval : ∀ (j : Nat) t v, Try.f3.params[j]? = some t → args[j]? = some v → Value.okWide Try.prog W .any base t v := hval0
  have hW' := hW
  obtain ⟨p, q, hA0, hV, rfl, hfz, hnd⟩ := hW
  have hA : DataW.TrodAll enc Try.prog W 0 (fun _ => true) true Try.f3.params.toList args.toList ds p := hA0
  rw [Try.params3] at hA hval
  obtain ⟨v0, vs0, d0, ds0, p0, q0, hargs, rfl, rfl, h0, r0⟩ := trodAll_cons hA
  obtain ⟨v1, vs1, d1, ds1, p1, q1, rfl, rfl, rfl, h1, r1⟩ := trodAll_cons r0
  obtain ⟨rfl, rfl, rfl⟩ := trodAll_nil r1
  obtain rfl : args = #[v0, v1] := by cases args; simp_all
  obtain ⟨rfl, rfl⟩ := trodVars_none hV
  have k0 := h0
  have lt0 : ∀ x ∈ p0, x.block < W.heap.size := by obtain ⟨m, hm⟩ := k0; exact DataW.trod_lt m _ _ _ hm
  obtain ⟨s0, rfl⟩ := state_arr (hval 0 23 v0 rfl rfl) h0
  have k1 := h1
  have lt1 : ∀ x ∈ p1, x.block < W.heap.size := by obtain ⟨m, hm⟩ := k1; exact DataW.trod_lt m _ _ _ hm
  obtain ⟨l1, nl1, bl1, rfl⟩ := bytes_arr Try.underlying24 (by kernel_rfl) (hval 1 24 v1 rfl rfl) h1
  clear hA0 hval0
  refine (walk W s0 l1 nl1 bl1).mono fun e W' ⟨he, bel⟩ => ?_
  subst he
  exact ⟨_, rfl, _, _, _, [], _, [], hW', trodAll_mk1 (shut_bool Try.underlying4 _), (trodAll_cons_mk (Below.trod laidOut (by kernel_rfl) (of_decide_eq_true (by kernel_rfl)) k0 bel lt0) (trodAll_cons_mk (Below.trod laidOut (by kernel_rfl) (of_decide_eq_true (by kernel_rfl)) k1 bel lt1) trodAll_mk0)), rfl, bel.frame _, fun h => by cases h⟩

theorem proved : Rows.ShaPressesSaid :=
  OpenClaim.holds_of_wide 3 Try.f3 rfl rfl rfl rfl rfl rfl rfl ⟨rfl, rfl, rfl, rfl, rfl⟩ rfl rfl rfl rfl rfl (by kernel_rfl) Try.func3 (by kernel_rfl)
    (of_decide_eq_true (by kernel_rfl)) (by unfold Func.isWrapper; first | (rw [if_pos (by decide +kernel)]; kernel_rfl) | (rw [if_neg (by decide +kernel)]; exact ⟨rfl, rfl⟩))
    (fun os started H enc _ => lifted os started H enc)

end Go.Proofs.Ytejipcnihgpdhaa.shaPresses
