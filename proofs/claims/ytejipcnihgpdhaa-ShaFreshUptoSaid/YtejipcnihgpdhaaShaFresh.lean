/-
  ShaFresh, the upto form: what is handed in stays, the room behind it, too, and is not kept. The condition: what comes in is of bulk at most 1048576.
-/
import Derived.Test.YtejipcnihgpdhaaFrame
import Derived.Test.YtejipcnihgpdhaaBulk
import Derived.Test.YtejipcnihgpdhaaSpEq
import Derived.Test.YtejipcnihgpdhaaShSum
import Derived.Test.YtejipcnihgpdhaaFreshA
import Derived.Test.YtejipcnihgpdhaaLeft
import Derived.Test.YtejipcnihgpdhaaGrow
namespace Go.Proofs.Ytejipcnihgpdhaa.shaFresh
open Go.ChangeShapes Go.WideShapes Go.ChangeAt Go.RowKit
open Go.ChangeMaps (open_string shut_string)
set_option linter.unusedVariables false

set_option maxHeartbeats 2000000 in
set_option maxRecDepth 100000 in
theorem walk (w : World) (v0 : Value) (l0 : List Nat) (h0 : Bv w w.heap.size v0 l0) (hsz : l0.length ≤ 1048576) :
    Calls Try.prog 9 #[v0] w (IsBool true w) := by
  have hz32 : ∀ w, (zeroValue 35).run Try.prog w = .ok (.agg none32) w := (zero_of_info (n := 32) (by kernel_rfl)).1
  have H0 := Lib.hid h0
  have HN : Hid (l0.length ≤ 1048576) := hsz
  obtain ⟨A0, c0, rfl, _, _, _, _⟩ := h0
  have HC := Lib.hid (wide_any _ l0 w.heap.size w (Nat.le_refl _) H0.out (by omega))
  go_enter Try.func9, Try.ntmps9
  go_wp2_with (fail)
  refine HC.out.mono ?_
  rintro e w1 ⟨g1, rfl, ho1, hb1⟩
  have HB1 := Lib.hid hb1
  have HO1 := Lib.hid ho1
  have ht := ho1.form_.take_ (k := l0.length) (by simp)
  rw [List.take_left] at ht
  have HT1 := Lib.hid ht
  have hg1 := ho1.lt_ g1 rfl
  clear HC ht ho1 hb1
  go_wp2_with (fail)
  refine (new_any w1).mono ?_
  rintro e w2 ⟨g, rfl, hg, hH2, hb2⟩
  have HB2 := Lib.hid hb2
  have HH2 := Lib.hid hH2
  have hS := Lib.hid (sum_any _ l0 w1.heap.size w2 hb2.size (HT1.out.below_ hb2 (Nat.le_refl _)) (by omega))
  clear hb2 hH2
  go_wp2_with (fail)
  refine hS.out.mono ?_
  rintro e w3 ⟨rfl, hb3⟩
  have h32 := sum_len l0
  have hsz32 := size35l h32
  have hone := bvs_one (Sh.sum l0)
  have hds : none32.size = (bvs (Sh.sum l0)).size := by rw [bvs_size, h32]; rfl
  have heq := same32 (Sh.sum l0) h32
  obtain ⟨dv, hdv⟩ : ∃ dv, bvs (Sh.sum l0) = dv := ⟨_, rfl⟩
  rw [hdv] at hsz32 hone hds heq ⊢
  have HDV := Lib.hid hdv
  obtain ⟨gd, hgd⟩ : ∃ g, w3.heap.size = g := ⟨_, rfl⟩
  have hgg : g < gd := by rw [← hgd]; exact Nat.lt_of_lt_of_le HH2.out.lt hb3.size
  have HR4 : Hid (Rw (w3.alloc (.cells dv 35)) gd 35 dv) := Rw.at_ hgd.symm _ _
  have HB4 : Hid (Below w1.heap.size w1 (w3.alloc (.cells dv 35))) := (HB2.out.trans (hb3.mono HB2.out.size)).alloc (Nat.le_trans HB2.out.size hb3.size) _
  have HH4 : Hid (HashAt (w3.alloc (.cells dv 35)) g []) := HH2.out.below (hb3.alloc hb3.size _) HH2.out.lt
  have HGE := Lib.hid hgd
  clear hS h32 hdv hb3 HB2 HH2 hgd
  go_wp2_with (refine wpList_store_row rfl _ _ _ rfl w3.heap.size dv rfl rfl 35 _ (heap_alloc_new w3 _) hsz32 hds hone ?_
               rw [World.setRow_alloc_new])
  rw [HGE.out]
  obtain ⟨w4, hw4⟩ : ∃ w4, w3.alloc (.cells dv 35) = w4 := ⟨_, rfl⟩
  rw [hw4] at HR4 HB4 HH4 ⊢
  clear hw4 HGE
  have HW := Lib.hid (write_any g [] l0 (.slice (some ⟨g1, 0, none⟩) l0.length (l0.length + 3)) w4 HH4.out ((HT1.out.below_ HB4.out (Nat.le_refl _)).src hg HH4.out.lt) (by have := HN.out; simp; omega))
  refine HW.out.mono ?_
  rintro e w5 ⟨rfl, hH5, hg5⟩
  rw [List.nil_append] at hH5
  have HH5 := Lib.hid hH5
  have HR5 : Hid (Rw w5 gd 35 dv) := (hg5.block gd HR4.out.lt (by simp; omega)).trans HR4.out
  have HB5 : Hid (Below w1.heap.size w1 w5) := below_grown HB4.out hg5 HB4.out.size hg
  have HB5w : Hid (Below w.heap.size w w5) := HB1.out.trans (HB5.out.mono HB1.out.size)
  clear HW hH5 hg5 HH4 HR4 HB4
  have HLf := Lib.hid (left_any g1 l0 _ _ _ w5 (HO1.out.form_.below_ HB5.out (Nat.le_refl _)) (H0.out.below_ HB5w.out (Nat.le_refl _)))
  go_wp2_with (fail)
  refine HLf.out.mono ?_
  rintro e w6 ⟨rfl, hb6⟩
  have HH6 := Lib.hid (HH5.out.below hb6 HH5.out.lt)
  have HR6 := Lib.hid (HR5.out.below hb6 HR5.out.lt)
  have HB6 := Lib.hid (HB5.out.trans (hb6.mono HB5.out.size))
  have HB6w := Lib.hid (HB5w.out.trans (hb6.mono HB5w.out.size))
  have ho6 := HO1.out.below_ HB6.out (Nat.le_refl _)
  have hL : (l0 ++ [7, 7, 7]).length = l0.length + 3 := by simp
  rw [← hL] at ho6
  have hsp := spoilt_cut g1 w.heap.size l0.length (l0 ++ [7, 7, 7]) w6 ho6
  rw [hL] at hsp
  have HSP := Lib.hid hsp
  clear hb6 HLf HH5 HR5 HB5 HB5w ho6 hL hsp
  go_wp2_with (fail)
  refine HSP.out.mono ?_
  rintro e w7 ⟨⟨u7, rfl⟩, hg7, _⟩
  have hg7' : w6.grownBy w7 (some g1) := hg7
  have HH7 : Hid (HashAt w7 g l0) := by
    obtain ⟨s, r, h1, h2⟩ := HH6.out
    exact ⟨s, r, h1, (hg7'.block g h2.lt (by simp; omega)).trans h2⟩
  have HR7 : Hid (Rw w7 gd 35 dv) := (hg7'.block gd HR6.out.lt (by simp; omega)).trans HR6.out
  have HB7 : Hid (Below w.heap.size w w7) := below_grown HB6w.out hg7' HB6w.out.size hg1.1
  have H7 := Lib.hid (H0.out.below_ HB7.out (Nat.le_refl _))
  clear HSP hg7 hg7' HH6 HR6 HB6 HB6w HO1 HT1 H0 HB1
  have HSM : Hid (∀ w', Below w7.heap.size w7 w' → Calls Try.prog 17 #[.slice A0 l0.length c0] w' (fun e w'' => e = .returned (.agg dv) ∧ Below w7.heap.size w7 w'')) := fun w' hb => by
    refine (rsum_any _ l0 w.heap.size w' (Nat.le_trans HB7.out.size hb.size) (H7.out.below_ hb HB7.out.size) (by omega)).mono ?_
    rintro e w'' ⟨rfl, hb'⟩
    exact ⟨by rw [HDV.out], hb.trans (hb'.mono hb.size)⟩
  have HHM : Hid (∀ w', Below w7.heap.size w7 w' → Calls Try.prog 24 #[.pointer (some ⟨g, 0, none⟩)] w' (fun e w'' => e = .returned (.agg dv) ∧ Below w7.heap.size w7 w'')) := fun w' hb => by
    refine (hsum_any g l0 w' (HH7.out.below hb HH7.out.lt) (by omega)).mono ?_
    rintro e w'' ⟨rfl, hb'⟩
    exact ⟨by rw [HDV.out], hb.trans (hb'.mono hb.size)⟩
  have HWM : Hid (∀ w', Below w7.heap.size w7 w' → Calls Try.prog 12 #[] w' (fun e w'' => e = .returned (.bool true) ∧ Below w7.heap.size w7 w'')) := fun w' hb => by
    refine (works_any w').mono ?_
    rintro e w'' ⟨rfl, hb'⟩
    exact ⟨rfl, hb.trans (hb'.mono hb.size)⟩
  have HRM : Hid (∀ w', Below w7.heap.size w7 w' → Rw w' gd 35 dv) := fun w' hb => HR7.out.below hb HR7.out.lt
  have HBE : Hid (∀ w', Below w7.heap.size w7 w' → Below w.heap.size w w') := fun w' hb => HB7.out.trans (hb.mono HB7.out.size)
  clear hsz HH7 HR7 HB7 H7 HN
  go_wp2_with (fail)
  refine wp_region_grow 20 (by kernel_rfl) (by kernel_rfl) (fun w' => Below w7.heap.size w7 w') (Below.refl _ _).drew ?_
  simp only [List.take_succ_cons, List.take_zero, List.drop_succ_cons, List.drop_zero]
  iterate 6 (refine wpGrow_pure (v := ?_) rfl ?_ ?_; rotate_left; focus (intro w' _; go_simp; first | done | with_reducible rfl)
             go_simp)
  refine wpGrow_load_row rfl _ _ rfl gd rfl 35 dv (0, 0) _ (fun w' h => HRM.out w' h) Try.underlying35 rfl hsz32 ?_
  go_simp
  iterate 1 (refine wpGrow_pure (v := ?_) rfl ?_ ?_; rotate_left; focus (intro w' _; go_simp; first | done | with_reducible rfl)
             go_simp)
  refine wpGrow_call (v := .agg dv) (f := 17) (args := #[.slice A0 l0.length c0]) rfl (fun w' => by go_simp) HSM.out ?_
  go_simp
  iterate 4 (refine wpGrow_pure (v := ?_) rfl ?_ ?_; rotate_left; focus (intro w' _; go_simp; first | done | with_reducible rfl)
             go_simp)
  refine wpGrow_call (v := .agg dv) (f := 24) (args := #[.pointer (some ⟨g, 0, none⟩)]) rfl (fun w' => by go_simp) HHM.out ?_
  go_simp
  refine wpGrow_load_row rfl _ _ rfl gd rfl 35 dv (0, 0) _ (fun w' h => HRM.out w' h) Try.underlying35 rfl hsz32 ?_
  go_simp
  iterate 3 (refine wpGrow_pure (v := ?_) rfl ?_ ?_; rotate_left; focus (intro w' _; go_simp; first | done | with_reducible rfl)
             go_simp)
  refine wpGrow_call (v := .bool true) (f := 12) (args := #[]) rfl (fun w' => by go_simp) HWM.out ?_
  go_simp
  iterate 1 (refine wpGrow_pure (v := ?_) rfl ?_ ?_; rotate_left; focus (intro w' _; go_simp; first | done | with_reducible rfl)
             go_simp)
  refine wpGrow_nil ?_
  intro w8 hb8
  have HB8 := Lib.hid (HBE.out w8 hb8)
  clear hb8
  go_wp2
  go_ret
  exact ⟨rfl, HB8.out⟩

/-! ### From the walk to the row -/
set_option maxRecDepth 100000 in
theorem lifted (os : Os) (started : os.Started) (H : Type) (enc : TypeId × Value → H) (F : Stop.Interp) :
    ReturnsInHanded {} Try.checked os 9 .any ((Rows.OpenSpec.upto Rows.shaFreshSpec).pre6 enc Try.prog Try.f9 Rows.shaFreshUptoRow.domain false) (((Rows.OpenSpec.upto Rows.shaFreshSpec).at F).post enc Try.prog Try.f9 false true false false) := by
  refine returnsInHanded_of_cond (C := Try.checked) (s := Rows.OpenSpec.upto Rows.shaFreshSpec) (k := Rows.uptoSmall) rfl own started (by kernel_rfl) Try.func9
    (OpenSpec.witness (enc := enc) (C := Try.checked) (s := Rows.OpenSpec.upto Rows.shaFreshSpec) (k := Rows.uptoSmall) rfl false ⟨#[], #[.slice none 0 0], []⟩ 8 (by kernel_rfl) (by kernel_rfl) (by kernel_rfl)
      (x := ([.nil], [], [])) (by kernel_rfl) rfl (by kernel_rfl)) ?_
  intro W base args ds gs before hval0 hW hcnd hsmall _
  have hval : ∀ (j : Nat) t v, Try.f9.params[j]? = some t → args[j]? = some v → Value.okWide Try.prog W .any base t v := hval0
  have hW' := hW
  obtain ⟨p, q, hA0, hV, rfl, hfz, hnd⟩ := hW
  have hA : DataW.TrodAll enc Try.prog W 0 (fun _ => true) true Try.f9.params.toList args.toList ds p := hA0
  rw [Try.params9] at hA hval
  obtain ⟨v0, vs0, d0, ds0, p0, q0, hargs, rfl, rfl, h0, r0⟩ := trodAll_cons hA
  obtain ⟨rfl, rfl, rfl⟩ := trodAll_nil r0
  obtain rfl : args = #[v0] := by cases args; simp_all
  obtain ⟨rfl, rfl⟩ := trodVars_none hV
  obtain ⟨a0, len0, cap0, rfl⟩ := okWide_slice Try.underlying28 (hval 0 28 v0 rfl rfl)
  have k0 := h0
  have lt0 : ∀ x ∈ p0, x.block < W.heap.size := by obtain ⟨m, hm⟩ := k0; exact DataW.trod_lt m _ _ _ hm
  have bulk0 : len0 ≤ Rows.uptoBulk d0 := by
    obtain ⟨fuel, hf⟩ := h0
    rcases open_ints Try.underlying28 Try.underlying5 (by kernel_rfl) hf with ⟨hcs, _⟩ | ⟨x, l, c, zs, hcs, _, hl, hm, hz, hx, hcell, hwz⟩
    · simp [Value.cells] at hcs
      omega
    · simp [Value.cells] at hcs
      obtain ⟨rfl, rfl, rfl⟩ := hcs
      rw [Prod.mk.injEq] at hx
      rw [hx.1]
      exact bulk_ints _ _ _ (by rw [hz]; simp; omega)
  obtain ⟨l0, len_0, hb0⟩ : ∃ l : List Nat, l.length = len0 ∧ Bv W W.heap.size (.slice a0 len0 cap0) l := by
    obtain ⟨fuel, hf⟩ := h0
    rcases open_ints Try.underlying28 Try.underlying5 (by kernel_rfl) hf with ⟨hcs, _⟩ | ⟨x, l, c, zs, hcs, _, hl, hm, hz, _, hcell, hwz⟩
    · simp [Value.cells] at hcs
      obtain ⟨rfl, rfl, rfl⟩ := hcs
      exact bytes_in (.inl ⟨rfl, rfl, rfl⟩)
    · simp [Value.cells] at hcs
      obtain ⟨rfl, rfl, rfl⟩ := hcs
      exact bytes_in (.inr ⟨x, zs, rfl, hl, hm, by simpa using hz, hcell, hwz⟩)
  clear hA0 hval0
  have hsum := bulk_all hsmall
  simp only [List.append_nil, Rows.uptoBulkAll] at hsum
  have hsum2 : l0.length ≤ 1048576 := by omega
  refine (walk W (.slice a0 len0 cap0) l0 hb0 hsum2).mono fun e W' ⟨he, bel⟩ => ?_
  subst he
  exact ⟨_, rfl, _, _, _, [], _, [], hW', trodAll_mk1 (shut_bool Try.underlying4 _), (trodAll_cons_mk (Below.trod laidOut (by kernel_rfl) (of_decide_eq_true (by kernel_rfl)) k0 bel lt0) trodAll_mk0), rfl, bel.frame _, fun h => by cases h⟩

theorem proved : Rows.ShaFreshUptoSaid :=
  OpenClaim.holds_of_cond 9 Try.f9 rfl rfl rfl rfl rfl rfl rfl ⟨rfl, rfl, rfl, rfl, rfl⟩ rfl rfl rfl rfl rfl (by kernel_rfl) Try.func9 (by kernel_rfl)
    (of_decide_eq_true (by kernel_rfl)) (by unfold Func.isWrapper; first | (rw [if_pos (by decide +kernel)]; kernel_rfl) | (rw [if_neg (by decide +kernel)]; exact ⟨rfl, rfl⟩))
    (fun os started H enc _ F => lifted os started H enc F)

end Go.Proofs.Ytejipcnihgpdhaa.shaFresh
