/-
  ShaTexts: a digest is told, and a text read, as the document says; what is told is read, and what is read is told. No condition.
-/
import Derived.Test.YtejipcnihgpdhaaFrameX
import Derived.Test.YtejipcnihgpdhaaSpEq
import Derived.Test.YtejipcnihgpdhaaSpBack
import Derived.Test.YtejipcnihgpdhaaGrow
namespace Go.Proofs.Ytejipcnihgpdhaa.shaTexts
open Go.ChangeShapes Go.WideShapes Go.ChangeAt Go.RowKit
open Go.ChangeMaps (open_string shut_string)
set_option linter.unusedVariables false

set_option maxHeartbeats 2000000 in
set_option maxRecDepth 100000 in
theorem walk (w : World) (l0 : List Nat) (n0 : l0.length = 32) (b0 : ∀ x ∈ l0, x < 256) (s1 : ByteArray) (z1 : s1.size ≤ maxLen) :
    Calls Try.prog 6 #[.agg (bvs l0), .string s1] w (IsBool true w) := by
  have hz32 : ∀ w, (zeroValue 35).run Try.prog w = .ok (.agg none32) w := (zero_of_info (n := 32) (by kernel_rfl)).1
  have HP : Hid (∀ w, Calls Try.prog 18 #[.string s1] w (fun e w' => e = .returned (.tuple #[.agg (bvs (Sh.parse (chars s1)).1), .int .i64 (Sh.parse (chars s1)).2]) ∧ Below w.heap.size w w')) := fun w => parse_any s1 w
  have HR : Hid (∀ w, Calls Try.prog 19 #[.string s1] w (fun e w' => e = .returned (.tuple #[.agg (bvs (Sh.parse (chars s1)).1), .int .i64 (Sh.parse (chars s1)).2]) ∧ Below w.heap.size w w')) := fun w => rparse_any s1 w
  have HZ : Hid (∀ w, Calls Try.prog 18 #[.string (txt (Sh.text l0))] w (fun e w' => e = .returned (.tuple #[.agg (bvs l0), .int .i64 0]) ∧ Below w.heap.size w w')) := fun w => by
    have := parse_any (txt (Sh.text l0)) w
    rwa [parse_told l0 n0 b0] at this
  have HT : Hid (∀ w, Calls Try.prog 20 #[.agg (bvs l0)] w (fun e w' => e = .returned (.string (txt (Sh.text l0))) ∧ Below w.heap.size w w')) := fun w => text_any l0 n0 b0 w
  have HU : Hid (∀ w, Calls Try.prog 21 #[.agg (bvs l0)] w (fun e w' => e = .returned (.string (txt (Sh.text l0))) ∧ Below w.heap.size w w')) := fun w => rtext_any l0 n0 b0 w
  have hpl := Sh.parse_len (chars s1)
  have HS : Hid (∀ w, Calls Try.prog 20 #[.agg (bvs (Sh.parse (chars s1)).1)] w (fun e w' => e = .returned (.string (txt (Sh.text (Sh.parse (chars s1)).1))) ∧ Below w.heap.size w w')) := fun w => text_any _ hpl (Sh.parse_lt _) w
  have h2 := told_parse s1
  have heqx := same32 (Sh.parse (chars s1)).1 hpl
  have heqd := same32 l0 n0
  have h1s := size35l hpl
  have h2s := size35l n0
  have h1o := bvs_one (Sh.parse (chars s1)).1
  have h2o := bvs_one l0
  have h1d : none32.size = (bvs (Sh.parse (chars s1)).1).size := by rw [bvs_size, hpl]; rfl
  have h2d : none32.size = (bvs l0).size := by rw [bvs_size, n0]; rfl
  obtain ⟨X, hX⟩ : ∃ X, (Sh.parse (chars s1)).1 = X := ⟨_, rfl⟩
  obtain ⟨E, hE⟩ : ∃ E, (Sh.parse (chars s1)).2 = E := ⟨_, rfl⟩
  rw [hX] at HP HR HS h2 heqx h1s h1o h1d
  rw [hE] at HP HR h2
  obtain ⟨xc, hxc⟩ : ∃ c, bvs X = c := ⟨_, rfl⟩
  obtain ⟨dc, hdc⟩ : ∃ c, bvs l0 = c := ⟨_, rfl⟩
  obtain ⟨T, hT⟩ : ∃ T, txt (Sh.text l0) = T := ⟨_, rfl⟩
  rw [hxc] at HP HR HS heqx h1s h1o h1d
  rw [hdc] at HZ HT HU heqd h2s h2o h2d ⊢
  rw [hT] at HZ HT HU
  have HS' : Hid (E = 0 → ∀ w, Calls Try.prog 20 #[.agg xc] w (fun e w' => e = .returned (.string s1) ∧ Below w.heap.size w w')) := by
    intro he w
    rcases h2 with ⟨_, h⟩ | h
    · have := HS.out w
      rwa [h] at this
    · omega
  have hE2 : E = 0 ∨ E = 5 := by
    rcases h2 with ⟨h, _⟩ | h
    · exact .inl h
    · exact .inr h
  obtain ⟨x, hx⟩ : ∃ x : Int, (E : Int) = x := ⟨_, rfl⟩
  have HE : Hid (x = 0 ∨ x = 5) := by unfold Hid; omega
  have HS2 : Hid (x = 0 → ∀ w, Calls Try.prog 20 #[.agg xc] w (fun e w' => e = .returned (.string s1) ∧ Below w.heap.size w w')) := fun h => HS'.out (by omega)
  rw [hx] at HP HR
  clear h2 HS HS' hX hE hE2 hx hxc hdc hT hpl n0 b0 z1
  go_enter Try.func6, Try.ntmps6
  have H0 : Hid (Rw (w.alloc (.cells dc 35)) w.heap.size 35 dc) := Rw.new w _ _
  have HB0 := Lib.hid ((Below.refl w.heap.size w).alloc (Nat.le_refl _) (.cells dc 35))
  have HP1 := Lib.hid (HP.out (w.alloc (.cells dc 35)))
  obtain ⟨w0, hw0⟩ : ∃ w0, w.alloc (.cells dc 35) = w0 := ⟨_, rfl⟩
  rw [hw0] at H0 HB0 HP1
  go_wp2_with (fail)
  clear hw0
  refine HP1.out.mono ?_
  rintro e w1 ⟨rfl, hb1⟩
  have H1 := Lib.hid (H0.out.below hb1 H0.out.lt)
  have HB1 := Lib.hid (HB0.out.trans (hb1.mono HB0.out.size))
  clear HP1 H0 HB0 hb1
  go_wp2_with (refine wpList_store_row rfl _ _ _ rfl w1.heap.size xc rfl rfl 35 _ (heap_alloc_new w1 _) h1s h1d h1o ?_
               rw [World.setRow_alloc_new])
  have HX2 : Hid (Rw (w1.alloc (.cells xc 35)) w1.heap.size 35 xc) := Rw.new w1 _ _
  have H2 : Hid (Rw (w1.alloc (.cells xc 35)) w.heap.size 35 dc) := H1.out.old _
  have HB2 : Hid (Below w.heap.size w (w1.alloc (.cells xc 35))) := HB1.out.alloc HB1.out.size _
  obtain ⟨gx, hgx⟩ : ∃ g, w1.heap.size = g := ⟨_, rfl⟩
  obtain ⟨w2, hw2⟩ : ∃ w2, w1.alloc (.cells xc 35) = w2 := ⟨_, rfl⟩
  rw [hgx, hw2] at HX2
  rw [hw2] at H2 HB2 ⊢
  rw [hgx]
  clear hw2 hgx H1 HB1
  refine (HR.out w2).mono ?_
  rintro e w3 ⟨rfl, hb3⟩
  have H3 := Lib.hid (H2.out.below hb3 H2.out.lt)
  have HX3 := Lib.hid (HX2.out.below hb3 HX2.out.lt)
  have HB3 := Lib.hid (HB2.out.trans (hb3.mono HB2.out.size))
  clear H2 HX2 HB2 hb3
  have HX4 : Hid (Rw (w3.alloc (.cells xc 35)) gx 35 xc) := HX3.out.old _
  have HY4 : Hid (Rw (w3.alloc (.cells xc 35)) w3.heap.size 35 xc) := Rw.new w3 _ _
  have H4 : Hid (Rw (w3.alloc (.cells xc 35)) w.heap.size 35 dc) := H3.out.old _
  have HB4 : Hid (Below w.heap.size w (w3.alloc (.cells xc 35))) := HB3.out.alloc HB3.out.size _
  go_wp2_with (first
    | (refine wpList_store_row rfl _ _ _ rfl w3.heap.size xc rfl rfl 35 _ (heap_alloc_new w3 _) h1s h1d h1o ?_
       rw [World.setRow_alloc_new])
    | (refine wpList_load_row rfl _ _ rfl w.heap.size rfl 35 dc (0, 0) _ H4.out Try.underlying35 rfl h2s ?_))
  obtain ⟨gy, hgy⟩ : ∃ g, w3.heap.size = g := ⟨_, rfl⟩
  obtain ⟨w4, hw4⟩ : ∃ w4, w3.alloc (.cells xc 35) = w4 := ⟨_, rfl⟩
  rw [hgy, hw4] at HY4
  rw [hw4] at H4 HB4 HX4 ⊢
  rw [hgy]
  clear hw4 hgy H3 HX3 HB3
  refine (HT.out w4).mono ?_
  rintro e w5 ⟨rfl, hb5⟩
  have HB5 := Lib.hid (HB4.out.trans (hb5.mono HB4.out.size))
  have H5 := Lib.hid (H4.out.below hb5 H4.out.lt)
  have HX5 := Lib.hid (HX4.out.below hb5 HX4.out.lt)
  have HY5 := Lib.hid (HY4.out.below hb5 HY4.out.lt)
  clear H4 HX4 HY4 HB4 hb5
  go_wp2_with (fail)
  refine (HZ.out w5).mono ?_
  rintro e w6 ⟨rfl, hb6⟩
  have HB6 := Lib.hid (HB5.out.trans (hb6.mono HB5.out.size))
  have H6 := Lib.hid (H5.out.below hb6 H5.out.lt)
  have HX6 := Lib.hid (HX5.out.below hb6 HX5.out.lt)
  have HY6 := Lib.hid (HY5.out.below hb6 HY5.out.lt)
  clear H5 HX5 HY5 HB5 hb6
  go_wp2_with (refine wpList_store_row rfl _ _ _ rfl w6.heap.size dc rfl rfl 35 _ (heap_alloc_new w6 _) h2s h2d h2o ?_
               rw [World.setRow_alloc_new])
  have H7 : Hid (Rw (w6.alloc (.cells dc 35)) w.heap.size 35 dc) := H6.out.old _
  have HX7 : Hid (Rw (w6.alloc (.cells dc 35)) gx 35 xc) := HX6.out.old _
  have HY7 : Hid (Rw (w6.alloc (.cells dc 35)) gy 35 xc) := HY6.out.old _
  have HZ7 : Hid (Rw (w6.alloc (.cells dc 35)) w6.heap.size 35 dc) := Rw.new w6 _ _
  have HB7 : Hid (Below w.heap.size w (w6.alloc (.cells dc 35))) := HB6.out.alloc HB6.out.size _
  obtain ⟨gz, hgz⟩ : ∃ g, w6.heap.size = g := ⟨_, rfl⟩
  obtain ⟨w7, hw7⟩ : ∃ w7, w6.alloc (.cells dc 35) = w7 := ⟨_, rfl⟩
  rw [hgz, hw7] at HZ7
  rw [hw7] at H7 HX7 HY7 HB7 ⊢
  rw [hgz]
  clear hw7 hgz H6 HX6 HY6 HB6
  have HTM : Hid (∀ w', Below w7.heap.size w7 w' → Calls Try.prog 20 #[.agg dc] w' (fun e w'' => e = .returned (.string T) ∧ Below w7.heap.size w7 w'')) := fun w' hb => by
    refine (HT.out w').mono ?_
    rintro e w'' ⟨rfl, hb'⟩
    exact ⟨rfl, hb.trans (hb'.mono hb.size)⟩
  have HUM : Hid (∀ w', Below w7.heap.size w7 w' → Calls Try.prog 21 #[.agg dc] w' (fun e w'' => e = .returned (.string T) ∧ Below w7.heap.size w7 w'')) := fun w' hb => by
    refine (HU.out w').mono ?_
    rintro e w'' ⟨rfl, hb'⟩
    exact ⟨rfl, hb.trans (hb'.mono hb.size)⟩
  have HWM : Hid (∀ w', Below w7.heap.size w7 w' → Calls Try.prog 12 #[] w' (fun e w'' => e = .returned (.bool true) ∧ Below w7.heap.size w7 w'')) := fun w' hb => by
    refine (works_any w').mono ?_
    rintro e w'' ⟨rfl, hb'⟩
    exact ⟨rfl, hb.trans (hb'.mono hb.size)⟩
  have HDM : Hid (∀ w', Below w7.heap.size w7 w' → Rw w' w.heap.size 35 dc) := fun w' hb => H7.out.below hb H7.out.lt
  have HXM : Hid (∀ w', Below w7.heap.size w7 w' → Rw w' gx 35 xc) := fun w' hb => HX7.out.below hb HX7.out.lt
  have HYM : Hid (∀ w', Below w7.heap.size w7 w' → Rw w' gy 35 xc) := fun w' hb => HY7.out.below hb HY7.out.lt
  have HZM : Hid (∀ w', Below w7.heap.size w7 w' → Rw w' gz 35 dc) := fun w' hb => HZ7.out.below hb HZ7.out.lt
  have HBE : Hid (∀ w', Below w7.heap.size w7 w' → Below w.heap.size w w') := fun w' hb => HB7.out.trans (hb.mono HB7.out.size)
  clear HP HR HZ HT HU H7 HX7 HY7 HZ7 HB7
  rcases HE.out with rfl | rfl
  · have HSM : Hid (∀ w', Below w7.heap.size w7 w' → Calls Try.prog 20 #[.agg xc] w' (fun e w'' => e = .returned (.string s1) ∧ Below w7.heap.size w7 w'')) := fun w' hb => by
      refine (HS2.out rfl w').mono ?_
      rintro e w'' ⟨rfl, hb'⟩
      exact ⟨rfl, hb.trans (hb'.mono hb.size)⟩
    clear HE HS2
    refine wp_region_grow 37 (by kernel_rfl) (by kernel_rfl) (fun w' => Below w7.heap.size w7 w') (Below.refl _ _).drew ?_
    simp only [List.take_succ_cons, List.take_zero, List.drop_succ_cons, List.drop_zero]
    refine wpGrow_load_row rfl _ _ rfl w.heap.size rfl 35 dc (0, 0) _ (fun w' h => HDM.out w' h) Try.underlying35 rfl h2s ?_
    go_simp
    refine wpGrow_call (v := .string T) (f := 20) (args := #[.agg dc]) rfl (fun w' => by go_simp) HTM.out ?_
    go_simp
    refine wpGrow_load_row rfl _ _ rfl w.heap.size rfl 35 dc (0, 0) _ (fun w' h => HDM.out w' h) Try.underlying35 rfl h2s ?_
    go_simp
    refine wpGrow_call (v := .string T) (f := 21) (args := #[.agg dc]) rfl (fun w' => by go_simp) HUM.out ?_
    go_simp
    iterate 2 (refine wpGrow_pure (v := ?_) rfl ?_ ?_; rotate_left; focus (intro w' _; go_simp; first | done | with_reducible rfl)
               go_simp)
    refine wpGrow_load_row rfl _ _ rfl gx rfl 35 xc (0, 0) _ (fun w' h => HXM.out w' h) Try.underlying35 rfl h1s ?_
    go_simp
    refine wpGrow_load_row rfl _ _ rfl gy rfl 35 xc (0, 0) _ (fun w' h => HYM.out w' h) Try.underlying35 rfl h1s ?_
    go_simp
    iterate 3 (refine wpGrow_pure (v := ?_) rfl ?_ ?_; rotate_left; focus (intro w' _; go_simp; first | done | with_reducible rfl)
               go_simp)
    iterate 5 (refine wpGrow_pure (v := ?_) rfl ?_ ?_; rotate_left; focus (intro w' _; go_simp; first | done | with_reducible rfl)
               go_simp)
    refine wpGrow_load_row rfl _ _ rfl gz rfl 35 dc (0, 0) _ (fun w' h => HZM.out w' h) Try.underlying35 rfl h2s ?_
    go_simp
    refine wpGrow_load_row rfl _ _ rfl w.heap.size rfl 35 dc (0, 0) _ (fun w' h => HDM.out w' h) Try.underlying35 rfl h2s ?_
    go_simp
    iterate 3 (refine wpGrow_pure (v := ?_) rfl ?_ ?_; rotate_left; focus (intro w' _; go_simp; first | done | with_reducible rfl)
               go_simp)
    iterate 4 (refine wpGrow_pure (v := ?_) rfl ?_ ?_; rotate_left; focus (intro w' _; go_simp; first | done | with_reducible rfl)
               go_simp)
    iterate 3 (refine wpGrow_pure (v := ?_) rfl ?_ ?_; rotate_left; focus (intro w' _; go_simp; first | done | with_reducible rfl)
               go_simp)
    refine wpGrow_load_row rfl _ _ rfl gx rfl 35 xc (0, 0) _ (fun w' h => HXM.out w' h) Try.underlying35 rfl h1s ?_
    go_simp
    refine wpGrow_call (v := .string s1) (f := 20) (args := #[.agg xc]) rfl (fun w' => by go_simp) HSM.out ?_
    go_simp
    iterate 2 (refine wpGrow_pure (v := ?_) rfl ?_ ?_; rotate_left; focus (intro w' _; go_simp; first | done | with_reducible rfl)
               go_simp)
    iterate 3 (refine wpGrow_pure (v := ?_) rfl ?_ ?_; rotate_left; focus (intro w' _; go_simp; first | done | with_reducible rfl)
               go_simp)
    refine wpGrow_call (v := .bool true) (f := 12) (args := #[]) rfl (fun w' => by go_simp) HWM.out ?_
    go_simp
    iterate 1 (refine wpGrow_pure (v := ?_) rfl ?_ ?_; rotate_left; focus (intro w' _; go_simp; first | done | with_reducible rfl)
               go_simp)
    refine wpGrow_nil ?_
    intro w8 hb8
    have HB8 := Lib.hid (HBE.out w8 hb8)
    clear hb8
    go_wp2
    go_ret
    exact ⟨rfl, HB8.out⟩
  · clear HE HS2
    refine wp_region_grow 37 (by kernel_rfl) (by kernel_rfl) (fun w' => Below w7.heap.size w7 w') (Below.refl _ _).drew ?_
    simp only [List.take_succ_cons, List.take_zero, List.drop_succ_cons, List.drop_zero]
    refine wpGrow_load_row rfl _ _ rfl w.heap.size rfl 35 dc (0, 0) _ (fun w' h => HDM.out w' h) Try.underlying35 rfl h2s ?_
    go_simp
    refine wpGrow_call (v := .string T) (f := 20) (args := #[.agg dc]) rfl (fun w' => by go_simp) HTM.out ?_
    go_simp
    refine wpGrow_load_row rfl _ _ rfl w.heap.size rfl 35 dc (0, 0) _ (fun w' h => HDM.out w' h) Try.underlying35 rfl h2s ?_
    go_simp
    refine wpGrow_call (v := .string T) (f := 21) (args := #[.agg dc]) rfl (fun w' => by go_simp) HUM.out ?_
    go_simp
    iterate 2 (refine wpGrow_pure (v := ?_) rfl ?_ ?_; rotate_left; focus (intro w' _; go_simp; first | done | with_reducible rfl)
               go_simp)
    refine wpGrow_load_row rfl _ _ rfl gx rfl 35 xc (0, 0) _ (fun w' h => HXM.out w' h) Try.underlying35 rfl h1s ?_
    go_simp
    refine wpGrow_load_row rfl _ _ rfl gy rfl 35 xc (0, 0) _ (fun w' h => HYM.out w' h) Try.underlying35 rfl h1s ?_
    go_simp
    iterate 3 (refine wpGrow_pure (v := ?_) rfl ?_ ?_; rotate_left; focus (intro w' _; go_simp; first | done | with_reducible rfl)
               go_simp)
    iterate 5 (refine wpGrow_pure (v := ?_) rfl ?_ ?_; rotate_left; focus (intro w' _; go_simp; first | done | with_reducible rfl)
               go_simp)
    refine wpGrow_load_row rfl _ _ rfl gz rfl 35 dc (0, 0) _ (fun w' h => HZM.out w' h) Try.underlying35 rfl h2s ?_
    go_simp
    refine wpGrow_load_row rfl _ _ rfl w.heap.size rfl 35 dc (0, 0) _ (fun w' h => HDM.out w' h) Try.underlying35 rfl h2s ?_
    go_simp
    iterate 3 (refine wpGrow_pure (v := ?_) rfl ?_ ?_; rotate_left; focus (intro w' _; go_simp; first | done | with_reducible rfl)
               go_simp)
    iterate 4 (refine wpGrow_pure (v := ?_) rfl ?_ ?_; rotate_left; focus (intro w' _; go_simp; first | done | with_reducible rfl)
               go_simp)
    iterate 3 (refine wpGrow_pure (v := ?_) rfl ?_ ?_; rotate_left; focus (intro w' _; go_simp; first | done | with_reducible rfl)
               go_simp)
    iterate 4 (refine wpGrow_off rfl ?_
               go_simp)
    iterate 3 (refine wpGrow_pure (v := ?_) rfl ?_ ?_; rotate_left; focus (intro w' _; go_simp; first | done | with_reducible rfl)
               go_simp)
    refine wpGrow_call (v := .bool true) (f := 12) (args := #[]) rfl (fun w' => by go_simp) HWM.out ?_
    go_simp
    iterate 1 (refine wpGrow_pure (v := ?_) rfl ?_ ?_; rotate_left; focus (intro w' _; go_simp; first | done | with_reducible rfl)
               go_simp)
    refine wpGrow_nil ?_
    intro w8 hb8
    have HB8 := Lib.hid (HBE.out w8 hb8)
    clear hb8
    go_wp2
    go_ret
    exact ⟨rfl, HB8.out⟩

/-! ### From the walk to the row -/
set_option maxRecDepth 100000 in
theorem lifted (os : Os) (started : os.Started) (H : Type) (enc : TypeId × Value → H) :
    ReturnsInHanded {} Try.checked os 6 .any (Rows.shaTextsSpec.pre6 enc Try.prog Try.f6 Rows.shaTextsRow.domain false) (Rows.shaTextsSpec.post enc Try.prog Try.f6 false true false false) := by
  refine returnsInHanded_of_change (C := Try.checked) own started (by kernel_rfl) Try.func6
    (ChangeSpec.witness6 (enc := enc) (C := Try.checked) false ⟨#[], #[.agg #[.int .u8 0, .int .u8 0, .int .u8 0, .int .u8 0, .int .u8 0, .int .u8 0, .int .u8 0, .int .u8 0, .int .u8 0, .int .u8 0, .int .u8 0, .int .u8 0, .int .u8 0, .int .u8 0, .int .u8 0, .int .u8 0, .int .u8 0, .int .u8 0, .int .u8 0, .int .u8 0, .int .u8 0, .int .u8 0, .int .u8 0, .int .u8 0, .int .u8 0, .int .u8 0, .int .u8 0, .int .u8 0, .int .u8 0, .int .u8 0, .int .u8 0, .int .u8 0], .string { data := #[] }], []⟩ 8 (by kernel_rfl) (by kernel_rfl) (by kernel_rfl) (by kernel_rfl)) ?_
  intro W base args ds gs before hval0 hW hcnd _
  have hval : ∀ (j : Nat) t v, Try.f6.params[j]? = some t → args[j]? = some v → Value.okWide Try.prog W .any base t v := hval0
  have hW' := hW
  obtain ⟨p, q, hA0, hV, rfl, hfz, hnd⟩ := hW
  have hA : DataW.TrodAll enc Try.prog W 0 (fun _ => true) true Try.f6.params.toList args.toList ds p := hA0
  rw [Try.params6] at hA hval
  obtain ⟨v0, vs0, d0, ds0, p0, q0, hargs, rfl, rfl, h0, r0⟩ := trodAll_cons hA
  obtain ⟨v1, vs1, d1, ds1, p1, q1, rfl, rfl, rfl, h1, r1⟩ := trodAll_cons r0
  obtain ⟨rfl, rfl, rfl⟩ := trodAll_nil r1
  obtain rfl : args = #[v0, v1] := by cases args; simp_all
  obtain ⟨rfl, rfl⟩ := trodVars_none hV
  have k0 := h0
  have lt0 : ∀ x ∈ p0, x.block < W.heap.size := by obtain ⟨m, hm⟩ := k0; exact DataW.trod_lt m _ _ _ hm
  obtain ⟨l0, nl0, bl0, rfl⟩ := bytes_arr Try.underlying35 (by kernel_rfl) (hval 0 35 v0 rfl rfl) h0
  obtain ⟨s1, rfl, rfl, rfl, z1⟩ := open_string Try.underlying9 (hval 1 9 v1 rfl rfl) h1
  clear hA0 hval0
  refine (walk W l0 nl0 bl0 s1 z1).mono fun e W' ⟨he, bel⟩ => ?_
  subst he
  exact ⟨_, rfl, _, _, _, [], _, [], hW', trodAll_mk1 (shut_bool Try.underlying4 _), (trodAll_cons_mk (Below.trod laidOut (by kernel_rfl) (of_decide_eq_true (by kernel_rfl)) k0 bel lt0) (trodAll_cons_mk (shut_string Try.underlying9 z1) trodAll_mk0)), rfl, bel.frame _, fun h => by cases h⟩

theorem proved : Rows.ShaTextsSaid :=
  OpenClaim.holds_of_wide 6 Try.f6 rfl rfl rfl rfl rfl rfl rfl ⟨rfl, rfl, rfl, rfl, rfl⟩ rfl rfl rfl rfl rfl (by kernel_rfl) Try.func6 (by kernel_rfl)
    (of_decide_eq_true (by kernel_rfl)) (by unfold Func.isWrapper; first | (rw [if_pos (by decide +kernel)]; kernel_rfl) | (rw [if_neg (by decide +kernel)]; exact ⟨rfl, rfl⟩))
    (fun os started H enc _ => lifted os started H enc)

end Go.Proofs.Ytejipcnihgpdhaa.shaTexts
