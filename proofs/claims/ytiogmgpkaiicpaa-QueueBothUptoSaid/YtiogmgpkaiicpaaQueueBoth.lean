/-
  QueueBoth: two lists that are sorted, and then sorted together, are what both are that are sorted at once. Bound: the arguments' numbers, all told, are at most 1048576.
-/
import Derived.Test.YtiogmgpkaiicpaaFrameI
import Derived.Test.YtiogmgpkaiicpaaBulkL
import Derived.Test.YtiogmgpkaiicpaaQuLaw
import Derived.Test.YtiogmgpkaiicpaaRQu
namespace Go.Proofs.Ytiogmgpkaiicpaa.queueBoth
open Go.ChangeShapes Go.WideShapes Go.ChangeAt Go.RowKit
open Go.ChangeMaps (open_string shut_string)
set_option linter.unusedVariables false

set_option maxHeartbeats 1000000 in
set_option maxRecDepth 100000 in
theorem walk (w : World) (a0 : Int) (w0 : (Lit.int .i64 a0).wf = true) (v1 : Value) (l1 : List Int) (h1 : Lv iK w w.heap.size v1 l1) (v2 : Value) (l2 : List Int) (h2 : Lv iK w w.heap.size v2 l2) (hk : l1.length + l2.length ≤ 1048576) :
    Calls Try.prog 9 #[.int .i64 a0, v1, v2] w (IsBool true w) := by
  have hi := i64_wf w0
  have HI := Lib.hid hi
  have hcell : (w.alloc (.cells #[.int .i64 a0] 3)).cell? ⟨w.heap.size, 0, none⟩ = some (.int .i64 a0) := by rw [cell_of_row _ _ 0 _ _ _ (heap_alloc_new w _)]; rfl
  obtain ⟨g, hg⟩ : ∃ g, w.heap.size = g := ⟨_, rfl⟩
  obtain ⟨W0, hW0⟩ : ∃ W, w.alloc (.cells #[.int .i64 a0] 3) = W := ⟨_, rfl⟩
  have hgW : W0.heap.size = g + 1 := by rw [← hW0, ← hg]; simp
  rw [hg, hW0] at hcell
  have HCELL := Lib.hid hcell
  have HGW := Lib.hid hgW
  have HGE := Lib.hid hg
  clear hcell hgW hi
  have HK := Lib.hid hk
  clear hk w0
  have Fa_0 := Lib.hid (h1)
  have Fb_0 := Lib.hid (h2)
  obtain ⟨A, c, rfl, _⟩ := h1
  obtain ⟨A', c', rfl, _⟩ := h2
  have b0 := (Below.refl w.heap.size w).alloc (Nat.le_refl _) (.cells #[.int .i64 a0] 3)
  rw [hW0] at b0
  have HB0 := Lib.hid (Below.refl w.heap.size w)
  have b1 := b0
  have HB1 := Lib.hid (HB0.out.trans (b1.mono HB0.out.size))
  have Fa_1 := Lib.hid ((Fa_0.out.below_ b1 (Nat.le_refl _)).mono_ b1.size)
  have Fb_1 := Lib.hid ((Fb_0.out.below_ b1 (Nat.le_refl _)).mono_ b1.size)
  clear b1 HB0 Fa_0 Fb_0
  clear b0
  have HS : Hid (∀ (v : Value) (l : List Int) (w' : World), Lv iK w' w'.heap.size v l → l.length ≤ 1048576 → Below W0.heap.size W0 w' → Calls Try.prog 19 #[v, .func (.func 33) #[] #[.pointer (some ⟨g, 0, none⟩)]] w' (IsL1 iK (Qu.sorted (Qu.ltR a0) l) w')) := fun v l w' h hl hb => by
    have hc := (hb.cell (p := ⟨g, 0, none⟩) (by have := HGW.out; show g < _; omega)).trans HCELL.out
    exact psorted_int v l 33 #[.pointer (some ⟨g, 0, none⟩)] (Qu.ltR a0) _ w' (Nat.le_refl _) h (by omega) (Qu.ltR_order a0) (less_both w' (fun k => w'.heap.size ≤ k) g a0 HI.out hc (by have := HGW.out; have := hb.size; omega))
  have hboth := Qu.sorted_both (Qu.ltR_order a0) l1 l2
  obtain ⟨s1, e1⟩ : ∃ s, Qu.sorted (Qu.ltR a0) l1 = s := ⟨_, rfl⟩
  obtain ⟨s2, e2⟩ : ∃ s, Qu.sorted (Qu.ltR a0) l2 = s := ⟨_, rfl⟩
  have n1 : s1.length = l1.length := by rw [← e1, Qu.sorted_len]
  have n2 : s2.length = l2.length := by rw [← e2, Qu.sorted_len]
  rw [e1, e2] at hboth
  obtain ⟨al, hal⟩ : ∃ al, l1 ++ l2 = al := ⟨_, rfl⟩
  obtain ⟨pl, hpl⟩ : ∃ pl, s1 ++ s2 = pl := ⟨_, rfl⟩
  have nal : al.length = l1.length + l2.length := by rw [← hal]; simp
  have npl : pl.length = s1.length + s2.length := by rw [← hpl]; simp
  rw [hal, hpl] at hboth
  obtain ⟨r, hr⟩ : ∃ r, Qu.sorted (Qu.ltR a0) al = r := ⟨_, rfl⟩
  rw [hr] at hboth
  have E1 := Lib.hid e1
  have E2 := Lib.hid e2
  have HAL := Lib.hid hal
  have HPL := Lib.hid hpl
  have HR1 := Lib.hid hboth
  have HR2 := Lib.hid hr
  have N := Lib.hid (And.intro n1 (And.intro n2 (And.intro nal npl)))
  have HBB0 := Lib.hid (Below.refl W0.heap.size W0)
  clear hboth e1 e2 n1 n2 hal hpl nal npl hr
  go_enter Try.func9, Try.ntmps9
  skip
  have HBB := HBB0
  clear HBB0
  have FA := Lib.hid Fa_1.out
  have FB := Lib.hid Fb_1.out
  clear Fa_1
  clear Fb_1
  go_wp2_with (at_builtin; go_must (refine wpList_append_l _ iK rfl _ _ rfl W0.heap.size (.slice none 0 0) rfl [] (OwnL.nil_ _ _ _) _ rfl W0.heap.size l1 (FA.out.below_ HBB.out (Nat.le_refl _)) (by have := HK.out; have := N.out; show _ * 8 ≤ _; (try simp only [List.length_nil]); omega) (by have := HK.out; have := N.out; simp only [maxLen]; (try simp only [List.length_nil]); omega) HBB.out.size ?_))
  intro Ax cx wx hAx hGx
  skip
  have HBBn := Lib.hid (HBB.out.grown hGx HBB.out.size (by intro k hk; cases hk))
  have Ox := Lib.hid hAx
  clear hAx HBB
  have HBB := HBBn
  clear HBBn
  have OX : Hid (OwnL iK wx W0.heap.size (.slice Ax l1.length cx) l1) := by simpa [Hid] using Ox.out
  clear Ox hGx
  go_wp2_with (at_builtin; go_must (refine wpList_append_l _ iK rfl _ _ rfl W0.heap.size (.slice Ax l1.length cx) rfl l1 OX.out _ rfl W0.heap.size l2 (FB.out.below_ HBB.out (Nat.le_refl _)) (by have := HK.out; have := N.out; show _ * 8 ≤ _; (try simp only [List.length_nil]); omega) (by have := HK.out; have := N.out; simp only [maxLen]; (try simp only [List.length_nil]); omega) HBB.out.size ?_))
  intro Ay cy wy hAy hGy
  skip
  have HBBn := Lib.hid (HBB.out.grown hGy HBB.out.size (fun k hk => (OX.out.lt_ k hk).1))
  have Oy := Lib.hid hAy
  clear hAy HBB
  have HBB := HBBn
  clear HBBn
  have hy : l1.length + l2.length = al.length := by have := N.out; omega
  have OY : Hid (OwnL iK wy W0.heap.size (.slice Ay al.length cy) al) := by have := Oy.out; rw [HAL.out] at this; rw [← hy]; exact this
  have hy2 : (l1 ++ l2).length = al.length := by rw [HAL.out]
  (try rw [hy2])
  (try rw [hy])
  clear OX Oy hGy hy hy2
  have C5 := Lib.hid (HS.out _ l1 wy ((FA.out.below_ HBB.out (Nat.le_refl _)).mono_ HBB.out.size) (by have := HK.out; omega) HBB.out)
  rw [E1.out] at C5
  go_wp2_with (fail)
  refine (C5.out).mono ?_
  rintro e w5 ⟨A5, c5, rfl, o5, b5⟩
  have HB5 := Lib.hid (HBB.out.trans (b5.mono HBB.out.size))
  have OY5 := Lib.hid (OY.out.below_ b5 (Nat.le_refl _))
  have F5 := Lib.hid o5.form_
  clear C5 b5 o5 OY HBB
  have C6 := Lib.hid (HS.out _ l2 w5 ((FB.out.below_ HB5.out (Nat.le_refl _)).mono_ HB5.out.size) (by have := HK.out; omega) HB5.out)
  rw [E2.out] at C6
  go_wp2_with (fail)
  refine (C6.out).mono ?_
  rintro e w6 ⟨A6, c6, rfl, o6, b6⟩
  have HBB := Lib.hid (HB5.out.trans (b6.mono HB5.out.size))
  have OY6 := Lib.hid (OY5.out.below_ b6 (Nat.le_refl _))
  have F56 := Lib.hid (F5.out.below_ b6 (Nat.le_refl _))
  have F6 := Lib.hid o6.form_
  have HW6 := Lib.hid (Below.refl w6.heap.size w6)
  clear C6 b6 o6 OY5 HB5 F5
  go_wp2_with (at_builtin; go_must (refine wpList_append_l _ iK rfl _ _ rfl w6.heap.size (.slice none 0 0) rfl [] (OwnL.nil_ _ _ _) _ rfl _ s1 F56.out (by have := HK.out; have := N.out; show _ * 8 ≤ _; (try simp only [List.length_nil]); omega) (by have := HK.out; have := N.out; simp only [maxLen]; (try simp only [List.length_nil]); omega) (Nat.le_refl _) ?_))
  intro A7 c7 w7 hA7 hG7
  have HW7 := Lib.hid (HW6.out.grown hG7 (Nat.le_refl _) (by intro k hk; cases hk))
  have O7 : Hid (OwnL iK w7 w6.heap.size (.slice A7 s1.length c7) s1) := by simpa [Hid] using hA7
  clear hA7 hG7
  go_wp2_with (at_builtin; go_must (refine wpList_append_l _ iK rfl _ _ rfl w6.heap.size (.slice A7 s1.length c7) rfl s1 O7.out _ rfl _ s2 (F6.out.below_ HW7.out (Nat.le_refl _)) (by have := HK.out; have := N.out; show _ * 8 ≤ _; omega) (by have := HK.out; have := N.out; simp only [maxLen]; omega) HW7.out.size ?_))
  intro A8 c8 w8 hA8 hG8
  have HW8 := Lib.hid (HW7.out.grown hG8 HW7.out.size (fun k hk => (O7.out.lt_ k hk).1))
  have h8 : s1.length + s2.length = pl.length := by have := N.out; omega
  have h82 : (s1 ++ s2).length = pl.length := by rw [HPL.out]
  have O8 : Hid (OwnL iK w8 w6.heap.size (.slice A8 pl.length c8) pl) := by have := hA8; rw [HPL.out] at this; rw [← h8]; exact this
  (try rw [h82])
  (try rw [h8])
  clear hA8 hG8 h8 h82 O7
  have HB8 := Lib.hid (HBB.out.trans (HW8.out.mono HBB.out.size))
  have FY8 := Lib.hid (OY6.out.form_.below_ HW8.out (Nat.le_refl _))
  clear OY6
  have C9 := Lib.hid (HS.out _ pl w8 O8.out.form_ (by have := HK.out; have := N.out; omega) HB8.out)
  rw [HR1.out] at C9
  go_wp2_with (fail)
  refine (C9.out).mono ?_
  rintro e w9 ⟨A9, c9, rfl, o9, b9⟩
  have HB9 := Lib.hid (HB8.out.trans (b9.mono HB8.out.size))
  have F9 := Lib.hid o9.form_
  have FY9 := Lib.hid ((FY8.out.mono_ HW8.out.size).below_ b9 (Nat.le_refl _))
  clear C9 o9 O8 HBB HB8 FY8
  have C10 := Lib.hid (HS.out _ al w9 (FY9.out.mono_ b9.size) (by have := HK.out; have := N.out; omega) HB9.out)
  rw [HR2.out] at C10
  go_wp2_with (fail)
  refine (C10.out).mono ?_
  rintro e w10 ⟨A10, c10, rfl, o10, b10⟩
  have HB10 := Lib.hid (HB9.out.trans (b10.mono HB9.out.size))
  have C11 := Lib.hid (ints_lv _ _ _ _ _ _ w10 (F9.out.below_ b10 (Nat.le_refl _)) o10.form_)
  simp only [decide_true] at C11
  clear C10 o10 b10 b9 FY9 F9 HB9
  go_wp2_with (fail)
  refine (C11.out).mono ?_
  rintro e w11 ⟨rfl, b11⟩
  have HB11 := Lib.hid (HB10.out.trans (b11.mono HB10.out.size))
  have C12 := Lib.hid (works_any w11)
  clear C11 b11 HB10
  go_wp2_with (fail)
  refine (C12.out).mono ?_
  rintro e w12 ⟨rfl, b12⟩
  have HB12 := Lib.hid (HB1.out.trans ((HB11.out.trans (b12.mono HB11.out.size)).mono HB1.out.size))
  clear C12 b12
  go_wp2
  go_ret
  exact ⟨rfl, HB12.out⟩

/-! ### From the walk to the row -/
set_option maxRecDepth 100000 in
theorem lifted (os : Os) (started : os.Started) (H : Type) (enc : TypeId × Value → H) (F : Stop.Interp) :
    ReturnsInHanded {} Try.checked os 9 .any ((Rows.OpenSpec.upto Rows.queueBothSpec).pre6 enc Try.prog Try.f9 Rows.queueBothUptoRow.domain false) (((Rows.OpenSpec.upto Rows.queueBothSpec).at F).post enc Try.prog Try.f9 false true false false) := by
  refine returnsInHanded_of_cond (C := Try.checked) (s := Rows.OpenSpec.upto Rows.queueBothSpec) (k := Rows.uptoSmall) rfl own started (by kernel_rfl) Try.func9
    (OpenSpec.witness (enc := enc) (C := Try.checked) (s := Rows.OpenSpec.upto Rows.queueBothSpec) (k := Rows.uptoSmall) rfl false ⟨#[], #[.int .i64 0, .slice none 0 0, .slice none 0 0], []⟩ 8 (by kernel_rfl) (by kernel_rfl) (by kernel_rfl)
      (x := ([.lit (.int .i64 0), .nil, .nil], [], [])) (by kernel_rfl) rfl (by kernel_rfl)) ?_
  intro W base args ds gs before hval0 hW hcnd hsmall _
  have hval : ∀ (j : Nat) t v, Try.f9.params[j]? = some t → args[j]? = some v → Value.okWide Try.prog W .any base t v := hval0
  have hW' := hW
  obtain ⟨p, q, hA0, hV, rfl, hfz, hnd⟩ := hW
  have hA : DataW.TrodAll enc Try.prog W 0 (fun _ => true) true Try.f9.params.toList args.toList ds p := hA0
  rw [Try.params9] at hA hval
  obtain ⟨v0, vs0, d0, ds0, p0, q0, hargs, rfl, rfl, h0, r0⟩ := trodAll_cons hA
  obtain ⟨v1, vs1, d1, ds1, p1, q1, rfl, rfl, rfl, h1, r1⟩ := trodAll_cons r0
  obtain ⟨v2, vs2, d2, ds2, p2, q2, rfl, rfl, rfl, h2, r2⟩ := trodAll_cons r1
  obtain ⟨rfl, rfl, rfl⟩ := trodAll_nil r2
  obtain rfl : args = #[v0, v1, v2] := by cases args; simp_all
  obtain ⟨rfl, rfl⟩ := trodVars_none hV
  obtain ⟨a0, rfl, rfl, rfl, w0⟩ := open_int Try.underlying3 (hval 0 3 v0 rfl rfl) h0
  obtain ⟨a1, len1, cap1, rfl⟩ := okWide_slice Try.underlying27 (hval 1 27 v1 rfl rfl)
  have k1 := h1
  have lt1 : ∀ x ∈ p1, x.block < W.heap.size := by obtain ⟨m, hm⟩ := k1; exact DataW.trod_lt m _ _ _ hm
  have bulk1 : len1 ≤ Rows.uptoBulk d1 := by
    obtain ⟨fuel, hf⟩ := h1
    exact bulk_slice Try.underlying27 hf
  obtain ⟨l1, len_1, hb1⟩ : ∃ l : List Int, l.length = len1 ∧ Lv iK W W.heap.size (.slice a1 len1 cap1) l := by
    obtain ⟨fuel, hf⟩ := h1
    rcases open_ints Try.underlying27 Try.underlying3 (by kernel_rfl) hf with ⟨hcs, _⟩ | ⟨x, l, c, zs, hcs, _, hl, hm, hz, _, hcell, hwz⟩
    · simp [Value.cells] at hcs
      obtain ⟨rfl, rfl, rfl⟩ := hcs
      exact ints_in (.inl ⟨rfl, rfl, rfl⟩)
    · simp [Value.cells] at hcs
      obtain ⟨rfl, rfl, rfl⟩ := hcs
      exact ints_in (.inr ⟨x, zs, rfl, hl, hm, by simpa using hz, hcell, hwz⟩)
  obtain ⟨a2, len2, cap2, rfl⟩ := okWide_slice Try.underlying27 (hval 2 27 v2 rfl rfl)
  have k2 := h2
  have lt2 : ∀ x ∈ p2, x.block < W.heap.size := by obtain ⟨m, hm⟩ := k2; exact DataW.trod_lt m _ _ _ hm
  have bulk2 : len2 ≤ Rows.uptoBulk d2 := by
    obtain ⟨fuel, hf⟩ := h2
    exact bulk_slice Try.underlying27 hf
  obtain ⟨l2, len_2, hb2⟩ : ∃ l : List Int, l.length = len2 ∧ Lv iK W W.heap.size (.slice a2 len2 cap2) l := by
    obtain ⟨fuel, hf⟩ := h2
    rcases open_ints Try.underlying27 Try.underlying3 (by kernel_rfl) hf with ⟨hcs, _⟩ | ⟨x, l, c, zs, hcs, _, hl, hm, hz, _, hcell, hwz⟩
    · simp [Value.cells] at hcs
      obtain ⟨rfl, rfl, rfl⟩ := hcs
      exact ints_in (.inl ⟨rfl, rfl, rfl⟩)
    · simp [Value.cells] at hcs
      obtain ⟨rfl, rfl, rfl⟩ := hcs
      exact ints_in (.inr ⟨x, zs, rfl, hl, hm, by simpa using hz, hcell, hwz⟩)
  clear hA0 hval0
  have hsum := bulk_whole hsmall
  simp only [List.append_nil, Rows.uptoBulkAll] at hsum
  have hsum2 : l1.length + l2.length ≤ 1048576 := by omega
  refine (walk W a0 w0 (.slice a1 len1 cap1) l1 hb1 (.slice a2 len2 cap2) l2 hb2 hsum2).mono fun e W' ⟨he, bel⟩ => ?_
  subst he
  exact ⟨_, rfl, _, _, _, [], _, [], hW', trodAll_mk1 (shut_bool Try.underlying4 _), (trodAll_cons_mk (shut_int Try.underlying3 w0) (trodAll_cons_mk (Below.trod laidOut (by kernel_rfl) (of_decide_eq_true (by kernel_rfl)) k1 bel lt1) (trodAll_cons_mk (Below.trod laidOut (by kernel_rfl) (of_decide_eq_true (by kernel_rfl)) k2 bel lt2) trodAll_mk0))), rfl, bel.frame _, fun h => by cases h⟩

theorem proved : Rows.QueueBothUptoSaid :=
  OpenClaim.holds_of_cond 9 Try.f9 rfl rfl rfl rfl rfl rfl rfl ⟨rfl, rfl, rfl, rfl, rfl⟩ rfl rfl rfl rfl rfl (by kernel_rfl) Try.func9 (by kernel_rfl)
    (of_decide_eq_true (by kernel_rfl)) (by unfold Func.isWrapper; first | (rw [if_pos (by decide +kernel)]; kernel_rfl) | (rw [if_neg (by decide +kernel)]; exact ⟨rfl, rfl⟩))
    (fun os started H enc _ F => lifted os started H enc F)

end Go.Proofs.Ytiogmgpkaiicpaa.queueBoth
