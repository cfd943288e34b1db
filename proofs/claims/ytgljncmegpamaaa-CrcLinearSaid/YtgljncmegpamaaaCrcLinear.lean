/-
  CrcLinear: three rows of bytes of one length, put against one another, have as their sum the three sums put against one another. No condition.
-/
import Derived.Test.YtgljncmegpamaaaCFrame
import Derived.Test.YtgljncmegpamaaaCWorks
import Derived.Test.YtgljncmegpamaaaCMathB
import Derived.Test.YtgljncmegpamaaaAppS
import Derived.Test.YtgljncmegpamaaaSet
import Derived.Test.YtgljncmegpamaaaSlice
import Derived.SizedLaws
import Derived.Deep.RegionHeld3
namespace Go.Proofs.Ytgljncmegpamaaa.crcLinear
open Go.ChangeShapes Go.WideShapes Go.ChangeAt Go.RowKit
open Go.ChangeMaps (open_string shut_string)
set_option linter.unusedVariables false

theorem least3 (a b c : Nat) : ∃ m : Nat, (if (c : Int) < (if (b : Int) < (a : Int) then (b : Int) else (a : Int)) then (c : Int) else (if (b : Int) < (a : Int) then (b : Int) else (a : Int))) = (m : Int) ∧ m ≤ a ∧ m ≤ b ∧ m ≤ c := by
  refine ⟨min (min a b) c, ?_, by omega, by omega, by omega⟩
  repeat' split
  all_goals omega

set_option maxHeartbeats 2000000 in
set_option maxRecDepth 100000 in
theorem walk (w : World) (v0 : Value) (l0 : List Nat) (h0 : Bv w w.heap.size v0 l0) (v1 : Value) (l1 : List Nat) (h1 : Bv w w.heap.size v1 l1) (v2 : Value) (l2 : List Nat) (h2 : Bv w w.heap.size v2 l2)
    (r0 : l0.length * 1 ≤ 140737488351232) (r1 : l1.length * 1 ≤ 140737488351232) (r2 : l2.length * 1 ≤ 140737488351232) :
    Calls Try.prog 9 #[v0, v1, v2] w (IsBool true w) := by
  have H0 := Lib.hid h0
  have H1 := Lib.hid h1
  have H2 := Lib.hid h2
  obtain ⟨A0, c0, rfl, g0, _, _, k0⟩ := h0
  obtain ⟨A1, c1, rfl, g1, _, _, k1⟩ := h1
  obtain ⟨A2, c2, rfl, g2, _, _, k2⟩ := h2
  obtain ⟨m, hm, m0, m1, m2⟩ := least3 l0.length l1.length l2.length
  have hmin : (Builtin.min_ #[3, 3, 3] 3 #[.int .i64 (l0.length : Nat), .int .i64 (l1.length : Nat), .int .i64 (l2.length : Nat)]).run Try.prog w = .ok (.int .i64 (m : Nat)) w := by
    rw [run_min_int3, hm]
  clear hm
  have hnil := Lib.hid (OwnB.nil_ w w.heap.size)
  have HL0 := Lib.hid H0.out.lt_
  have HB0 := Lib.hid k0
  have HB1 := Lib.hid k1
  have HB2 := Lib.hid k2
  clear k0 k1 k2
  go_enter Try.func9, Try.ntmps9
  go_wp2
  clear hmin
  go_loopw [8, 9] (fun v i wr => ∃ k : Nat, k ≤ m ∧ i = .int .i64 k ∧ Hid (OwnB wr w.heap.size v (Cr.tri l0 l1 l2 k)) ∧ Below w.heap.size w wr) (fun _ i _ => m - (intOf i).toNat)
  case atStart => exact ⟨0, by omega, rfl, by rw [Cr.tri_zero]; exact hnil.out, Below.refl _ _⟩
  case round =>
    obtain ⟨k, hk, rfl, HO, hbr⟩ := hrel
    clear hnil
    have hbase := hbr.size
    by_cases hlt : k < m
    · obtain ⟨b0, o0, x, rfl, hb0, hx, hd0, hc0⟩ := HB0.out.at_ (k := k) (by omega)
      obtain ⟨b1, o1, y, rfl, hb1, hy, hd1, hc1⟩ := HB1.out.at_ (k := k) (by omega)
      obtain ⟨b2, o2, z, rfl, hb2, hz, hd2, hc2⟩ := HB2.out.at_ (k := k) (by omega)
      have hlk := Cr.tri_len (a := l0) (b := l1) (c := l2) (k := k) (by omega) (by omega) (by omega)
      have HT := Lib.hid (Cr.tri_succ hd0 hd1 hd2)
      have e1 := xor_u8_nat x y hx hy
      have hxy := Cr.xor_byte_lt hx hy
      have e2 := xor_u8_nat (x ^^^ y) z hxy hz
      have hxyz := Cr.xor_byte_lt hxy hz
      obtain ⟨p, hp⟩ : ∃ p, x ^^^ y = p := ⟨_, rfl⟩
      rw [hp] at e1 e2 hxyz HT
      obtain ⟨q, hq⟩ : ∃ q, p ^^^ z = q := ⟨_, rfl⟩
      rw [hq] at e2 hxyz HT
      obtain ⟨L, hL⟩ : ∃ L, Cr.tri l0 l1 l2 k = L := ⟨_, rfl⟩
      rw [hL] at HO HT hlk
      have hown1 : OwnB (wr.alloc (.cells #[.int .u8 (q : Int)] 5)).drew w.heap.size _ L := HO.out.alloc_ (.cells #[.int .u8 (q : Int)] 5)
      have hsrc : Bv (wr.alloc (.cells #[.int .u8 (q : Int)] 5)).drew (wr.heap.size + 1) (.slice (some ⟨wr.heap.size, 0, none⟩) 1 1) [q] := Bv.one_ wr (x := (q : Int)) (c := q) rfl hxyz
      have hbel1 := (hbr.alloc hbase (.cells #[.int .u8 (q : Int)] 5)).drew
      have HC := Lib.hid (fun (w' : World) (h : Below w.heap.size w w') => (⟨(h.cell (p := ⟨b0, o0 + k, none⟩) hb0).trans hc0, (h.cell (p := ⟨b1, o1 + k, none⟩) hb1).trans hc1, (h.cell (p := ⟨b2, o2 + k, none⟩) hb2).trans hc2⟩ : w'.cell? ⟨b0, o0 + k, none⟩ = some (.int .u8 (x : Nat)) ∧ w'.cell? ⟨b1, o1 + k, none⟩ = some (.int .u8 (y : Nat)) ∧ w'.cell? ⟨b2, o2 + k, none⟩ = some (.int .u8 (z : Nat))))
      have hs0 := HC.out wr.drew hbr.drew
      have hs1 := HC.out _ hbel1
      have HO1 := Lib.hid hown1
      have HS1 := Lib.hid hsrc
      have HB1x := Lib.hid hbel1
      have hsz : L.length + [q].length ≤ 140737488355328 := by rw [hlk]; simp; omega
      have hbs : w.heap.size ≤ (wr.alloc (.cells #[.int .u8 (q : Int)] 5)).drew.heap.size := by simp [World.drew]; omega
      have i0 : (k : Int) < (l0.length : Nat) := by omega
      have i1 : (k : Int) < (l1.length : Nat) := by omega
      have i2 : (k : Int) < (l2.length : Nat) := by omega
      clear hown1 hsrc hbel1 hc0 hc1 hc2 hb0 hb1 hb2 hd0 hd1 hd2 hxy hp hq hL HO HB0 HB1 HB2
      go_wp2
      go_region_held3 (fun w' => w'.cell? ⟨b0, o0 + k, none⟩ = some (.int .u8 (x : Nat)) ∧ w'.cell? ⟨b1, o1 + k, none⟩ = some (.int .u8 (y : Nat)) ∧ w'.cell? ⟨b2, o2 + k, none⟩ = some (.int .u8 (z : Nat)))
        (first | exact hs0 | exact hs1 | exact hs2)
        (first | (refine step_append_bytes _ rfl _ _ rfl rfl w.heap.size _ rfl L HO1.out _ rfl _ [q] HS1.out hsz hbs ?_; intro A' c' w' hA; have HB := Lib.hid (HB1x.out.grown hA.grown hbs (fun j hj => (HO1.out.lt_ j hj).1)); have hs2 := HC.out w' HB.out; have HA := Lib.hid hA.own; clear hA))
      have e1 : (L ++ [q]).length = k + 1 := by simp [hlk]
      go_wp2
      go_roundw
      case rel => exact ⟨k + 1, by omega, by go_num, (by rw [e1] at HA; rw [HT.out]; exact HA.out), HB.out⟩
      case measure => simp [intOf]; omega
    · have h0 : k = m := by omega
      subst h0
      have t0 := (H0.out.below_ hbr (Nat.le_refl _)).take_ m0
      have t1 := (H1.out.below_ hbr (Nat.le_refl _)).take_ m1
      have t2 := (H2.out.below_ hbr (Nat.le_refl _)).take_ m2
      have hof := Cr.of_tri m0 m1 m2
      have hown : OwnB wr.drew w.heap.size _ _ := HO.out
      obtain ⟨Av, cv, hv, _⟩ := hown.form_
      have hlk := Cr.tri_len m0 m1 m2
      rw [hlk] at hv
      subst hv
      have HC := Lib.hid (of_any _ _ _ wr.drew hown.form_)
      have HC0 := Lib.hid (of_any _ _ _ wr.drew (show Bv wr.drew _ _ _ from t0))
      have HC1 := Lib.hid (of_any _ _ _ wr.drew (show Bv wr.drew _ _ _ from t1))
      have HC2 := Lib.hid (of_any _ _ _ wr.drew (show Bv wr.drew _ _ _ from t2))
      have HW := Lib.hid (works_any wr.drew)
      have HB := Lib.hid hbr.drew
      have u0 := Cr.of_b32 t0.lt_
      have u1 := Cr.of_b32 t1.lt_
      have u2 := Cr.of_b32 t2.lt_
      obtain ⟨t, ht⟩ : ∃ t, Cr.of (Cr.tri l0 l1 l2 k) = t := ⟨_, rfl⟩
      obtain ⟨s0, hs0⟩ : ∃ t, Cr.of (l0.take k) = t := ⟨_, rfl⟩
      obtain ⟨s1, hs1⟩ : ∃ t, Cr.of (l1.take k) = t := ⟨_, rfl⟩
      obtain ⟨s2, hs2⟩ : ∃ t, Cr.of (l2.take k) = t := ⟨_, rfl⟩
      rw [ht] at HC hof
      rw [hs0] at HC0 hof u0
      rw [hs1] at HC1 hof u1
      rw [hs2] at HC2 hof u2
      have e1 := bits_xor_u32_nat s0 s1 u0 u1
      have e2 := bits_xor_u32_nat (s0 ^^^ s1) s2 (Cr.xor_b32 u0 u1) u2
      obtain ⟨p, hp⟩ : ∃ p, s0 ^^^ s1 = p := ⟨_, rfl⟩
      rw [hp] at e1 e2 hof
      obtain ⟨q, hq⟩ : ∃ q, p ^^^ s2 = q := ⟨_, rfl⟩
      rw [hq] at e2 hof
      subst hof
      have hz : ((t : Int) == (t : Int)) = true := by simp
      have j0 := fun w => slice_to A0 l0.length c0 k (by omega) w
      have j1 := fun w => slice_to A1 l1.length c1 k (by omega) w
      have j2 := fun w => slice_to A2 l2.length c2 k (by omega) w
      have j3 := fun w => sliceAt_to A0 l0.length c0 k (by omega) w
      have j4 := fun w => sliceAt_to A1 l1.length c1 k (by omega) w
      have j5 := fun w => sliceAt_to A2 l2.length c2 k (by omega) w
      clear t0 t1 t2 hown HO ht hs0 hs1 hs2 u0 u1 u2 hp hq HB0 HB1 HB2 H0 H1 H2
      go_wp2
      go_region_held3 (fun _ => True) (trivial) (first
        | (go_at_call 15; (with_reducible refine HC.out.mono ?_); rintro e w' ⟨rfl, rfl⟩)
        | (go_at_call 15; (with_reducible refine HC0.out.mono ?_); rintro e w' ⟨rfl, rfl⟩)
        | (go_at_call 15; (with_reducible refine HC1.out.mono ?_); rintro e w' ⟨rfl, rfl⟩)
        | (go_at_call 15; (with_reducible refine HC2.out.mono ?_); rintro e w' ⟨rfl, rfl⟩)
        | (go_at_call 14; refine HW.out.mono ?_; rintro e w2 ⟨rfl, hb⟩))
      go_wp2
      go_ret
      exact ⟨rfl, HB.out.trans (hb.mono HB.out.size)⟩

/-! ### From the walk to the row -/
set_option maxRecDepth 100000 in
theorem lifted (os : Os) (started : os.Started) (H : Type) (enc : TypeId × Value → H) :
    ReturnsInHanded {} Try.checked os 9 .any (Rows.crcLinearSpec.pre6 enc Try.prog Try.f9 Rows.crcLinearRow.domain false) (Rows.crcLinearSpec.post enc Try.prog Try.f9 false true false false) := by
  refine returnsInHanded_of_change_sized (C := Try.checked) own started (by kernel_rfl) Try.func9
    (ChangeSpec.witness6 (enc := enc) (C := Try.checked) false ⟨#[], #[.slice none 0 0, .slice none 0 0, .slice none 0 0], []⟩ 8 (by kernel_rfl) (by kernel_rfl) (by kernel_rfl) (by kernel_rfl)) ?_
  intro W base args ds gs before hval0 hW hcnd hreach _
  have hval : ∀ (j : Nat) t v, Try.f9.params[j]? = some t → args[j]? = some v → Value.okWide Try.prog W .any base t v := hval0
  have hW' := hW
  obtain ⟨p, q, hA0, hV, rfl, hfz, hnd⟩ := hW
  have hA : DataW.TrodAll enc Try.prog W 0 (fun _ => true) true Try.f9.params.toList args.toList ds p := hA0
  rw [Try.params9] at hA hval
  obtain ⟨v0, vs0, d0, ds0, p0, q0, hargs, rfl, rfl, h0, r0⟩ := trodAll_cons hA
  obtain ⟨v1, vs1, d1, ds1, p1, q1, rfl, rfl, rfl, h1, r1⟩ := trodAll_cons r0
  obtain ⟨v2, vs2, d2, ds2, p2, q2, rfl, rfl, rfl, h2, r2⟩ := trodAll_cons r1
  obtain ⟨rfl, rfl, rfl⟩ := trodAll_nil r2
  obtain rfl : args = #[v0, v1, v2] := by cases args; simp_all
  obtain ⟨rfl, rfl⟩ := trodVars_none hV
  obtain ⟨a0, len0, cap0, rfl⟩ := okWide_slice Try.underlying27 (hval 0 27 v0 rfl rfl)
  have k0 := h0
  have lt0 : ∀ x ∈ p0, x.block < W.heap.size := by obtain ⟨m, hm⟩ := k0; exact DataW.trod_lt m _ _ _ hm
  obtain ⟨l0, len_0, hb0⟩ : ∃ l : List Nat, l.length = len0 ∧ Bv W W.heap.size (.slice a0 len0 cap0) l := by
    obtain ⟨fuel, hf⟩ := h0
    rcases open_ints Try.underlying27 Try.underlying5 (by kernel_rfl) hf with ⟨hcs, _⟩ | ⟨x, l, c, zs, hcs, _, hl, hm, hz, _, hcell, hwz⟩
    · simp [Value.cells] at hcs
      obtain ⟨rfl, rfl, rfl⟩ := hcs
      exact bytes_in (.inl ⟨rfl, rfl, rfl⟩)
    · simp [Value.cells] at hcs
      obtain ⟨rfl, rfl, rfl⟩ := hcs
      exact bytes_in (.inr ⟨x, zs, rfl, hl, hm, by simpa using hz, hcell, hwz⟩)
  obtain ⟨a1, len1, cap1, rfl⟩ := okWide_slice Try.underlying27 (hval 1 27 v1 rfl rfl)
  have k1 := h1
  have lt1 : ∀ x ∈ p1, x.block < W.heap.size := by obtain ⟨m, hm⟩ := k1; exact DataW.trod_lt m _ _ _ hm
  obtain ⟨l1, len_1, hb1⟩ : ∃ l : List Nat, l.length = len1 ∧ Bv W W.heap.size (.slice a1 len1 cap1) l := by
    obtain ⟨fuel, hf⟩ := h1
    rcases open_ints Try.underlying27 Try.underlying5 (by kernel_rfl) hf with ⟨hcs, _⟩ | ⟨x, l, c, zs, hcs, _, hl, hm, hz, _, hcell, hwz⟩
    · simp [Value.cells] at hcs
      obtain ⟨rfl, rfl, rfl⟩ := hcs
      exact bytes_in (.inl ⟨rfl, rfl, rfl⟩)
    · simp [Value.cells] at hcs
      obtain ⟨rfl, rfl, rfl⟩ := hcs
      exact bytes_in (.inr ⟨x, zs, rfl, hl, hm, by simpa using hz, hcell, hwz⟩)
  obtain ⟨a2, len2, cap2, rfl⟩ := okWide_slice Try.underlying27 (hval 2 27 v2 rfl rfl)
  have k2 := h2
  have lt2 : ∀ x ∈ p2, x.block < W.heap.size := by obtain ⟨m, hm⟩ := k2; exact DataW.trod_lt m _ _ _ hm
  obtain ⟨l2, len_2, hb2⟩ : ∃ l : List Nat, l.length = len2 ∧ Bv W W.heap.size (.slice a2 len2 cap2) l := by
    obtain ⟨fuel, hf⟩ := h2
    rcases open_ints Try.underlying27 Try.underlying5 (by kernel_rfl) hf with ⟨hcs, _⟩ | ⟨x, l, c, zs, hcs, _, hl, hm, hz, _, hcell, hwz⟩
    · simp [Value.cells] at hcs
      obtain ⟨rfl, rfl, rfl⟩ := hcs
      exact bytes_in (.inl ⟨rfl, rfl, rfl⟩)
    · simp [Value.cells] at hcs
      obtain ⟨rfl, rfl, rfl⟩ := hcs
      exact bytes_in (.inr ⟨x, zs, rfl, hl, hm, by simpa using hz, hcell, hwz⟩)
  have reach0 : len0 * 1 ≤ 140737488351232 := by
    obtain ⟨fuel, hf⟩ := k0
    rcases open_ints Try.underlying27 Try.underlying5 (by kernel_rfl) hf with ⟨hcs, _⟩ | ⟨x, l, c, zs, hcs, _, hl, hm, hz, hx, hcell, hwz⟩
    · simp [Value.cells] at hcs
      omega
    · simp [Value.cells] at hcs
      obtain ⟨rfl, rfl, rfl⟩ := hcs
      rw [Prod.mk.injEq] at hx
      have hs := sized_slice hreach (j := 0) (t := 27) (e := 5) (elems := lits .u8 (zs.take len0)) (spare := lits .u8 (zs.drop len0)) rfl (by rw [hx.1]; rfl) Try.underlying27
      have hb : Try.prog.bytesOf 5 = 1 := by kernel_rfl
      change _ * Try.prog.bytesOf 5 ≤ _ at hs
      rw [hb] at hs
      simp [lits, reachBytes] at hs hz
      omega
  have reach1 : len1 * 1 ≤ 140737488351232 := by
    obtain ⟨fuel, hf⟩ := k1
    rcases open_ints Try.underlying27 Try.underlying5 (by kernel_rfl) hf with ⟨hcs, _⟩ | ⟨x, l, c, zs, hcs, _, hl, hm, hz, hx, hcell, hwz⟩
    · simp [Value.cells] at hcs
      omega
    · simp [Value.cells] at hcs
      obtain ⟨rfl, rfl, rfl⟩ := hcs
      rw [Prod.mk.injEq] at hx
      have hs := sized_slice hreach (j := 1) (t := 27) (e := 5) (elems := lits .u8 (zs.take len1)) (spare := lits .u8 (zs.drop len1)) rfl (by rw [hx.1]; rfl) Try.underlying27
      have hb : Try.prog.bytesOf 5 = 1 := by kernel_rfl
      change _ * Try.prog.bytesOf 5 ≤ _ at hs
      rw [hb] at hs
      simp [lits, reachBytes] at hs hz
      omega
  have reach2 : len2 * 1 ≤ 140737488351232 := by
    obtain ⟨fuel, hf⟩ := k2
    rcases open_ints Try.underlying27 Try.underlying5 (by kernel_rfl) hf with ⟨hcs, _⟩ | ⟨x, l, c, zs, hcs, _, hl, hm, hz, hx, hcell, hwz⟩
    · simp [Value.cells] at hcs
      omega
    · simp [Value.cells] at hcs
      obtain ⟨rfl, rfl, rfl⟩ := hcs
      rw [Prod.mk.injEq] at hx
      have hs := sized_slice hreach (j := 2) (t := 27) (e := 5) (elems := lits .u8 (zs.take len2)) (spare := lits .u8 (zs.drop len2)) rfl (by rw [hx.1]; rfl) Try.underlying27
      have hb : Try.prog.bytesOf 5 = 1 := by kernel_rfl
      change _ * Try.prog.bytesOf 5 ≤ _ at hs
      rw [hb] at hs
      simp [lits, reachBytes] at hs hz
      omega
  clear hA0 hval0
  refine (walk W (.slice a0 len0 cap0) l0 hb0 (.slice a1 len1 cap1) l1 hb1 (.slice a2 len2 cap2) l2 hb2 (by rw [len_0]; exact reach0) (by rw [len_1]; exact reach1) (by rw [len_2]; exact reach2)).mono fun e W' ⟨he, bel⟩ => ?_
  subst he
  exact ⟨_, rfl, _, _, _, [], _, [], hW', trodAll_mk1 (shut_bool Try.underlying4 _), (trodAll_cons_mk (Below.trod laidOut (by kernel_rfl) (of_decide_eq_true (by kernel_rfl)) k0 bel lt0) (trodAll_cons_mk (Below.trod laidOut (by kernel_rfl) (of_decide_eq_true (by kernel_rfl)) k1 bel lt1) (trodAll_cons_mk (Below.trod laidOut (by kernel_rfl) (of_decide_eq_true (by kernel_rfl)) k2 bel lt2) trodAll_mk0))), rfl, bel.frame _, fun h => by cases h⟩

theorem proved : Rows.CrcLinearSaid :=
  OpenClaim.holds_of_wide 9 Try.f9 rfl rfl rfl rfl rfl rfl rfl ⟨rfl, rfl, rfl, rfl, rfl⟩ rfl rfl rfl rfl rfl (by kernel_rfl) Try.func9 (by kernel_rfl)
    (of_decide_eq_true (by kernel_rfl)) (by unfold Func.isWrapper; first | (rw [if_pos (by decide +kernel)]; kernel_rfl) | (rw [if_neg (by decide +kernel)]; exact ⟨rfl, rfl⟩))
    (fun os started H enc _ => lifted os started H enc)

end Go.Proofs.Ytgljncmegpamaaa.crcLinear
