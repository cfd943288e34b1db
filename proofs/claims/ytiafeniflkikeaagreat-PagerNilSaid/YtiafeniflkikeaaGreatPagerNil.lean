/-
  PagerNil: of no disk, and of no pager, all is refused, or nothing. No condition.
-/
import Derived.Test.YtiafeniflkikeaaGreatPn10
import Derived.Test.YtiafeniflkikeaaGreatPn44
import Derived.Test.YtiafeniflkikeaaGreatPn38
import Derived.Test.YtiafeniflkikeaaGreatPn39
import Derived.Deep.WholeRow
namespace Go.Proofs.YtiafeniflkikeaaGreat.pagerNil
open Go.ChangeShapes Go.WideShapes Go.ChangeAt Go.RowKit
set_option linter.unusedVariables false
set_option maxHeartbeats 4000000 in
set_option maxRecDepth 100000 in
theorem walk (w : World) (a0 : Int) (u0 : (Lit.int .i64 a0).wf = true) (a1 : Int) (u1 : (Lit.int .i64 a1).wf = true) (r2 : Rt.Root) (f2 : Rt.Fit r2) (a3 : Bool) :
  Calls Tryz.prog 5 #[.int .i64 a0, .int .i64 a1, .agg (rtC r2), .bool a3] w (IsBool true w) := by
 clear u0 u1 f2
 have hz7 := (zero_of_info (n := 7) rt_zero).1
 obtain ⟨C, hC⟩ : ∃ C, rtC r2 = C := ⟨_, rfl⟩
 have HSC : Hid ((Tryz.prog.info? 34).map (·.size) = some C.size) := by unfold Hid; rw [← hC]; exact rt_size
 rw [hC]
 clear hC
 obtain ⟨W0, hW0⟩ : ∃ W, w.alloc (.cells C 34) = W := ⟨_, rfl⟩
 have hb0 : Below w.heap.size w W0 := by rw [← hW0]; exact (Below.refl _ _).alloc (Nat.le_refl _) _
 have hr0 : Rw W0 w.heap.size 34 C := by rw [← hW0]; exact Rw.new w _ _
 have HEQ := Lib.hid (fun w' => rt_equalIn Rt.zero Rt.zero w')
 rw [show rtC Rt.zero = none7 from rfl] at HEQ
 have HN7 : Hid (none7 = none7) := rfl
 have HSZ7 : Hid (none7.size = 7) := rfl
 obtain ⟨N, hN⟩ : ∃ N, none7 = N := ⟨_, rfl⟩
 rw [hN] at hz7 HEQ HSZ7
 have HNN := Lib.hid hN
 clear hN HN7
 cases a3
 ·have HB := Lib.hid hb0
  have HR := Lib.hid hr0
  have HF : Hid (∀ w' : World, NoDisk w' (.pointer none)) := fun _ => .inl rfl
  have HP : Hid (∀ w', Below W0.heap.size W0 w' → NoPager w' (.pointer none)) := fun _ _ => .inl rfl
  have HFB : Hid (Below W0.heap.size W0 W0) := Below.refl _ _
  obtain ⟨W, hW⟩ : ∃ W, W0 = W := ⟨_, rfl⟩
  rw [hW] at HB HR HP HFB
  rw [hW] at hW0
  clear hb0 hr0 hW
  go_enter Tryz.func5, Tryz.ntmps5
  have CC := Lib.hid (pyopen_no (HF.out W) (.string ⟨#[105]⟩) (.int .i64 a1))
  go_wp2_with fail
  refine CC.out.mono ?_
  rintro e1 w1 ⟨rfl, rfl⟩
  clear CC
  have CC := Lib.hid (pyread_no (HP.out W HFB.out) (.int .i64 a0))
  go_wp2_with fail
  refine CC.out.mono ?_
  rintro e1 w1 ⟨rfl, rfl⟩
  clear CC
  have CC := Lib.hid (pyadd_no (HP.out W HFB.out) (.int .u8 1) (.slice none 0 0))
  go_wp2_with fail
  refine CC.out.mono ?_
  rintro e1 w1 ⟨rfl, rfl⟩
  clear CC
  have CC := Lib.hid (pyback_no (HP.out W HFB.out))
  go_wp2_with fail
  refine CC.out.mono ?_
  rintro e1 w1 ⟨⟨x, rfl⟩, rfl⟩
  clear CC
  have CC := Lib.hid (pymake_no (HF.out W) (.string ⟨#[105]⟩))
  go_wp2_with fail
  refine CC.out.mono ?_
  rintro e1 w1 ⟨rfl, rfl⟩
  clear CC
  have CC := Lib.hid (pyuse_no (HP.out W HFB.out) (.int .i64 a0))
  go_wp2_with fail
  refine CC.out.mono ?_
  rintro e1 w1 ⟨rfl, rfl⟩
  clear CC
  have CC := Lib.hid (pydrop_no (HP.out W HFB.out) (.int .i64 a0))
  go_wp2_with fail
  refine CC.out.mono ?_
  rintro e1 w1 ⟨rfl, rfl⟩
  clear CC
  have CC := Lib.hid (pycommit_no (HP.out W HFB.out) C)
  go_wp2_with (first
   | ((with_reducible refine gate_loadG 34 ?_); refine wpList_load_row_onT (by rfl) _ _ rfl w.heap.size rfl 34 C (0, 0) _ HR.out Tryz.underlying34 rfl HSC.out ?_))
  refine CC.out.mono ?_
  rintro e1 w1 ⟨rfl, hbc⟩
  clear CC
  have HB1 := Lib.hid (HB.out.trans (hbc.mono HB.out.size))
  have CC := Lib.hid (pyroot_no (HP.out w1 hbc))
  rw [HNN.out] at CC
  have HBC := Lib.hid hbc
  clear hbc
  go_wp2_with fail
  refine CC.out.mono ?_
  rintro e1 w2 ⟨rfl, hbr⟩
  clear CC
  have HB2 := Lib.hid (HB1.out.trans (hbr.mono HB1.out.size))
  have HP2 := Lib.hid (HP.out w2 (HBC.out.trans (hbr.mono HBC.out.size)))
  clear hbr
  have heq : ∀ w, (Op.equalIn 10000 34 (.agg N) (.agg N)).run Tryz.prog w = .ok true w := fun w => (HEQ.out w).trans (by simp)
  have CC := Lib.hid (pypending_no HP2.out)
  go_wp2_with fail
  refine CC.out.mono ?_
  rintro e1 w1 ⟨rfl, rfl⟩
  clear CC
  have CC := Lib.hid (pyinuse_no HP2.out)
  go_wp2_with fail
  refine CC.out.mono ?_
  rintro e1 w1 ⟨rfl, rfl⟩
  clear CC
  have CC := Lib.hid (pycached_no HP2.out)
  go_wp2_with fail
  refine CC.out.mono ?_
  rintro e1 w1 ⟨rfl, rfl⟩
  clear CC
  have CC := Lib.hid (plives_any w2)
  go_wp2_with fail
  refine CC.out.mono ?_
  rintro e1 w3 ⟨rfl, hb3⟩
  clear CC
  have HB3 := Lib.hid (HB2.out.trans (hb3.mono HB2.out.size))
  clear hb3
  go_wp2
  go_ret
  exact ⟨rfl, HB3.out⟩
 ·have hb1 : Below W0.heap.size W0 (W0.alloc (.cells #[.int .i64 0, .map none, .int .i64 0, .map none, .slice none 0 0, .map none, .int .i64 0, .int .i64 0, .bool false] 71)) := (Below.refl _ _).alloc (Nat.le_refl _) _
  have hr1 : Rw (W0.alloc (.cells #[.int .i64 0, .map none, .int .i64 0, .map none, .slice none 0 0, .map none, .int .i64 0, .int .i64 0, .bool false] 71)) W0.heap.size 71 #[.int .i64 0, .map none, .int .i64 0, .map none, .slice none 0 0, .map none, .int .i64 0, .int .i64 0, .bool false] := Rw.new W0 _ _
  obtain ⟨W1, hW1⟩ : ∃ W, W0.alloc (.cells #[.int .i64 0, .map none, .int .i64 0, .map none, .slice none 0 0, .map none, .int .i64 0, .int .i64 0, .bool false] 71) = W := ⟨_, rfl⟩
  have hs1 : W1.heap.size = W0.heap.size + 1 := by rw [← hW1]; simp
  rw [hW1] at hb1 hr1
  have hb2 : Below W1.heap.size W1 (W1.alloc (.cells #[.pointer none, .string { data := #[] }, .int .u64 0, .int .i64 0, .int .i64 0, .int .u64 0, .int .u64 0, .int .i64 0, .int .i64 0, .map none, .map none, .map none, .int .i64 0, .map none, .int .i64 0, .int .i64 0] 79)) := (Below.refl _ _).alloc (Nat.le_refl _) _
  have hr2 : Rw (W1.alloc (.cells #[.pointer none, .string { data := #[] }, .int .u64 0, .int .i64 0, .int .i64 0, .int .u64 0, .int .u64 0, .int .i64 0, .int .i64 0, .map none, .map none, .map none, .int .i64 0, .map none, .int .i64 0, .int .i64 0] 79)) W1.heap.size 79 #[.pointer none, .string { data := #[] }, .int .u64 0, .int .i64 0, .int .i64 0, .int .u64 0, .int .u64 0, .int .i64 0, .int .i64 0, .map none, .map none, .map none, .int .i64 0, .map none, .int .i64 0, .int .i64 0] := Rw.new W1 _ _
  obtain ⟨W, hW⟩ : ∃ W, W1.alloc (.cells #[.pointer none, .string { data := #[] }, .int .u64 0, .int .i64 0, .int .i64 0, .int .u64 0, .int .u64 0, .int .i64 0, .int .i64 0, .map none, .map none, .map none, .int .i64 0, .map none, .int .i64 0, .int .i64 0] 79) = W := ⟨_, rfl⟩
  have hs2 : W.heap.size = W1.heap.size + 1 := by rw [← hW]; simp
  rw [hW] at hb2 hr2
  have HB : Hid (Below w.heap.size w W) := (hb0.trans (hb1.mono hb0.size)).trans (hb2.mono (by have := hb0.size; omega))
  have HR : Hid (Rw W w.heap.size 34 C) := ((hr0.below hb1 (by have := hr0.lt; omega)).below hb2 (by have := hr0.lt; omega))
  have hn1 : NoDisk W (.pointer (some ⟨W0.heap.size, 0, none⟩)) := .inr ⟨_, rfl, ((hr1.below hb2 (by omega)).cell 1).trans rfl⟩
  have HF : Hid (∀ w', Below W.heap.size W w' → NoDisk w' (.pointer (some ⟨W0.heap.size, 0, none⟩))) := fun w' hb => hn1.below hb (fun b e => by
   injection e with e
   injection e with e
   injection e with e1
   omega)
  have hp1 : NoPager W (.pointer (some ⟨W1.heap.size, 0, none⟩)) := .inr ⟨_, rfl, (hr2.cell 0).trans rfl, by omega⟩
  have HP : Hid (∀ w', Below W.heap.size W w' → NoPager w' (.pointer (some ⟨W1.heap.size, 0, none⟩))) := fun w' hb => hp1.below hb
  have HFB : Hid (Below W.heap.size W W) := Below.refl _ _
  clear hb0 hr0 hb1 hr1 hs1 hb2 hr2 hs2 hn1 hp1
  go_enter Tryz.func5, Tryz.ntmps5
  have CC := Lib.hid (pyopen_no (HF.out _ (Below.refl _ _)) (.string ⟨#[105]⟩) (.int .i64 a1))
  go_wp2_with fail
  refine CC.out.mono ?_
  rintro e1 w1 ⟨rfl, rfl⟩
  clear CC
  have CC := Lib.hid (pyread_no (HP.out W HFB.out) (.int .i64 a0))
  go_wp2_with fail
  refine CC.out.mono ?_
  rintro e1 w1 ⟨rfl, rfl⟩
  clear CC
  have CC := Lib.hid (pyadd_no (HP.out W HFB.out) (.int .u8 1) (.slice none 0 0))
  go_wp2_with fail
  refine CC.out.mono ?_
  rintro e1 w1 ⟨rfl, rfl⟩
  clear CC
  have CC := Lib.hid (pyback_no (HP.out W HFB.out))
  go_wp2_with fail
  refine CC.out.mono ?_
  rintro e1 w1 ⟨⟨x, rfl⟩, rfl⟩
  clear CC
  have CC := Lib.hid (pymake_no (HF.out _ (Below.refl _ _)) (.string ⟨#[105]⟩))
  go_wp2_with fail
  refine CC.out.mono ?_
  rintro e1 w1 ⟨rfl, rfl⟩
  clear CC
  have CC := Lib.hid (pyuse_no (HP.out W HFB.out) (.int .i64 a0))
  go_wp2_with fail
  refine CC.out.mono ?_
  rintro e1 w1 ⟨rfl, rfl⟩
  clear CC
  have CC := Lib.hid (pydrop_no (HP.out W HFB.out) (.int .i64 a0))
  go_wp2_with fail
  refine CC.out.mono ?_
  rintro e1 w1 ⟨rfl, rfl⟩
  clear CC
  have CC := Lib.hid (pycommit_no (HP.out W HFB.out) C)
  go_wp2_with (first
   | ((with_reducible refine gate_loadG 34 ?_); refine wpList_load_row_onT (by rfl) _ _ rfl w.heap.size rfl 34 C (0, 0) _ HR.out Tryz.underlying34 rfl HSC.out ?_))
  refine CC.out.mono ?_
  rintro e1 w1 ⟨rfl, hbc⟩
  clear CC
  have HB1 := Lib.hid (HB.out.trans (hbc.mono HB.out.size))
  have CC := Lib.hid (pyroot_no (HP.out w1 hbc))
  rw [HNN.out] at CC
  have HBC := Lib.hid hbc
  clear hbc
  go_wp2_with fail
  refine CC.out.mono ?_
  rintro e1 w2 ⟨rfl, hbr⟩
  clear CC
  have HB2 := Lib.hid (HB1.out.trans (hbr.mono HB1.out.size))
  have HP2 := Lib.hid (HP.out w2 (HBC.out.trans (hbr.mono HBC.out.size)))
  clear hbr
  have heq : ∀ w, (Op.equalIn 10000 34 (.agg N) (.agg N)).run Tryz.prog w = .ok true w := fun w => (HEQ.out w).trans (by simp)
  have CC := Lib.hid (pypending_no HP2.out)
  go_wp2_with fail
  refine CC.out.mono ?_
  rintro e1 w1 ⟨rfl, rfl⟩
  clear CC
  have CC := Lib.hid (pyinuse_no HP2.out)
  go_wp2_with fail
  refine CC.out.mono ?_
  rintro e1 w1 ⟨rfl, rfl⟩
  clear CC
  have CC := Lib.hid (pycached_no HP2.out)
  go_wp2_with fail
  refine CC.out.mono ?_
  rintro e1 w1 ⟨rfl, rfl⟩
  clear CC
  have CC := Lib.hid (plives_any w2)
  go_wp2_with fail
  refine CC.out.mono ?_
  rintro e1 w3 ⟨rfl, hb3⟩
  clear CC
  have HB3 := Lib.hid (HB2.out.trans (hb3.mono HB2.out.size))
  clear hb3
  go_wp2
  go_ret
  exact ⟨rfl, HB3.out⟩
set_option maxRecDepth 100000 in
theorem lifted (os : Os) (started : os.Started) (H : Type) (enc : TypeId × Value → H) :
  ReturnsInHanded {} Tryz.checked os 5 .any (Rows.pagerNilSpec.pre6 enc Tryz.prog Tryz.f5 Rows.pagerNilRow.domain false) (Rows.pagerNilSpec.post enc Tryz.prog Tryz.f5 false true false false) := by
 refine returnsInHanded_of_change (C := Tryz.checked) own started (by kernel_rfl) Tryz.func5
  (ChangeSpec.witness6 (enc := enc) (C := Tryz.checked) false ⟨#[], #[.int .i64 0, .int .i64 0, .agg #[.int .u64 0, .int .i64 0, .int .i64 0, .int .u64 0, .int .u64 0, .int .i64 0, .int .i64 0], .bool false], []⟩ 8 (by kernel_rfl) (by kernel_rfl) (by kernel_rfl) (by kernel_rfl)) ?_
 intro W base args ds gs before hval0 hW hcnd _
 have hval : ∀ (j : Nat) t v, Tryz.f5.params[j]? = some t → args[j]? = some v → Value.okWide Tryz.prog W .any base t v := hval0
 have hW' := hW
 obtain ⟨p, q, hA0, hV, rfl, hfz, hnd⟩ := hW
 have hA : DataW.TrodAll enc Tryz.prog W 0 (fun _ => true) true Tryz.f5.params.toList args.toList ds p := hA0
 rw [Tryz.params5] at hA hval
 obtain ⟨v0, vs0, d0, ds0, p0, q0, hargs, rfl, rfl, h0, r0⟩ := trodAll_cons hA
 obtain ⟨v1, vs1, d1, ds1, p1, q1, rfl, rfl, rfl, h1, r1⟩ := trodAll_cons r0
 obtain ⟨v2, vs2, d2, ds2, p2, q2, rfl, rfl, rfl, h2, r2⟩ := trodAll_cons r1
 obtain ⟨v3, vs3, d3, ds3, p3, q3, rfl, rfl, rfl, h3, r3⟩ := trodAll_cons r2
 obtain ⟨rfl, rfl, rfl⟩ := trodAll_nil r3
 obtain rfl : args = #[v0, v1, v2, v3] := by cases args; simp_all
 obtain ⟨rfl, rfl⟩ := trodVars_none hV
 obtain ⟨a0, rfl, rfl, rfl, w0⟩ := open_int Tryz.underlying3 (hval 0 3 v0 rfl rfl) h0
 obtain ⟨a1, rfl, rfl, rfl, w1⟩ := open_int Tryz.underlying3 (hval 1 3 v1 rfl rfl) h1
 have k2 := h2
 have lt2 : ∀ x ∈ p2, x.block < W.heap.size := by obtain ⟨m, hm⟩ := k2; exact DataW.trod_lt m _ _ _ hm
 obtain ⟨rt2, rfl, f2⟩ := rt_in (hval 2 34 v2 rfl rfl) h2
 obtain ⟨a3, rfl, rfl, rfl⟩ := open_bool Tryz.underlying4 (hval 3 4 v3 rfl rfl) h3
 clear hA0 hval0
 refine (walk W a0 w0 a1 w1 rt2 f2 a3).mono fun e W' ⟨he, bel⟩ => ?_
 subst he
 exact ⟨_, rfl, _, _, _, [], _, [], hW', trodAll_mk1 (shut_bool Tryz.underlying4 _), (trodAll_cons_mk (shut_int Tryz.underlying3 w0) (trodAll_cons_mk (shut_int Tryz.underlying3 w1) (trodAll_cons_mk (Below.trod laidOut (by kernel_rfl) (of_decide_eq_true (by kernel_rfl)) k2 bel lt2) (trodAll_cons_mk (shut_bool Tryz.underlying4 a3) trodAll_mk0)))), rfl, bel.frame _, fun h => by cases h⟩
theorem proved : Rows.PagerNilSaid :=
 OpenClaim.holds_of_wide 5 Tryz.f5 rfl rfl rfl rfl rfl rfl rfl ⟨rfl, rfl, rfl, rfl, rfl⟩ rfl rfl rfl rfl rfl (by kernel_rfl) Tryz.func5 (by kernel_rfl)
  (of_decide_eq_true (by kernel_rfl)) (by unfold Func.isWrapper; first | (rw [if_pos (by decide +kernel)]; kernel_rfl) | (rw [if_neg (by decide +kernel)]; exact ⟨rfl, rfl⟩))
  (fun os started H enc _ => lifted os started H enc)
end Go.Proofs.YtiafeniflkikeaaGreat.pagerNil
