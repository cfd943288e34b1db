/- Parts of the proof. -/
import Derived.Test.YtiafeniflkikeaaGreatPk15
import Derived.Test.YtiafeniflkikeaaGreatPk38
import Derived.Test.YtiafeniflkikeaaGreatPk32
import Derived.Test.YtiafeniflkikeaaGreatPk28
import Derived.Test.YtiafeniflkikeaaGreatPk26
import Derived.Test.YtiafeniflkikeaaGreatPk39
import Derived.Test.YtiafeniflkikeaaGreatPk10
import Derived.Test.YtiafeniflkikeaaGreatPk11
import Derived.Test.YtiafeniflkikeaaGreatPk14
import Derived.Test.YtiafeniflkikeaaGreatPk13
import Derived.Test.YtiafeniflkikeaaGreatPk25
import Derived.Test.YtiafeniflkikeaaGreatPk19
import Derived.Test.YtiafeniflkikeaaGreatPk23
namespace Go.Proofs.YtiafeniflkikeaaGreat
open Go.RowKit
set_option linter.unusedVariables false
section
variable {w w' : World} {fd : Fp} {bf : Nat} {t : Sf.St}
def IsOpen (t : Sf.St) (name : ByteArray) (cache : Int) (bf : Nat) (w : World) (e : Ending) (w' : World) : Prop :=
 Below w.heap.size w w' ∧ (((Pp.openE t name cache).1 = none ∧ e = .returned (.tuple #[.pointer none, .int .i64 ((Pp.openE t name cache).2 : Nat)])) ∨
  ∃ s b f', (Pp.openE t name cache) = (some s, 0) ∧ e = .returned (.tuple #[.pointer (some ⟨b, 0, none⟩), .int .i64 0]) ∧ PPager w' f' s (Sf.now (Sf.fileAt t (Sf.get t name).1)) b bf ∧ f'.From w.heap.size)
theorem IsOpen.no {name : ByteArray} {cache : Int} {er : Nat} {x : Int} (hb : Below w.heap.size w w') (h : Pp.openE t name cache = (none, er)) (hx : x = (er : Int)) : IsOpen t name cache bf w (.returned (.tuple #[.pointer none, .int .i64 x])) w' := by
 subst hx
 exact ⟨hb, .inl ⟨by rw [h], by rw [h]⟩⟩
theorem Sf.get_err (t : Sf.St) (u : ByteArray) : (Sf.get t u).2 = 0 ∨ (Sf.get t u).2 = 7 ∨ (Sf.get t u).2 = 13 := by
 unfold Sf.get
 split
 ·exact .inr (.inr rfl)
 ·split
  ·exact .inr (.inl rfl)
  ·exact .inl rfl
theorem Pp.cnt_none {β : Type} (m : Nat) : Pp.cnt m (fun _ => (none : Option β)) = 0 := by
 unfold Pp.cnt
 rw [List.countP_eq_zero]
 intro _ _ h
 cases h
theorem Rt.told_may {a b : List Nat} {r : Rt.Root} (h : Rt.pickE a b = (r, 0)) : Rt.May r := by
 unfold Rt.pickE at h
 split at h
 ·cases (Prod.mk.inj h).2
 ·rename_i h1
  split at h
  ·rename_i h2
   exact Rt.getE_may (place := 0) (b := a) (Prod.ext (Prod.mk.inj h).1 h2.1)
  ·rename_i h2
   have h3 : (Rt.getE 1 b).2 = 0 := Decidable.byContradiction fun hn => by
    by_cases h4 : (Rt.getE 0 a).2 = 0
    ·exact h2 ⟨h4, .inl hn⟩
    ·exact h1 ⟨h4, hn⟩
   exact Rt.getE_may (place := 1) (b := b) (Prod.ext (Prod.mk.inj h).1 h3)
theorem Rt.pick_err (a b : List Nat) : (Rt.pickE a b).2 = 0 ∨ (Rt.pickE a b).2 = 7 := by
 unfold Rt.pickE
 split
 ·exact .inr rfl
 ·split <;> exact .inl rfl
set_option maxHeartbeats 4000000 in
set_option maxRecDepth 100000 in
theorem ppopen_any (name : ByteArray) (cache : Int) (hD : PDisk w fd t bf) (hn : name.size ≤ 4096) (hc : I64 cache) :
 Calls Tryz.prog 7 #[.pointer (some ⟨bf, 0, none⟩), .string name, .int .i64 cache] w (IsOpen t name cache bf w) := by
 have hnm : name.size ≤ maxLen := by simp only [maxLen]; omega
 have CS := Lib.hid (psizeOf_any hD name hnm)
 have HD := Lib.hid hD
 have HGE := Lib.hid (Sf.get_err t name)
 obtain ⟨k, er, hg⟩ : ∃ k er, Sf.get t name = (k, er) := ⟨_, _, rfl⟩
 have HSZ : Hid (Sf.size t name = (if er ≠ 0 then (0, er) else (Sf.len t k, 0))) := by unfold Hid Sf.size; rw [hg]
 have HRD : Hid (Sf.read t name 0 1024 = (if er ≠ 0 then ([], er) else ((Sf.now (Sf.fileAt t k)).take 1024, 0))) := by
  unfold Hid Sf.read; rw [hg]
  by_cases h : er = 0
  ·subst h
   simp only [ne_eq, not_true_eq_false, if_false]
   rw [if_neg (by omega)]
   rfl
  ·simp only [ne_eq, h, not_false_eq_true, if_true]
 obtain ⟨sz, es, hse⟩ : ∃ sz es, Sf.size t name = (sz, es) := ⟨_, _, rfl⟩
 have hes : es ≠ 1 := by
  have h1 := HSZ.out
  rw [hse] at h1
  have h2 := HGE.out
  rw [hg] at h2
  simp only at h2
  split at h1
  ·have := (Prod.mk.inj h1).2; omega
  ·have := (Prod.mk.inj h1).2; omega
 rw [hse] at CS
 have he1 : ((es : Int) == 1) = false := by rw [beq_eq_false_iff_ne]; omega
 have HG := Lib.hid hg
 clear hD hse hg
 by_cases hca : cache < 0 ∨ 256 < cache
 ·have HO : Hid (Pp.openE t name cache = (none, 2)) := if_pos hca
  by_cases h0 : cache < 0
  ·have hd0 : decide (cache < 0) = true := decide_eq_true h0
   go_enter Tryz.func7, Tryz.ntmps7
   go_wp2_with fail
   refine CS.out.mono ?_
   rintro e w1 ⟨rfl, b1⟩
   clear CS
   go_wp2
   go_ret2
   exact IsOpen.no b1 HO.out rfl
  ·have hd0 : decide (cache < 0) = false := decide_eq_false h0
   have hd1 : decide (256 < cache) = true := decide_eq_true (hca.resolve_left h0)
   clear hca
   go_enter Tryz.func7, Tryz.ntmps7
   go_wp2_with fail
   refine CS.out.mono ?_
   rintro e w1 ⟨rfl, b1⟩
   clear CS
   go_wp2
   go_ret2
   exact IsOpen.no b1 HO.out rfl
 ·have hd0 : decide (cache < 0) = false := decide_eq_false (fun h => hca (.inl h))
  have hd1 : decide (256 < cache) = false := decide_eq_false (fun h => hca (.inr h))
  have HCA := Lib.hid hca
  clear hca
  go_enter Tryz.func7, Tryz.ntmps7
  go_wp2_with fail
  refine CS.out.mono ?_
  rintro e w1 ⟨rfl, b1⟩
  have HB1 := Lib.hid b1
  have HD1 := Lib.hid (pdisk_law.below HD.out b1)
  have CR := Lib.hid (pread_any HD1.out name hnm 0 1024 (by unfold I64; omega) (by unfold I64; omega))
  rw [HRD.out] at CR
  by_cases he : er = 0
  ·subst he
   simp only [ne_eq, not_true_eq_false, if_false] at CR
   obtain ⟨lb, hlb⟩ : ∃ lb, (Sf.now (Sf.fileAt t k)).take 1024 = lb := ⟨_, rfl⟩
   rw [hlb] at CR
   have HLB := Lib.hid hlb
   clear CS b1 hlb
   go_wp2_with fail
   refine CR.out.mono ?_
   rintro e w2 ⟨A, c, rfl, ho, b2⟩
   have HB2 := Lib.hid (HB1.out.trans (b2.mono HB1.out.size))
   have HD2 := Lib.hid (pdisk_law.below HD1.out b2)
   have HO2 := Lib.hid ho
   obtain ⟨e1, e2, e3⟩ := ho.form_.len_
   have HE := Lib.hid (And.intro e2 e3)
   clear CR ho b2 e1 e2 e3
   simp only
   by_cases hl : lb.length < 1024
   ·have hd2 : decide ((lb.length : Int) < 1024) = true := decide_eq_true (by omega)
    have HO : Hid (Pp.openE t name cache = (none, 4)) := by
     unfold Hid Pp.openE
     rw [if_neg HCA.out, HG.out, if_neg (by simp)]
     simp only
     rw [if_pos (by have := HLB.out; rw [← this, List.length_take] at hl; omega)]
    go_wp2
    go_ret2
    exact IsOpen.no HB2.out HO.out rfl
   ·have hd2 : decide ((lb.length : Int) < 1024) = false := decide_eq_false (by omega)
    have HFL : Hid (lb.length = 1024 ∧ 1024 ≤ (Sf.now (Sf.fileAt t k)).length) := by
     have h := HLB.out
     have h2 : lb.length = min 1024 (Sf.now (Sf.fileAt t k)).length := by rw [← h, List.length_take]
     constructor <;> omega
    have HTD : Hid (Pp.told (Sf.now (Sf.fileAt t k)) = Rt.pickE (lb.take 512) (lb.drop 512)) := by
     unfold Hid Pp.told
     rw [← HLB.out, List.take_take, List.drop_take]
     rfl
    obtain ⟨A2, hf1, hf2, hf3, hf4⟩ := cut_from (yK : El Tryz.prog Nat) rfl A lb.length c 512 (by omega) HE.out.1
    have hct := cut_to (yK : El Tryz.prog Nat) rfl A lb.length c 512 (by have h : lb.length ≤ c := HE.out.1; omega)
    have HV1 : Hid (Lv yK w2 w2.heap.size (.slice A 512 c) (lb.take 512)) := (HO2.out.form_).take_ (k := 512) (by show 512 ≤ lb.length; omega)
    have HV2 : Hid (Lv yK w2 w2.heap.size (.slice A2 (lb.length - 512) (c - 512)) (lb.drop 512)) := hf3 w2 w2.heap.size lb HO2.out.form_
    obtain ⟨n2, hn2⟩ : ∃ n2, lb.length - 512 = n2 := ⟨_, rfl⟩
    obtain ⟨c2, hc2⟩ : ∃ c2, c - 512 = c2 := ⟨_, rfl⟩
    rw [hn2, hc2] at HV2 hf1 hf2
    change ∀ w, (Instr.slice 40 (.slice A lb.length c) (some (.int .i64 512)) none none).run Tryz.prog w = .ok (.slice A2 n2 c2) w at hf1
    change ∀ w, (Instr.slice 40 (.slice A lb.length c) none (some (.int .i64 512)) none).run Tryz.prog w = .ok (.slice A 512 c) w at hct
    have hf2' : ∀ w, (Instr.sliceAt 40 (.slice A lb.length c) (some (.int .i64 512)) none none).run Tryz.prog w = .ok (.slice A2 n2 c2) w := hf2
    have hct' : ∀ w, (Instr.sliceAt 40 (.slice A lb.length c) none (some (.int .i64 512)) none).run Tryz.prog w = .ok (.slice A 512 c) w := cutAt_to (yK : El Tryz.prog Nat) rfl A lb.length c 512 (by have h : lb.length ≤ c := HE.out.1; omega)
    clear hf2 hf3 hf4 hn2 hc2
    obtain ⟨X, hX⟩ : ∃ X, w2.drew = X := ⟨_, rfl⟩
    have HXB : Hid (Below w2.heap.size w2 X) := by unfold Hid; rw [← hX]; exact below_drewN (Below.refl _ _) 1
    have CP := Lib.hid (prtpick_any _ _ _ _ w2.heap.size w2.heap.size X (HV1.out.below_ HXB.out (Nat.le_refl _)) (HV2.out.below_ HXB.out (Nat.le_refl _)) HXB.out.size HXB.out.size)
    rw [← HTD.out] at CP
    obtain ⟨rt, et, hrt⟩ : ∃ rt et, Pp.told (Sf.now (Sf.fileAt t k)) = (rt, et) := ⟨_, _, rfl⟩
    rw [hrt] at CP
    have HRT := Lib.hid hrt
    have hz7 := (zero_of_info (n := 7) rt_zero).1
    obtain ⟨N7, hN7⟩ : ∃ N, none7 = N := ⟨_, rfl⟩
    have HN7 := Lib.hid hN7
    rw [hN7] at hz7
    clear hrt hN7
    obtain ⟨C, hC⟩ : ∃ C, rtC rt = C := ⟨_, rfl⟩
    have HC := Lib.hid hC
    have hCs : C.size = 7 := by rw [← hC]; rfl
    have hCo : C.all (·.oneCell') = true := by rw [← hC]; exact rtC_one _
    have hszC : (Tryz.prog.info? 34).map (·.size) = some C.size := by rw [hCs]; exact rt_size
    have hNC : N7.size = C.size := by rw [hCs, ← HN7.out]; rfl
    have HP : Hid (∀ Y : World, Below w2.heap.size w2 Y → Calls Tryz.prog 37 #[.slice A 512 c, .slice A2 n2 c2] Y (IsRtE (rt, et) Y)) := fun Y hY => by
     have := prtpick_any _ _ _ _ w2.heap.size w2.heap.size Y (HV1.out.below_ hY (Nat.le_refl _)) (HV2.out.below_ hY (Nat.le_refl _)) hY.size hY.size
     rw [← HTD.out, HRT.out] at this
     exact this
    clear CP
    go_wp2_with fail
    refine wp_cutN (R := fun a w' => ∃ g, a = { tmps := #[Value.pointer (some { block := bf, off := 0 }), Value.string name, Value.int IntKind.i64 cache, undef, undef, undef, Value.pointer none, Value.int IntKind.i64 0, Value.int IntKind.i64 sz, Value.int IntKind.i64 es, Value.slice A lb.length c, Value.int IntKind.i64 et, Value.pointer (some { block := g, off := 0 }), Value.tuple #[Value.int IntKind.i64 sz, Value.int IntKind.i64 es], Value.pointer (some { block := bf, off := 0 }), Value.string name, Value.tuple #[Value.int IntKind.i64 sz, Value.int IntKind.i64 es], Value.int IntKind.i64 sz, Value.int IntKind.i64 es, Value.int IntKind.i64 es, Value.bool false, Value.int IntKind.i64 cache, Value.bool false, Value.bool false, Value.int IntKind.i64 cache, Value.bool false, Value.bool false, Value.tuple #[Value.slice A lb.length c, Value.int IntKind.i64 0], Value.pointer (some { block := bf, off := 0 }), Value.string name, Value.tuple #[Value.slice A lb.length c, Value.int IntKind.i64 0], Value.slice A lb.length c, Value.int IntKind.i64 0, Value.int IntKind.i64 0, Value.bool false, undef, Value.slice A lb.length c, Value.int IntKind.i64 lb.length, Value.bool false, Value.tuple #[Value.agg C, Value.int IntKind.i64 et], Value.slice A lb.length c, Value.slice A 512 c, Value.slice A lb.length c, Value.slice A2 n2 c2, Value.tuple #[Value.agg C, Value.int IntKind.i64 et], Value.agg C, Value.int IntKind.i64 et, undef, undef, undef, undef, undef, undef, undef, undef, undef, undef, undef, undef, undef, undef], defers := [] } ∧ Below w2.heap.size w2 w' ∧ Rw w' g 34 C ∧ w2.heap.size ≤ g) ?_ ?_
    ·refine wp_region_m (fun w' => Below w2.heap.size w2 w') 11 (by kernel_rfl) ?_
     rw [hX]
     have hH : Below w2.heap.size w2 X := HXB.out
     refine zM (i := 0) (v := ?_) rfl (by kernel_rfl) (fun _ _ _ h => h) hH (Or.inl ⟨by rfl, (by intro w' hSw; skip; go_simp; first | done | with_reducible rfl)⟩) ?_
     try simp only [Act.put, zA, zC, zD, zE, zF]
     refine zM (i := 1) (v := ?_) rfl (by kernel_rfl) (fun _ _ _ h => h) hH (Or.inl ⟨by rfl, (by intro w' hSw; skip; go_simp; first | done | with_reducible rfl)⟩) ?_
     try simp only [Act.put, zA, zB, zC, zD, zE, zF]
     refine zM (i := 2) (v := ?_) rfl (by kernel_rfl) (fun _ _ _ h => h) hH (Or.inl ⟨by rfl, (by intro w' hSw; skip; go_simp; first | done | with_reducible rfl)⟩) ?_
     try simp only [Act.put, zA, zB, zC, zD, zE, zF]
     refine zM (i := 3) (v := ?_) rfl (by kernel_rfl) (fun _ _ _ h => h) hH (Or.inl ⟨by rfl, (by intro w' hSw; skip; go_simp; first | done | with_reducible rfl)⟩) ?_
     try simp only [Act.put, zA, zB, zC, zD, zE, zF]
     have CP := Lib.hid (HP.out X hH)
     refine wpAnyM_two (i := 4) (j := 8) (by kernel_rfl) rfl rfl (fun K hK => ?_) (fun K hK => ?_)
     ·go_simp
      refine CP.out.mono ?_
      rintro e w3 ⟨rfl, hfit, b3⟩
      have HB3 : Hid (Below w2.heap.size w2 w3) := HXB.out.trans (b3.mono HXB.out.size)
      simp only [hC]
      refine hK.out _ _ (.inr HB3.out) ?_
      have hB3 := HB3.out
      clear hK K
      try simp only [Act.put, zA, zB, zC, zD, zE, zF]
      refine zM (i := 5) (v := ?_) rfl (by kernel_rfl) (fun _ _ _ h => h) hB3 (Or.inl ⟨by rfl, (by intro w' hSw; skip; go_simp; first | done | with_reducible rfl)⟩) ?_
      try simp only [Act.put, zA, zB, zC, zD, zE, zF]
      refine zM (i := 6) (v := ?_) rfl (by kernel_rfl) (fun _ _ _ h => h) hB3 (Or.inl ⟨by rfl, (by intro w' hSw; skip; go_simp; first | done | with_reducible rfl)⟩) ?_
      try simp only [Act.put, zA, zB, zC, zD, zE, zF]
      refine zM (i := 7) (v := ?_) rfl (by kernel_rfl) (fun _ _ _ h => h) hB3 (Or.inl ⟨by rfl, (by intro w' hSw; skip; go_simp; first | done | with_reducible rfl)⟩) ?_
      try simp only [Act.put, zA, zB, zC, zD, zE, zF]
      have HX4 : Hid (Rw (w3.alloc (.cells N7 34)) w3.heap.size 34 N7) := Rw.new w3 _ _
      have HB4 : Hid (Below w2.heap.size w2 (w3.alloc (.cells N7 34))) := HB3.out.alloc HB3.out.size _
      refine wpAnyM_next (i := 8) (by kernel_rfl) rfl (fun K hK => ?_)
      go_simp
      refine hK.out _ _ (.inr HB4.out) ?_
      clear hK K
      try simp only [Act.put, zA, zB, zC, zD, zE, zF]
      refine wpAnyM_next (i := 9) (by kernel_rfl) rfl (fun K hK => ?_)
      rw [if_pos (by rfl)]
      refine wp_store_row 34 (.tmp 12) (.tmp 45) rfl w3.heap.size C rfl rfl 34 _ HX4.out hszC hNC hCo ?_
      have HR5 := Lib.hid (HX4.out.row C)
      have HB5 := Lib.hid (below_setRow HB4.out HB3.out.size C)
      refine hK.out _ _ (.inr HB5.out) ?_
      have hB5 := HB5.out
      clear hK K
      try simp only [Act.put, zA, zB, zC]
      refine zM (i := 10) (v := ?_) rfl (by kernel_rfl) (fun _ _ _ h => h) hB5 (Or.inl ⟨by rfl, (by intro w' hSw; skip; go_simp; first | done | with_reducible rfl)⟩) ?_
      try simp only [Act.put, zA, zB, zC, zD, zE, zF]
      refine wpAnyM_done (by kernel_rfl) ?_ _
      exact ⟨w3.heap.size, rfl, HB5.out, HR5.out, HB3.out.size⟩
     ·have HX4 : Hid (Rw (X.alloc (.cells N7 34)) X.heap.size 34 N7) := Rw.new X _ _
      have HB4 : Hid (Below w2.heap.size w2 (X.alloc (.cells N7 34))) := HXB.out.alloc HXB.out.size _
      go_simp
      refine hK.out _ _ (.inr HB4.out) ?_
      clear hK K CP
      try simp only [Act.put, zA, zB, zC, zD, zE, zF]
      have CP := Lib.hid (HP.out _ HB4.out)
      refine wpAnyM_next (i := 4) (by kernel_rfl) rfl (fun K hK => ?_)
      go_simp
      refine CP.out.mono ?_
      rintro e w3 ⟨rfl, hfit, b3⟩
      have HB3 : Hid (Below w2.heap.size w2 w3) := HB4.out.trans (b3.mono HB4.out.size)
      have HX3 : Hid (Rw w3 X.heap.size 34 N7) := HX4.out.below b3 HX4.out.lt
      simp only [hC]
      refine hK.out _ _ (.inr HB3.out) ?_
      have hB3 := HB3.out
      clear hK K
      try simp only [Act.put, zA, zB, zC, zD, zE, zF]
      refine zM (i := 5) (v := ?_) rfl (by kernel_rfl) (fun _ _ _ h => h) hB3 (Or.inl ⟨by rfl, (by intro w' hSw; skip; go_simp; first | done | with_reducible rfl)⟩) ?_
      try simp only [Act.put, zA, zB, zC, zD, zE, zF]
      refine zM (i := 6) (v := ?_) rfl (by kernel_rfl) (fun _ _ _ h => h) hB3 (Or.inl ⟨by rfl, (by intro w' hSw; skip; go_simp; first | done | with_reducible rfl)⟩) ?_
      try simp only [Act.put, zA, zB, zC, zD, zE, zF]
      refine zM (i := 7) (v := ?_) rfl (by kernel_rfl) (fun _ _ _ h => h) hB3 (Or.inl ⟨by rfl, (by intro w' hSw; skip; go_simp; first | done | with_reducible rfl)⟩) ?_
      try simp only [Act.put, zA, zB, zC, zD, zE, zF]
      refine wpAnyM_next (i := 9) (by kernel_rfl) rfl (fun K hK => ?_)
      rw [if_pos (by rfl)]
      refine wp_store_row 34 (.tmp 12) (.tmp 45) rfl X.heap.size C rfl rfl 34 _ HX3.out hszC hNC hCo ?_
      have HR5 := Lib.hid (HX3.out.row C)
      have HB5 := Lib.hid (below_setRow HB3.out HXB.out.size C)
      refine hK.out _ _ (.inr HB5.out) ?_
      have hB5 := HB5.out
      clear hK K
      try simp only [Act.put, zA, zB, zC]
      refine zM (i := 10) (v := ?_) rfl (by kernel_rfl) (fun _ _ _ h => h) hB5 (Or.inl ⟨by rfl, (by intro w' hSw; skip; go_simp; first | done | with_reducible rfl)⟩) ?_
      try simp only [Act.put, zA, zB, zC, zD, zE, zF]
      refine wpAnyM_done (by kernel_rfl) ?_ _
      exact ⟨X.heap.size, rfl, HB5.out, HR5.out, HXB.out.size⟩
    ·rintro a w5 ⟨g, rfl, hB5, hR5, hg5⟩
     clear hX hct hct' hf1 hf2'
     have HB5 := Lib.hid hB5
     have HR5 := Lib.hid (And.intro hR5 hg5)
     clear hB5 hR5 hg5 hz7
     dsimp only
     by_cases het : et = 0
     ·subst het
      have HOP : Hid (Pp.openE t name cache = (some ⟨name, rt, cache.toNat, [], 0⟩, 0)) := by
       unfold Hid Pp.openE
       rw [if_neg HCA.out, HG.out, if_neg (by simp)]
       simp only
       rw [if_neg (by have := HFL.out; omega), HRT.out, if_neg (by simp)]
      clear hl hd2 hCs hNC
      go_wp2_with fail
      have hca := HCA.out
      obtain ⟨cn, hcn⟩ : ∃ cn : Nat, cache = (cn : Int) := ⟨cache.toNat, by omega⟩
      have HCN := Lib.hid hcn
      obtain ⟨Y, hY⟩ : ∃ Y, w5.drew = Y := ⟨_, rfl⟩
      have HYB : Hid (Below w5.heap.size w5 Y) := by unfold Hid; rw [← hY]; exact below_drewN (Below.refl _ _) 1
      have hmk : ∀ (t : TypeId) (w : World), (Instr.makeMap t none).run Tryz.prog w = .ok (.map (some w.heap.size)) (w.alloc (.map #[] 0)) := fun t w => rfl
      clear hca hcn hC
      try simp only [Int.natCast_zero]
      refine wp_cutN (R := fun a w' => ∃ (v52 v54 v55 v56 v58 v59 v60 r6 r7 : Value) (U D P H b : Nat), a = { tmps := #[Value.pointer (some { block := bf, off := 0 }), Value.string name, Value.int IntKind.i64 cache, undef, undef, undef, r6, r7, Value.int IntKind.i64 sz, Value.int IntKind.i64 es, Value.slice A lb.length c, Value.int IntKind.i64 0, Value.pointer (some { block := g, off := 0 }), Value.tuple #[Value.int IntKind.i64 sz, Value.int IntKind.i64 es], Value.pointer (some { block := bf, off := 0 }), Value.string name, Value.tuple #[Value.int IntKind.i64 sz, Value.int IntKind.i64 es], Value.int IntKind.i64 sz, Value.int IntKind.i64 es, Value.int IntKind.i64 es, Value.bool false, Value.int IntKind.i64 cache, Value.bool false, Value.bool false, Value.int IntKind.i64 cache, Value.bool false, Value.bool false, Value.tuple #[Value.slice A lb.length c, Value.int IntKind.i64 0], Value.pointer (some { block := bf, off := 0 }), Value.string name, Value.tuple #[Value.slice A lb.length c, Value.int IntKind.i64 0], Value.slice A lb.length c, Value.int IntKind.i64 0, Value.int IntKind.i64 0, Value.bool false, undef, Value.slice A lb.length c, Value.int IntKind.i64 lb.length, Value.bool false, Value.tuple #[Value.agg C, Value.int IntKind.i64 0], Value.slice A lb.length c, Value.slice A 512 c, Value.slice A lb.length c, Value.slice A2 n2 c2, Value.tuple #[Value.agg C, Value.int IntKind.i64 0], Value.agg C, Value.int IntKind.i64 0, Value.int IntKind.i64 0, Value.bool false, undef, Value.pointer (some { block := bf, off := 0 }), Value.string name, v52, Value.agg C, v54, v55, v56, Value.int IntKind.i64 cache, v58, v59, v60], defers := [] } ∧ OpI w5 bf name rt cn (fun _ => true) v52 v54 v55 v56 v58 v59 v60 r6 r7 U D P H b w') ?_ ?_
      ·refine wp_region_m (fun w' => Below w5.heap.size w5 w') 13 (by kernel_rfl) ?_
       rw [hY]
       have hH : Below w5.heap.size w5 Y := HYB.out
       refine zM (i := 0) (v := ?_) rfl (by kernel_rfl) (fun _ _ _ h => h) hH (Or.inl ⟨by rfl, (by intro w' hSw; skip; go_simp; first | done | with_reducible rfl)⟩) ?_
       try simp only [Act.put, zA, zC, zD, zE, zF]
       refine zM (i := 1) (v := ?_) rfl (by kernel_rfl) (fun _ _ _ h => h) hH (Or.inl ⟨by rfl, (by intro w' hSw; skip; go_simp; first | done | with_reducible rfl)⟩) ?_
       try simp only [Act.put, zA, zB, zC, zD, zE, zF]
       refine zM (i := 3) (v := .agg C) rfl (by kernel_rfl) (fun _ _ _ h => h) hH (Or.inl ⟨by rfl, fun w' hSw => exec_load_row _ _ rfl g rfl 34 C (0, 0) _ w' (HR5.out.1.below hSw HR5.out.1.lt) Tryz.underlying34 rfl hszC⟩) ?_
       try simp only [Act.put, zA, zB, zC, zD, zE, zF]
       refine zM (i := 7) (v := ?_) rfl (by kernel_rfl) (fun _ _ _ h => h) hH (Or.inl ⟨by rfl, (by intro w' hSw; skip; go_simp; first | done | with_reducible rfl)⟩) ?_
       try simp only [Act.put, zA, zB, zC, zD, zE, zF]
       obtain ⟨I, hI⟩ : ∃ I : Array Bool → Act → World → Prop, (fun listed a w' => listed.size = 13 ∧ (listed.getD 0 false = true ∧ listed.getD 1 false = true ∧ listed.getD 3 false = true ∧ listed.getD 7 false = true) ∧ ∃ (v52 v54 v55 v56 v58 v59 v60 r6 r7 : Value) (U D P H b : Nat), a = { tmps := #[Value.pointer (some { block := bf, off := 0 }), Value.string name, Value.int IntKind.i64 cache, undef, undef, undef, r6, r7, Value.int IntKind.i64 sz, Value.int IntKind.i64 es, Value.slice A lb.length c, Value.int IntKind.i64 0, Value.pointer (some { block := g, off := 0 }), Value.tuple #[Value.int IntKind.i64 sz, Value.int IntKind.i64 es], Value.pointer (some { block := bf, off := 0 }), Value.string name, Value.tuple #[Value.int IntKind.i64 sz, Value.int IntKind.i64 es], Value.int IntKind.i64 sz, Value.int IntKind.i64 es, Value.int IntKind.i64 es, Value.bool false, Value.int IntKind.i64 cache, Value.bool false, Value.bool false, Value.int IntKind.i64 cache, Value.bool false, Value.bool false, Value.tuple #[Value.slice A lb.length c, Value.int IntKind.i64 0], Value.pointer (some { block := bf, off := 0 }), Value.string name, Value.tuple #[Value.slice A lb.length c, Value.int IntKind.i64 0], Value.slice A lb.length c, Value.int IntKind.i64 0, Value.int IntKind.i64 0, Value.bool false, undef, Value.slice A lb.length c, Value.int IntKind.i64 lb.length, Value.bool false, Value.tuple #[Value.agg C, Value.int IntKind.i64 0], Value.slice A lb.length c, Value.slice A 512 c, Value.slice A lb.length c, Value.slice A2 n2 c2, Value.tuple #[Value.agg C, Value.int IntKind.i64 0], Value.agg C, Value.int IntKind.i64 0, Value.int IntKind.i64 0, Value.bool false, undef, Value.pointer (some { block := bf, off := 0 }), Value.string name, v52, Value.agg C, v54, v55, v56, Value.int IntKind.i64 cache, v58, v59, v60], defers := [] } ∧ OpI w5 bf name rt cn (fun j => listed.getD j false) v52 v54 v55 v56 v58 v59 v60 r6 r7 U D P H b w') = I := ⟨_, rfl⟩
       refine wpAnyM_inv (I := I) ?_ ?_ _ _ _ _ (by decide) ?_
       rotate_left 2
       ·rw [← hI]
        refine ⟨by rfl, ⟨rfl, rfl, rfl, rfl⟩, undef, undef, undef, undef, undef, undef, undef, .pointer none, .int .i64 0, 0, 0, 0, 0, 0, rfl, HYB.out, ?_, ?_, ?_, ?_, ?_, ?_, ?_, ?_, ?_, ?_, ?_, ?_, ?_, ?_, ?_⟩ <;> (intro h; first | (exact absurd h (by decide)) | (intro h2; exact absurd h2 (by decide)))
       rotate_left 1
       ·intro listed a wi hIa hr
        rw [← hI] at hIa
        obtain ⟨hs, ⟨h0, h1, h3, h7⟩, v52, v54, v55, v56, v58, v59, v60, r6, r7, U, D, P, H, b, rfl, hO⟩ := hIa
        have h0' := h0
        rw [Array.getD_eq_getD_getElem?] at h0'
        have h1' := h1
        rw [Array.getD_eq_getD_getElem?] at h1'
        have h3' := h3
        rw [Array.getD_eq_getD_getElem?] at h3'
        have h7' := h7
        rw [Array.getD_eq_getD_getElem?] at h7'
        have g2 : listed.getD 2 false = true := ready_done (md := .any) (i := 2) hr rfl (by omega) (by simp [h1'])
        have g2' := g2
        rw [Array.getD_eq_getD_getElem?] at g2'
        have g4 : listed.getD 4 false = true := ready_done (md := .any) (i := 4) hr rfl (by omega) (by simp)
        have g4' := g4
        rw [Array.getD_eq_getD_getElem?] at g4'
        have g5 : listed.getD 5 false = true := ready_done (md := .any) (i := 5) hr rfl (by omega) (by simp)
        have g5' := g5
        rw [Array.getD_eq_getD_getElem?] at g5'
        have g6 : listed.getD 6 false = true := ready_done (md := .any) (i := 6) hr rfl (by omega) (by simp)
        have g6' := g6
        rw [Array.getD_eq_getD_getElem?] at g6'
        have g8 : listed.getD 8 false = true := ready_done (md := .any) (i := 8) hr rfl (by omega) (by simp [h7', g2'])
        have g8' := g8
        rw [Array.getD_eq_getD_getElem?] at g8'
        have g9 : listed.getD 9 false = true := ready_done (md := .any) (i := 9) hr rfl (by omega) (by simp [h0', h3', g2', g4', g5', g6', g8'])
        have g9' := g9
        rw [Array.getD_eq_getD_getElem?] at g9'
        have g10 : listed.getD 10 false = true := ready_done (md := .any) (i := 10) hr rfl (by omega) (by simp [g9'])
        have g10' := g10
        rw [Array.getD_eq_getD_getElem?] at g10'
        have g11 : listed.getD 11 false = true := ready_done (md := .any) (i := 11) hr rfl (by omega) (by simp [h0', h1', h3', h7', g2', g4', g5', g6', g8', g9', g10'])
        have g11' := g11
        rw [Array.getD_eq_getD_getElem?] at g11'
        have g12 : listed.getD 12 false = true := ready_done (md := .any) (i := 12) hr rfl (by omega) (by simp [h0', h1', h3', h7', g2', g4', g5', g6', g8', g9', g10', g11'])
        have g12' := g12
        rw [Array.getD_eq_getD_getElem?] at g12'
        exact ⟨_, _, _, _, _, _, _, _, _, _, _, _, _, _, rfl, hO.all g2 g4 g5 g6 g8 g9 g10 g11 g12⟩
       intro listed a wi hIa i hi
       rw [← hI] at hIa
       obtain ⟨hs, ⟨h0, h1, h3, h7⟩, v52, v54, v55, v56, v58, v59, v60, r6, r7, U, D, P, H, b, rfl, hO⟩ := hIa
       have hi13 : i < 13 := by
        obtain ⟨_, o, ho, _⟩ := mem_ready.1 hi
        exact (Array.getElem?_eq_some_iff.1 ho).1
       have hnot := ready_not hi
       have hgd := getD_bits (listed := listed) (i := i) (by omega)
       rcases i with _|_|_|_|_|_|_|_|_|_|_|_|_|i
       ·rw [h0] at hnot; cases hnot
       ·rw [h1] at hnot; cases hnot
       ·refine wpOp_some rfl rfl ?_
        dsimp only
        go_simp
        refine (pstrclone_any name wi hn).mono ?_
        rintro e w6 ⟨rfl, b6⟩
        refine ⟨(hO.hb.trans (b6.mono hO.hb.size)), ?_⟩
        rw [← hI]
        refine ⟨by rw [Array.size_setIfInBounds]; exact hs, ⟨by rw [hgd]; simp [h0], by rw [hgd]; simp [h1], by rw [hgd]; simp [h3], by rw [hgd]; simp [h7]⟩, _, _, _, _, _, _, _, _, _, U, D, P, H, b, rfl, ?_⟩
        rw [updB_eq listed (by omega)]
        exact (hO.below b6).s2 rfl
       ·rw [h3] at hnot; cases hnot
       ·have b6 : Below wi.heap.size wi (wi.alloc (.map #[] 0)) := (Below.refl _ _).alloc (Nat.le_refl _) _
        refine wpOp_some rfl rfl ?_
        dsimp only
        go_simp
        refine ⟨(hO.hb.trans (b6.mono hO.hb.size)), ?_⟩
        rw [← hI]
        refine ⟨by rw [Array.size_setIfInBounds]; exact hs, ⟨by rw [hgd]; simp [h0], by rw [hgd]; simp [h1], by rw [hgd]; simp [h3], by rw [hgd]; simp [h7]⟩, _, _, _, _, _, _, _, _, _, wi.heap.size, D, P, H, b, rfl, ?_⟩
        rw [updB_eq listed (by omega)]
        exact hO.s4 (m := wi.heap.size) hnot b6 (Nat.le_refl _) rfl (IsMp.made nuM wi)
       ·have b6 : Below wi.heap.size wi (wi.alloc (.map #[] 0)) := (Below.refl _ _).alloc (Nat.le_refl _) _
        refine wpOp_some rfl rfl ?_
        dsimp only
        go_simp
        refine ⟨(hO.hb.trans (b6.mono hO.hb.size)), ?_⟩
        rw [← hI]
        refine ⟨by rw [Array.size_setIfInBounds]; exact hs, ⟨by rw [hgd]; simp [h0], by rw [hgd]; simp [h1], by rw [hgd]; simp [h3], by rw [hgd]; simp [h7]⟩, _, _, _, _, _, _, _, _, _, U, wi.heap.size, P, H, b, rfl, ?_⟩
        rw [updB_eq listed (by omega)]
        exact hO.s5 (m := wi.heap.size) hnot b6 (Nat.le_refl _) rfl (IsMp.made nuM wi)
       ·have b6 : Below wi.heap.size wi (wi.alloc (.map #[] 0)) := (Below.refl _ _).alloc (Nat.le_refl _) _
        refine wpOp_some rfl rfl ?_
        dsimp only
        go_simp
        refine ⟨(hO.hb.trans (b6.mono hO.hb.size)), ?_⟩
        rw [← hI]
        refine ⟨by rw [Array.size_setIfInBounds]; exact hs, ⟨by rw [hgd]; simp [h0], by rw [hgd]; simp [h1], by rw [hgd]; simp [h3], by rw [hgd]; simp [h7]⟩, _, _, _, _, _, _, _, _, _, U, D, wi.heap.size, H, b, rfl, ?_⟩
        rw [updB_eq listed (by omega)]
        exact hO.s6 (m := wi.heap.size) hnot b6 (Nat.le_refl _) rfl (IsMp.made peM wi)
       ·rw [h7] at hnot; cases hnot
       ·refine wpOp_some rfl rfl ?_
        dsimp only
        go_simp
        refine (pyempty_any cache wi).mono ?_
        rintro e w6 ⟨H', rfl, hm6, hh6, b6⟩
        refine ⟨(hO.hb.trans (b6.mono hO.hb.size)), ?_⟩
        rw [← hI]
        refine ⟨by rw [Array.size_setIfInBounds]; exact hs, ⟨by rw [hgd]; simp [h0], by rw [hgd]; simp [h1], by rw [hgd]; simp [h3], by rw [hgd]; simp [h7]⟩, _, _, _, _, _, _, _, _, _, U, D, P, H', b, rfl, ?_⟩
        rw [updB_eq listed (by omega)]
        exact hO.s8 (m := H') hnot b6 hh6 (by rw [HCN.out]) hm6
       ·have g2 : listed.getD 2 false = true := ready_has (md := .any) hi rfl (e := ⟨2, .data⟩) (by simp) rfl
        have g4 : listed.getD 4 false = true := ready_has (md := .any) hi rfl (e := ⟨4, .data⟩) (by simp) rfl
        have g5 : listed.getD 5 false = true := ready_has (md := .any) hi rfl (e := ⟨5, .data⟩) (by simp) rfl
        have g6 : listed.getD 6 false = true := ready_has (md := .any) hi rfl (e := ⟨6, .data⟩) (by simp) rfl
        have g8 : listed.getD 8 false = true := ready_has (md := .any) hi rfl (e := ⟨8, .data⟩) (by simp) rfl
        have hv2 := hO.p2 g2
        have hv4 := (hO.p4 g4).1
        have hv5 := (hO.p5 g5).1
        have hv6 := (hO.p6 g6).1
        have hv8 := (hO.p8 g8).1
        subst hv2 hv4 hv5 hv6 hv8
        have hbt := py_built bf name rt cn U D P H
        rw [HC.out] at hbt
        obtain ⟨PC, hPC⟩ : ∃ PC, pyC bf ⟨name, rt, cn, [], 0⟩ U D P H 0 2 = PC := ⟨_, rfl⟩
        rw [hPC] at hbt
        have HPC := Lib.hid hPC
        clear hPC
        refine wpOp_some rfl rfl ?_
        unfold Oper.wp
        rw [exec_build (a := { tmps := #[Value.pointer (some { block := bf, off := 0 }), Value.string name, Value.int IntKind.i64 cache, undef, undef, undef, r6, r7, Value.int IntKind.i64 sz, Value.int IntKind.i64 es, Value.slice A lb.length c, Value.int IntKind.i64 0, Value.pointer (some { block := g, off := 0 }), Value.tuple #[Value.int IntKind.i64 sz, Value.int IntKind.i64 es], Value.pointer (some { block := bf, off := 0 }), Value.string name, Value.tuple #[Value.int IntKind.i64 sz, Value.int IntKind.i64 es], Value.int IntKind.i64 sz, Value.int IntKind.i64 es, Value.int IntKind.i64 es, Value.bool false, Value.int IntKind.i64 cache, Value.bool false, Value.bool false, Value.int IntKind.i64 cache, Value.bool false, Value.bool false, Value.tuple #[Value.slice A lb.length c, Value.int IntKind.i64 0], Value.pointer (some { block := bf, off := 0 }), Value.string name, Value.tuple #[Value.slice A lb.length c, Value.int IntKind.i64 0], Value.slice A lb.length c, Value.int IntKind.i64 0, Value.int IntKind.i64 0, Value.bool false, undef, Value.slice A lb.length c, Value.int IntKind.i64 lb.length, Value.bool false, Value.tuple #[Value.agg C, Value.int IntKind.i64 0], Value.slice A lb.length c, Value.slice A 512 c, Value.slice A lb.length c, Value.slice A2 n2 c2, Value.tuple #[Value.agg C, Value.int IntKind.i64 0], Value.agg C, Value.int IntKind.i64 0, Value.int IntKind.i64 0, Value.bool false, undef, Value.pointer (some { block := bf, off := 0 }), Value.string name, .string name, Value.agg C, .map (some U), .map (some D), .map (some P), Value.int IntKind.i64 cache, .agg #[.int .i64 (cn : Nat), .map (some H), .int .i64 0], v59, v60], defers := [] }) 79 #[(0, .tmp 50), (1, .tmp 52), (2, .tmp 53), (3, .tmp 54), (4, .tmp 55), (5, .tmp 56), (6, .tmp 58), (7, .const (.int .i64 2))] rfl PC wi (by simp only [List.map_toArray, List.map_cons, List.map_nil]; exact hbt), Oper.upon_value]
        refine ⟨.inr hO.hb, ?_⟩
        rw [← hI]
        refine ⟨by rw [Array.size_setIfInBounds]; exact hs, ⟨by rw [hgd]; simp [h0], by rw [hgd]; simp [h1], by rw [hgd]; simp [h3], by rw [hgd]; simp [h7]⟩, _, _, _, _, _, _, _, _, _, U, D, P, H, b, rfl, ?_⟩
        rw [updB_eq listed (by omega)]
        exact hO.s9 (by rw [HPC.out]) g4 g5 g6 g8
       ·have g9 : listed.getD 9 false = true := ready_has (md := .any) hi rfl (e := ⟨9, .data⟩) (by simp) rfl
        have hv9 := (hO.p9 g9).1
        subst hv9
        have b6 : Below wi.heap.size wi (wi.alloc (.cells (pyC bf ⟨name, rt, cn, [], 0⟩ U D P H 0 2) 79)) := (Below.refl _ _).alloc (Nat.le_refl _) _
        refine wpOp_some rfl rfl ?_
        dsimp only
        go_simp
        refine ⟨(hO.hb.trans (b6.mono hO.hb.size)), ?_⟩
        rw [← hI]
        refine ⟨by rw [Array.size_setIfInBounds]; exact hs, ⟨by rw [hgd]; simp [h0], by rw [hgd]; simp [h1], by rw [hgd]; simp [h3], by rw [hgd]; simp [h7]⟩, _, _, _, _, _, _, _, _, _, U, D, P, H, wi.heap.size, rfl, ?_⟩
        rw [updB_eq listed (by omega)]
        exact hO.s10 (m := wi.heap.size) hnot g9 b6 (Nat.le_refl _) rfl (Rw.new wi _ _)
       ·have g10 : listed.getD 10 false = true := ready_has (md := .any) hi rfl (e := ⟨10, .data⟩) (by simp) rfl
        refine wpOp_some rfl rfl ?_
        dsimp only
        go_simp
        refine ⟨hO.hb, ?_⟩
        rw [← hI]
        refine ⟨by rw [Array.size_setIfInBounds]; exact hs, ⟨by rw [hgd]; simp [h0], by rw [hgd]; simp [h1], by rw [hgd]; simp [h3], by rw [hgd]; simp [h7]⟩, _, _, _, _, _, _, _, _, _, U, D, P, H, b, rfl, ?_⟩
        rw [updB_eq listed (by omega)]
        exact hO.s11 g10 rfl
       ·have g11 : listed.getD 11 false = true := ready_has (md := .any) hi rfl (e := ⟨11, .chain⟩) (by simp) rfl
        refine wpOp_some rfl rfl ?_
        dsimp only
        go_simp
        refine ⟨hO.hb, ?_⟩
        rw [← hI]
        refine ⟨by rw [Array.size_setIfInBounds]; exact hs, ⟨by rw [hgd]; simp [h0], by rw [hgd]; simp [h1], by rw [hgd]; simp [h3], by rw [hgd]; simp [h7]⟩, _, _, _, _, _, _, _, _, _, U, D, P, H, b, rfl, ?_⟩
        rw [updB_eq listed (by omega)]
        exact hO.s12 g11 rfl
       ·omega
      ·rintro a w6 ⟨v52, v54, v55, v56, v58, v59, v60, r6, r7, U, D, P, H, b, rfl, hO⟩
       have hr6 := (hO.p11 rfl).1
       have hr7 := (hO.p12 rfl).1
       have hv60 := (hO.p10 rfl).1
       subst hr6
       subst hv60 hr7
       have HO6 := Lib.hid hO
       clear hO hmk
       dsimp only
       go_wp2
       go_ret2
       have hO := HO6.out
       have hb := hO.hb
       have hs2 := HB2.out.size
       have hs5 := HB5.out.size
       have hcn := HCN.out
       have hca := HCA.out
       have hmay : Rt.May rt := Rt.told_may (a := lb.take 512) (b := lb.drop 512) (by rw [← HTD.out]; exact HRT.out)
       have e0 : Pp.usedF [] = fun _ => none := Pp.unit_ext (fun k => by rw [Pp.usedF_some]; simp)
       have e1 : Pp.dropF [] = fun _ => none := Pp.unit_ext (fun k => by rw [Pp.dropF_some]; simp)
       have hp10 := hO.p10 rfl
       have hfl := HFL.out
       have hP : PyHas w6 ⟨fun q => q = b ∨ q = U ∨ q = D ∨ q = P ∨ q = H, fun _ => False⟩ ⟨name, rt, cn, [], 0⟩ (Sf.now (Sf.fileAt t k)) b bf U D P H 0 2 (fun _ => none) (fun _ => none) :=
        ⟨hp10.2.1, by rw [e0]; exact (hO.p4 rfl).2.1.mono_ (by omega), by rw [e1]; exact (hO.p5 rfl).2.1.mono_ (by omega), (hO.p6 rfl).2.1.mono_ (by omega), (hO.p8 rfl).2.1.mono_ (by omega), fun _ _ h => (by cases h), fun _ h => (by cases h), fun _ _ h => (by cases h), (by rw [Pp.cnt_none]; exact Nat.zero_le _), Nat.le_refl _, (by omega), fun q h1 h2 => (by omega),
         ⟨hmay, List.Pairwise.nil, fun _ h => (by cases h), HRT.out, hfl.2, (by show cn ≤ 256; omega), hnm⟩, fun _ => Iff.rfl, fun _ h => h.elim, hp10.2.2.2.1, ⟨hO.d45 rfl rfl, hO.d46 rfl rfl, hO.d48 rfl rfl⟩, ⟨hO.d56 rfl rfl, hO.d58 rfl rfl⟩, hO.d68 rfl rfl⟩
       have hco : cache.toNat = cn := by omega
       refine ⟨HB2.out.trans ((HB5.out.trans (hb.mono hs5)).mono hs2), .inr ⟨_, b, ⟨fun q => q = b ∨ q = U ∨ q = D ∨ q = P ∨ q = H, fun _ => False⟩, HOP.out, rfl, ?_, ?_⟩⟩
       ·rw [hco, show (Sf.get t name).1 = k by rw [HG.out]]
        exact ⟨U, D, P, H, 0, 2, _, _, hP⟩
       ·intro q hq
        have g1 := hp10.2.2.1
        have g2 := (hO.p4 rfl).2.2
        have g3 := (hO.p5 rfl).2.2
        have g4 := (hO.p6 rfl).2.2
        have g5 := (hO.p8 rfl).2.2
        rcases hq with hq | hq
        ·rcases hq with rfl | rfl | rfl | rfl | rfl <;> omega
        ·exact hq.elim
     ·have HO : Hid (Pp.openE t name cache = (none, et)) := by
       have h7 : et = 7 := by
        have h1 := Rt.pick_err (lb.take 512) (lb.drop 512)
        rw [← HTD.out, HRT.out] at h1
        exact h1.resolve_left het
       unfold Hid Pp.openE
       rw [if_neg HCA.out, HG.out, if_neg (by simp)]
       simp only
       rw [if_neg (by have := HFL.out; omega), HRT.out, if_pos het, h7]
      have hne : ((et : Int) == 0) = false := by rw [beq_eq_false_iff_ne]; omega
      clear hl hCs hNC
      go_wp2
      go_ret2
      exact IsOpen.no (HB2.out.trans (HB5.out.mono HB2.out.size)) HO.out rfl
  ·have HO : Hid (Pp.openE t name cache = (none, er)) := by
    unfold Hid Pp.openE
    rw [if_neg HCA.out, HG.out, if_pos (by simpa using he)]
   simp only [ne_eq, he, not_false_eq_true, if_true] at CR
   have hne : ((er : Int) == 0) = false := by rw [beq_eq_false_iff_ne]; omega
   clear CS b1
   go_wp2_with fail
   refine CR.out.mono ?_
   rintro e w2 ⟨A, c, rfl, ho, b2⟩
   have HB2 := Lib.hid (HB1.out.trans (b2.mono HB1.out.size))
   clear CR ho b2
   simp only
   go_wp2
   go_ret2
   exact IsOpen.no HB2.out HO.out rfl
end
end Go.Proofs.YtiafeniflkikeaaGreat
namespace Go.Proofs.YtiafeniflkikeaaGreat
open Go.RowKit
set_option linter.unusedVariables false
def NoDisk (w : World) (v : Value) : Prop := v = .pointer none ∨ ∃ b, v = .pointer (some ⟨b, 0, none⟩) ∧ w.cell? ⟨b, 1, none⟩ = some (.map none)
section
variable {w : World} {v : Value}
set_option maxHeartbeats 1000000 in
set_option maxRecDepth 100000 in
theorem pmade_no (h : NoDisk w v) : Calls Tryz.prog 55 #[v] w (fun e w' => e = .returned (.bool false) ∧ w = w') := by
 rcases h with rfl | ⟨b, rfl, h⟩
 ·go_enter Tryz.func55, Tryz.ntmps55
  go_wp2
  go_ret
  exact ⟨rfl, rfl⟩
 ·exact pmade_cell none h
set_option maxHeartbeats 1000000 in
set_option maxRecDepth 100000 in
theorem prefusal_no (h : NoDisk w v) : Calls Tryz.prog 52 #[v] w (fun e w' => e = .returned (.int .i64 1) ∧ w = w') := by
 have C := Lib.hid (pmade_no h)
 clear h
 go_enter Tryz.func52, Tryz.ntmps52
 go_wp2_with fail
 refine C.out.mono ?_
 rintro e1 w1 ⟨rfl, rfl⟩
 clear C
 go_wp2
 go_ret
 exact ⟨rfl, rfl⟩
set_option maxHeartbeats 1000000 in
set_option maxRecDepth 100000 in
theorem pfind_no (h : NoDisk w v) (s : Value) : Calls Tryz.prog 53 #[v, s] w (fun e w' => e = .returned (.tuple #[.int .i64 0, .int .i64 1]) ∧ w = w') := by
 have C := Lib.hid (prefusal_no h)
 clear h
 go_enter Tryz.func53, Tryz.ntmps53
 go_wp2_with fail
 refine C.out.mono ?_
 rintro e1 w1 ⟨rfl, rfl⟩
 clear C
 go_wp2
 go_ret2
 exact ⟨rfl, rfl⟩
set_option maxHeartbeats 1000000 in
set_option maxRecDepth 100000 in
theorem psize_no (h : NoDisk w v) (s : Value) : Calls Tryz.prog 15 #[v, s] w (fun e w' => e = .returned (.tuple #[.int .i64 0, .int .i64 1]) ∧ w = w') := by
 have C := Lib.hid (pfind_no h s)
 clear h
 go_enter Tryz.func15, Tryz.ntmps15
 go_wp2_with fail
 refine C.out.mono ?_
 rintro e1 w1 ⟨rfl, rfl⟩
 clear C
 go_wp2
 go_ret2
 exact ⟨rfl, rfl⟩
end
end Go.Proofs.YtiafeniflkikeaaGreat
namespace Go.Proofs.YtiafeniflkikeaaGreat
open Go.RowKit
set_option linter.unusedVariables false
section
variable {w : World} {v : Value}
set_option maxHeartbeats 1000000 in
set_option maxRecDepth 100000 in
theorem pyopen_no (h : NoDisk w v) (name cache : Value) : Calls Tryz.prog 7 #[v, name, cache] w (fun e w' => e = .returned (.tuple #[.pointer none, .int .i64 1]) ∧ w = w') := by
 have C := Lib.hid (psize_no h name)
 clear h
 go_enter Tryz.func7, Tryz.ntmps7
 go_wp2_with fail
 refine C.out.mono ?_
 rintro e1 w1 ⟨rfl, rfl⟩
 clear C
 go_wp2
 go_ret2
 exact ⟨rfl, rfl⟩
theorem ppopen_nil (name : ByteArray) (cache : Int) (hn : name.size ≤ maxLen) (hc : I64 cache) : Calls Tryz.prog 7 #[.pointer none, .string name, .int .i64 cache] w (fun e w' => e = .returned (.tuple #[.pointer none, .int .i64 1]) ∧ Below w.heap.size w w') :=
 (pyopen_no (.inl rfl) _ _).mono (fun e w' ⟨h1, h2⟩ => ⟨h1, by rw [← h2]; exact Below.refl _ _⟩)
end
end Go.Proofs.YtiafeniflkikeaaGreat
namespace Go.Proofs.YtiafeniflkikeaaGreat
open Go.RowKit
set_option linter.unusedVariables false
section
variable {w w' : World} {fp fd : Fp} {s : Pp.S} {F : List Nat} {b bf U D P H last frm : Nat} {fP : Int → Option RawU} {fH fH' : Int → Option RawH} {t : Sf.St}
theorem PyHas.more (h : PyHas w fp s F b bf U D P H last frm fP fH) {k : Nat} (hk : s.turns ≤ k) : PyHas w fp { s with turns := k } F b bf U D P H last frm fP fH :=
 ⟨h.head, h.used, h.drop, h.pend, h.hand, h.hpend, h.there, h.hhand, h.few, Nat.le_trans h.last hk, h.from2, h.full, ⟨h.sound.root, h.sound.rise, h.sound.from2, h.sound.told, h.sound.big, h.sound.cache, h.sound.name⟩, h.m, h.r, h.sb, h.su, h.sd, h.sp⟩
theorem PyHas.kept {n : Int} {u : RawU} (h : PyHas w fp s F b bf U D P H last frm fP fH) (hk : IsKept b bf U D P H last frm s fH n u w w') (B : Nat → Prop) (hB : ∀ k, fp.R k → B k) (hB2 : ∀ k, B k → ¬ fp.M k ∧ k < w'.heap.size)
  (hx : ∃ x ∈ s.l, (x.n : Int) = n ∧ x.state ≠ 2) {kind : Nat} {body : List Nat} (hu : InB w' B u kind body) (hr : Pp.rdE F n.toNat = (kind, body, 0)) :
  ∃ fH', PyHas w' ⟨fp.M, B⟩ { s with turns := s.turns + 1 } F b bf U D P H (last + 1) frm fP fH' := by
 obtain ⟨fN, h1, h2, h3, h4, hT⟩ := hk
 have hmb := h.ms
 have hno : ∀ q, fp.R q → ¬ (q = b ∨ q = H) := fun q hq he => by
  rcases he with rfl | rfl
  ·exact (h.r _ hq).1 hmb.1
  ·exact (h.r _ hq).1 hmb.2.2.2.2
 refine ⟨fN, h1, h.used.turned_ hT (by have := h.sb; have := h.su; omega), h.drop.turned_ hT (by have := h.sb; have := h.sd; omega), h.pend.turned_ hT (by have := h.sb; have := h.sp; omega), h2, fun k c hc => ?_, h.there, fun k c hc => ?_, h4, Nat.add_le_add_right h.last 1, h.from2, h.full,
  ⟨h.sound.root, h.sound.rise, h.sound.from2, h.sound.told, h.sound.big, h.sound.cache, h.sound.name⟩, h.m, hB2, h.sb, h.su, h.sd, h.sp⟩
 ·obtain ⟨x, a1, a2, a3, a4⟩ := h.hpend k c hc
  exact ⟨x, a1, a2, a3, (a4.turned hT hno).more hB⟩
 ·rcases h3 k c hc with ⟨rfl, rfl⟩ | h5
  ·exact ⟨hx, by show (last : Int) + 1 ≤ ((last + 1 : Nat) : Int); omega, kind, body, hu, hr⟩
  ·obtain ⟨a1, a2, kd, bd, a3, a4⟩ := h.hhand k c h5
   exact ⟨a1, by omega, kd, bd, (a3.turned hT hno).more hB, a4⟩
def IsFound (fp : Fp) (s : Pp.S) (F : List Nat) (b bf : Nat) (r : Nat × List Nat × Nat) (w : World) (e : Ending) (w' : World) : Prop :=
 ∃ (u : RawU) (fp' : Fp), e = .returned (.tuple #[uV u, .int .i64 (r.2.2 : Nat)]) ∧ (r.2.2 = 0 → InB w' fp'.R u r.1 r.2.1) ∧ (r.2.2 ≠ 0 → r.1 = 0 ∧ r.2.1 = []) ∧ PPager w' fp' { s with turns := s.turns + 1 } F b bf ∧ fp.Next fp' w.heap.size ∧ Turned fp.M w w'
theorem IsFound.bad {r : Nat × List Nat × Nat} {er : Nat} {x : Int} (h : PyHas w fp s F b bf U D P H last frm fP fH) (hr : r = (0, [], er)) (he : er ≠ 0) (hx : x = (er : Int)) (hb : Below w.heap.size w w') :
  IsFound fp s F b bf r w (.returned (.tuple #[.agg #[.int .u8 0, .slice none 0 0], .int .i64 x])) w' := by
 subst hr hx
 exact ⟨⟨0, ⟨none, 0, 0⟩⟩, fp, rfl, fun h => absurd h he, fun _ => ⟨rfl, rfl⟩, ⟨_, _, _, _, _, _, _, _, (h.below hb).more (Nat.le_succ _)⟩, Fp.Next.refl _ _, (Turned.of_below hb).mono (fun q hq h => absurd hq (by omega))⟩
theorem place_read {k n : Nat} {name : ByteArray} (hd : t.dead = false) (hg : Sf.get t name = (k, 0)) (hF : Sf.now (Sf.fileAt t k) = F) :
  Sf.read t name ((512 * n : Nat) : Int) 512 = if F.length < 512 * n then ([], 2) else (Pp.pageOf F n, 0) := by
 unfold Sf.read Sf.len
 rw [hg, if_neg (by simp)]
 simp only [hF]
 by_cases h : F.length < 512 * n
 ·rw [if_pos h, if_pos (by omega)]
 ·rw [if_neg h, if_neg (by omega)]
  rfl
theorem getE_facts {n : Int} {k : Nat} {b c : List Nat} (hb : ∀ x ∈ b, x < 256) (h : Pg.getE n b = (k, c, 0)) : k < 256 ∧ c.length ≤ 496 := by
 by_cases h0 : n < 0 ∨ 65536 ≤ n
 ·rw [Pg.getE_arg h0] at h; simp at h
 by_cases h1 : b.length < 512
 ·rw [Pg.getE_short h0 h1] at h; simp at h
 by_cases h2 : 512 < b.length
 ·rw [Pg.getE_long h0 h1 h2] at h; simp at h
 by_cases h3 : b.take 4 = four (Cr.of (b.drop 4))
 ·by_cases h4 : 496 < Pg.size b
  ·rw [Pg.getE_size h0 h1 h2 h3 h4] at h; simp at h
  by_cases h5 : Pg.page n.toNat (b.getD 8 0) (Pg.body b) = b
  ·rw [Pg.getE_ok h0 h1 h2 h3 h4 h5] at h
   simp only [Prod.mk.injEq, and_true] at h
   obtain ⟨rfl, rfl⟩ := h
   refine ⟨?_, by unfold Pg.body; rw [List.length_take]; omega⟩
   rw [List.getD_eq_getElem?_getD, List.getElem?_eq_getElem (by omega)]
   exact hb _ (List.getElem_mem _)
  ·rw [Pg.getE_form h0 h1 h2 h3 h4 h5] at h; simp at h
 ·rw [Pg.getE_sum h0 h1 h2 h3] at h; simp at h
theorem rdE_read {n : Nat} (hn : n < 65536) (h : ¬ F.length < 512 * n) : Pp.rdE F n = Pg.getE n (Pp.pageOf F n) := by
 unfold Pp.rdE
 rw [if_neg h]
 split
 ·rename_i h2
  refine (Pg.getE_short (by omega) ?_).symm
  unfold Pp.pageOf
  rw [List.length_take, List.length_drop]
  omega
 ·rfl
end
section
variable {w : World} {fp fd : Fp} {s : Pp.S} {F : List Nat} {b bf U D P H last frm : Nat} {fP : Int → Option RawU} {fH : Int → Option RawH} {t : Sf.St}
set_option maxHeartbeats 4000000 in
set_option maxRecDepth 100000 in
theorem pyfetch_any (h : PyHas w fp s F b bf U D P H last frm fP fH) (hD : PDisk w fd t bf) (hd : t.dead = false) (k : Nat) (hg : Sf.get t s.name = (k, 0)) (hF : Sf.now (Sf.fileAt t k) = F) (htn : s.turns < 2305843009213693952) (n : Nat)
  (hx : ∃ x ∈ s.l, x.n = n ∧ x.state ≠ 2) :
  Calls Tryz.prog 104 #[.pointer (some ⟨b, 0, none⟩), .int .i64 (n : Nat)] w (IsFound fp s F b bf (Pp.rdE F n) w) := by
 have hn : n < 65536 := by obtain ⟨x, h1, h2, _⟩ := hx; have := h.sound.from2 x h1; omega
 obtain ⟨W, hW⟩ : ∃ W, w.alloc (.cells #[.int .u8 0, .slice none 0 0] 108) = W := ⟨_, rfl⟩
 have hb : Below w.heap.size w W := by rw [← hW]; exact (Below.refl _ _).alloc (Nat.le_refl _) _
 have hbd : Below w.heap.size w W.drew := below_drewN hb 1
 have HW0 : Hid (Rw W.drew w.heap.size 108 #[.int .u8 0, .slice none 0 0]) := by unfold Hid; rw [← hW]; exact Rw.new w _ _
 have hWD := pdisk_law.below hD hbd
 obtain ⟨X, hX⟩ : ∃ X, W.drew = X := ⟨_, rfl⟩
 rw [hX] at hbd HW0 hWD
 have HBX := Lib.hid hbd
 have HHX := Lib.hid (h.below hbd)
 have HC : Hid (∀ w', Below X.heap.size X w' → w'.cell? ⟨b, 0, none⟩ = some (.pointer (some ⟨bf, 0, none⟩)) ∧ w'.cell? ⟨b, 1, none⟩ = some (.string s.name)) := fun w' hw' =>
  ⟨(HHX.out.below hw').cell rfl, (HHX.out.below hw').cell rfl⟩
 have CP := Lib.hid (pyplace_any n (by omega) X)
 have CR := Lib.hid (pread_any hWD s.name h.sound.name ((512 * n : Nat) : Int) 512 (by unfold I64; omega) (by unfold I64; omega))
 rw [place_read hd hg hF] at CR
 obtain ⟨lb, eb, hre⟩ : ∃ lb eb, (if F.length < 512 * n then (([] : List Nat), 2) else (Pp.pageOf F n, 0)) = (lb, eb) := ⟨_, _, rfl⟩
 rw [hre] at CR
 have HRE := Lib.hid hre
 have hz2 := ct_built0
 have hct : (Tryz.prog.info? 108).map (·.size) = some (#[.int .u8 0, .slice none 0 0] : Array Value).size := ct_size
 have hone : (#[.int .u8 0, .slice none 0 0] : Array Value).all (·.oneCell') = true := by simp [Value.oneCell']
 have HH := Lib.hid h
 have HX := Lib.hid hx
 have HN := Lib.hid (And.intro hn htn)
 obtain ⟨nm, hnm⟩ : ∃ nm, s.name = nm := ⟨_, rfl⟩
 rw [hnm] at HC CR
 clear h hD hd hg hF htn hx hn hb hbd hWD hnm hre
 go_enter Tryz.func104, Tryz.ntmps104
 go_wp2_with fail
 refine wp_region_m (fun w' => Below X.heap.size X w') 16 (by kernel_rfl) ?_
 rw [hX]
 have hH : Below X.heap.size X X := Below.refl _ _
 refine zM (i := 0) (v := ?_) rfl (by kernel_rfl) (fun _ _ _ h => h) hH (Or.inl ⟨by rfl, (by intro w' hSw; have s0 := HC.out w' hSw; go_simp; first | done | with_reducible rfl)⟩) ?_
 try simp only [Act.put, zA, zC, zD, zE, zF]
 refine zM (i := 1) (v := ?_) rfl (by kernel_rfl) (fun _ _ _ h => h) hH (Or.inl ⟨by rfl, (by intro w' hSw; have s0 := HC.out w' hSw; go_simp; first | done | with_reducible rfl)⟩) ?_
 try simp only [Act.put, zA, zB, zC, zD, zE, zF]
 refine zM (i := 2) (v := ?_) rfl (by kernel_rfl) (fun _ _ _ h => h) hH (Or.inl ⟨by rfl, (by intro w' hSw; have s0 := HC.out w' hSw; go_simp; first | done | with_reducible rfl)⟩) ?_
 try simp only [Act.put, zA, zB, zC, zD, zE, zF]
 refine zM (i := 3) (v := ?_) rfl (by kernel_rfl) (fun _ _ _ h => h) hH (Or.inl ⟨by rfl, (by intro w' hSw; have s0 := HC.out w' hSw; go_simp; first | done | with_reducible rfl)⟩) ?_
 try simp only [Act.put, zA, zB, zC, zD, zE, zF]
 refine zM (i := 4) (v := ?_) rfl (by kernel_rfl) (fun _ _ _ h => h) hH (Or.inl ⟨by rfl, (by intro w' hSw; have s0 := HC.out w' hSw; go_simp; first | done | with_reducible rfl)⟩) ?_
 try simp only [Act.put, zA, zB, zC, zD, zE, zF]
 refine zM (i := 5) (v := ?_) rfl (by kernel_rfl) (fun _ _ _ h => h) hH (Or.inl ⟨by rfl, (by intro w' hSw; have s0 := HC.out w' hSw; go_simp; first | done | with_reducible rfl)⟩) ?_
 try simp only [Act.put, zA, zB, zC, zD, zE, zF]
 refine zM (i := 6) (v := ?_) rfl (by kernel_rfl) (fun _ _ _ h => h) hH (Or.inl ⟨by rfl, (by intro w' hSw; have s0 := HC.out w' hSw; go_simp; first | done | with_reducible rfl)⟩) ?_
 try simp only [Act.put, zA, zB, zC, zD, zE, zF]
 refine zM (i := 7) (v := ?_) rfl (by kernel_rfl) (fun _ _ _ h => h) hH (Or.inl ⟨by rfl, (by intro w' hSw; have s0 := HC.out w' hSw; go_simp; first | done | with_reducible rfl)⟩) ?_
 try simp only [Act.put, zA, zB, zC, zD, zE, zF]
 refine zM (i := 8) (v := ?_) rfl (by kernel_rfl) (fun _ _ _ h => h) hH (Or.inl ⟨by rfl, (by intro w' hSw; have s0 := HC.out w' hSw; go_simp; first | done | with_reducible rfl)⟩) ?_
 try simp only [Act.put, zA, zB, zC, zD, zE, zF]
 refine wpAnyM_next (i := 9) (by kernel_rfl) rfl (fun K hK => ?_)
 go_simp
 refine CP.out.mono ?_
 rintro e w1 ⟨rfl, rfl⟩
 refine hK.out _ _ (.inr hH) ?_
 clear hK K CP
 try simp only [Act.put, zA, zB, zC, zD, zE, zF]
 refine wpAnyM_next (i := 10) (by kernel_rfl) rfl (fun K hK => ?_)
 go_simp
 refine CR.out.mono ?_
 rintro e w2 ⟨A, c, rfl, ho, b2⟩
 refine hK.out _ _ (.inr b2) ?_
 clear hK K CR
 try simp only []
 refine zM (i := 11) (v := ?_) rfl (by kernel_rfl) (fun _ _ _ h => h) b2 (Or.inl ⟨by rfl, (by intro w' hSw; skip; go_simp; first | done | with_reducible rfl)⟩) ?_
 try simp only [Act.put, zA, zB, zC, zD, zE, zF]
 refine zM (i := 12) (v := ?_) rfl (by kernel_rfl) (fun _ _ _ h => h) b2 (Or.inl ⟨by rfl, (by intro w' hSw; skip; go_simp; first | done | with_reducible rfl)⟩) ?_
 try simp only [Act.put, zA, zB, zC, zD, zE, zF]
 refine zM (i := 13) (v := ?_) rfl (by kernel_rfl) (fun _ _ _ h => h) b2 (Or.inl ⟨by rfl, (by intro w' hSw; skip; go_simp; first | done | with_reducible rfl)⟩) ?_
 try simp only [Act.put, zA, zB, zC, zD, zE, zF]
 refine zM (i := 14) (v := ?_) rfl (by kernel_rfl) (fun _ _ _ h => h) b2 (Or.inl ⟨by rfl, (by intro w' hSw; skip; go_simp; first | done | with_reducible rfl)⟩) ?_
 try simp only [Act.put, zA, zB, zC, zD, zE, zF]
 refine zM (i := 15) (v := ?_) rfl (by kernel_rfl) (fun _ _ _ h => h) b2 (Or.inl ⟨by rfl, (by intro w' hSw; skip; go_simp; first | done | with_reducible rfl)⟩) ?_
 try simp only [Act.put, zA, zB, zC, zD, zE, zF]
 refine wpAnyM_done (by kernel_rfl) ?_ _
 have HO := Lib.hid ho
 have HB2 := Lib.hid b2
 have HW2 : Hid (Rw w2 w.heap.size 108 #[.int .u8 0, .slice none 0 0]) := HW0.out.below b2 HW0.out.lt
 have HH2 := Lib.hid (HHX.out.below b2)
 have HBW := Lib.hid (HBX.out.trans (b2.mono HBX.out.size))
 clear hH ho b2 hX hW
 by_cases he : eb = 0
 ·subst he
  have hlb : F.length < 512 * n ∨ (¬ F.length < 512 * n ∧ lb = Pp.pageOf F n) := by
   by_cases hc : F.length < 512 * n
   ·exact .inl hc
   ·have := HRE.out; rw [if_neg hc] at this; exact .inr ⟨hc, (Prod.mk.inj this).1.symm⟩
  have hlb : ¬ F.length < 512 * n ∧ lb = Pp.pageOf F n := by
   rcases hlb with hc | h
   ·have := HRE.out; rw [if_pos hc] at this; cases (Prod.mk.inj this).2
   ·exact h
  have HRD : Hid (Pp.rdE F n = Pg.getE (n : Nat) lb) := by unfold Hid; rw [hlb.2]; exact rdE_read HN.out.1 hlb.1
  have CG := Lib.hid (ppgget_any (n : Nat) (.slice A lb.length c) lb w2.heap.size w2 (HO.out.form_) (Nat.le_refl _))
  obtain ⟨kd, bd, eg, hge⟩ : ∃ kd bd eg, Pg.getE (n : Nat) lb = (kd, bd, eg) := ⟨_, _, _, rfl⟩
  rw [hge] at CG HRD
  have HGE := Lib.hid hge
  clear hge hlb
  go_wp2_with fail
  refine CG.out.mono ?_
  rintro e w3 ⟨A3, c3, rfl, ho3, b3⟩
  have HO3 := Lib.hid ho3
  have HW3 : Hid (Rw w3 w.heap.size 108 #[.int .u8 0, .slice none 0 0]) := HW2.out.below b3 HW2.out.lt
  have HH3 := Lib.hid (HH2.out.below b3)
  have HB3 := Lib.hid (HBW.out.trans (b3.mono HBW.out.size))
  clear CG ho3 b3
  simp only
  by_cases he : eg = 0
  ·subst he
   have hbt := ct_built kd A3 bd.length c3
   obtain ⟨Y0, hY0⟩ : ∃ Y, w3.alloc (.cells #[.int .u8 (kd : Nat), .slice A3 bd.length c3] 108) = Y := ⟨_, rfl⟩
   have hYr : Rw Y0 w3.heap.size 108 #[.int .u8 (kd : Nat), .slice A3 bd.length c3] := by rw [← hY0]; exact Rw.new w3 _ _
   have hYb : Below w3.heap.size w3 Y0 := by rw [← hY0]; exact (Below.refl _ _).alloc (Nat.le_refl _) _
   obtain ⟨Y, hY⟩ : ∃ Y, Y0.drew = Y := ⟨_, rfl⟩
   have HYR : Hid (Rw Y w3.heap.size 108 #[.int .u8 (kd : Nat), .slice A3 bd.length c3]) := by unfold Hid; rw [← hY]; exact hYr
   have HYB : Hid (Below w3.heap.size w3 Y) := by unfold Hid; rw [← hY]; exact below_drewN hYb 1
   have HHY := Lib.hid (HH3.out.below HYB.out)
   have k0 : Y.cell? ⟨w3.heap.size, 0, none⟩ = some (.int .u8 (kd : Nat)) := HYR.out.cell 0
   have k1 : Y.cell? ⟨w3.heap.size, 1, none⟩ = some (.slice A3 bd.length c3) := HYR.out.cell 1
   have CK := Lib.hid (pykeep_any HHY.out.head HHY.out.hand HHY.out.sb.2.2.2 HHY.out.small_hand HHY.out.few HHY.out.sound.cache (fun k c hc => (HHY.out.hhand k c hc).2.1) (by have := HHY.out.last; have := HN.out; omega) n HN.out.1 ⟨kd, ⟨A3, bd.length, c3⟩⟩)
   clear hYr hYb
   go_wp2_with ((with_reducible refine gate_build 108 ?_); refine wpList_build_atT rfl _ _ rfl _ hbt ?_)
   refine wp_region_m (fun w' => w' = Y) 5 (by kernel_rfl) ?_
   rw [hY]
   have hH : Y = Y := rfl
   refine zM (i := 0) (v := ?_) rfl (by kernel_rfl) (fun _ _ _ h => h) hH (Or.inl ⟨by rfl, (by intro w' hSw; rw [hSw]; go_simp; first | done | with_reducible rfl)⟩) ?_
   try simp only [Act.put, zA, zC, zD, zE, zF]
   refine zM (i := 1) (v := ?_) rfl (by kernel_rfl) (fun _ _ _ h => h) hH (Or.inl ⟨by rfl, (by intro w' hSw; rw [hSw]; go_simp; first | done | with_reducible rfl)⟩) ?_
   try simp only [Act.put, zA, zB, zC, zD, zE, zF]
   refine zM (i := 2) (v := ?_) rfl (by kernel_rfl) (fun _ _ _ h => h) hH (Or.inl ⟨by rfl, (by intro w' hSw; rw [hSw]; go_simp; first | done | with_reducible rfl)⟩) ?_
   try simp only [Act.put, zA, zB, zC, zD, zE, zF]
   refine zM (i := 3) (v := ?_) rfl (by kernel_rfl) (fun _ _ _ h => h) hH (Or.inl ⟨by rfl, (by intro w' hSw; rw [hSw]; go_simp; first | done | with_reducible rfl)⟩) ?_
   try simp only [Act.put, zA, zB, zC, zD, zE, zF]
   refine zM (i := 4) (v := ?_) rfl (by kernel_rfl) (fun _ _ _ h => h) hH (Or.inl ⟨by rfl, (by intro w' hSw; rw [hSw]; go_simp; first | done | with_reducible rfl)⟩) ?_
   try simp only [Act.put, zA, zB, zC, zD, zE, zF]
   refine wpAnyM_next (i := 5) (by kernel_rfl) rfl (fun K hK => ?_)
   go_simp
   refine CK.out.mono ?_
   rintro e w4 ⟨rfl, hkept⟩
   refine hK.out _ _ (.inl (Nat.le_refl _)) ?_
   clear hK K CK k0 k1 hH hbt hY hY0
   try simp only [Act.put, zA, zB, zC, zD, zE, zF]
   refine wpAnyM_done (by kernel_rfl) ?_ _
   have HKP : Hid (IsKept b bf U D P H last frm s fH (n : Int) ⟨kd, ⟨A3, bd.length, c3⟩⟩ Y w4) := hkept
   obtain ⟨fN, _, _, _, _, hT4⟩ := hkept
   have HT4 := Lib.hid hT4
   have hbl := HH.out.lts
   have hno : ∀ q, w.heap.size ≤ q → ¬ (q = b ∨ q = H) := fun q hq h => by omega
   have hs3 := HB3.out.size
   have HW4 : Hid (Rw w4 w.heap.size 108 #[.int .u8 0, .slice none 0 0]) := (hT4.block _ (HW3.out.below HYB.out HW3.out.lt).lt (hno _ (Nat.le_refl _))).trans (HW3.out.below HYB.out HW3.out.lt)
   have hK4 : Rw w4 w3.heap.size 108 #[.int .u8 (kd : Nat), .slice A3 bd.length c3] := (hT4.block _ HYR.out.lt (hno _ hs3)).trans HYR.out
   have k0 : w4.cell? ⟨w3.heap.size, 0, none⟩ = some (.int .u8 (kd : Nat)) := hK4.cell 0
   have k1 : w4.cell? ⟨w3.heap.size, 1, none⟩ = some (.slice A3 bd.length c3) := hK4.cell 1
   have hct2 : (Tryz.prog.info? 108).map (·.size) = some (#[.int .u8 (kd : Nat), .slice A3 bd.length c3] : Array Value).size := ct_size
   have hone2 : (#[.int .u8 (kd : Nat), .slice A3 bd.length c3] : Array Value).all (·.oneCell') = true := by simp [Value.oneCell']
   have hsz2 : (#[.int .u8 0, .slice none 0 0] : Array Value).size = (#[.int .u8 (kd : Nat), .slice A3 bd.length c3] : Array Value).size := rfl
   clear hno hs3 hbl hT4 hK4 hz2 hct hone
   go_wp2_with ((with_reducible refine gate_store 108 ?_); refine wpList_store_row rfl 108 _ _ rfl w.heap.size #[.int .u8 (kd : Nat), .slice A3 bd.length c3] rfl rfl 108 #[.int .u8 0, .slice none 0 0] HW4.out hct2 hsz2 hone2 ?_)
   have HR2 := Lib.hid (Rw.row HW4.out #[.int .u8 (kd : Nat), .slice A3 bd.length c3])
   have HX2 : Hid (Turned (fun q => q = w.heap.size) w4 (w4.setRow w.heap.size #[.int .u8 (kd : Nat), .slice A3 bd.length c3])) := (Turned.refl (fun q => q = w.heap.size) w4).setRow (fun _ => rfl) _
   generalize w4.setRow w.heap.size #[.int .u8 (kd : Nat), .slice A3 bd.length c3] = X2 at *
   try go_wp2
   refine bodyPost_ret (v := .tuple #[.agg #[.int .u8 (kd : Nat), .slice A3 bd.length c3], .int .i64 0]) (results_ct rfl _ _ w.heap.size #[.int .u8 (kd : Nat), .slice A3 bd.length c3] (.int .i64 0) _ rfl rfl rfl HR2.out) rfl ?_
   have hbl := HH.out.lts
   have hs2 : w.heap.size < w2.heap.size := HW2.out.lt
   have hs3 : w3.heap.size ≤ Y.heap.size := HYB.out.size
   have hs4 : Y.heap.size ≤ w4.heap.size := HT4.out.size
   have hown : ∀ k, (Value.slice A3 bd.length c3).ownBlock = some k → w2.heap.size ≤ k ∧ k < w3.heap.size := fun k hk => OwnL.lt_ HO3.out k hk
   have hf := getE_facts (fun x hx => HO.out.1 x hx) HGE.out
   have hno : ∀ q, w.heap.size ≤ q → ¬ (q = b ∨ q = H) := fun q hq h => by omega
   have hin : InB w4 (fun k => fp.R k ∨ (Value.slice A3 bd.length c3).ownBlock = some k) ⟨kd, ⟨A3, bd.length, c3⟩⟩ kd bd :=
    ⟨rfl, hf.1, (((HO3.out.form_).below_ HYB.out (Nat.le_refl _)).turnedB_ HT4.out (fun _ k hk => hno k (by have := hown k hk; omega))).mono_ (by omega), hf.2, fun _ k hk => .inr hk⟩
   have hMM : ∀ k, fp.M k → k < w.heap.size := fun k hk => HH.out.lt k (.inl hk)
   obtain ⟨fK, hK4⟩ := PyHas.kept HHY.out HKP.out (fun k => fp.R k ∨ (Value.slice A3 bd.length c3).ownBlock = some k) (fun k hk => .inl hk) (fun k hk => by
    rcases hk with hk | hk
    ·have := HH.out.r k hk
     have := HBW.out.size
     have := HO3.out.form_
     exact ⟨(HH.out.r k hk).1, by have := HB3.out.size; omega⟩
    ·have := hown k hk
     exact ⟨fun hm => by have := hMM k hm; omega, by omega⟩) (by obtain ⟨x, h1, h2, h3⟩ := HX.out; exact ⟨x, h1, by rw [h2], h3⟩) hin (by rw [Int.toNat_natCast]; exact HRD.out)
   have hK5 := hK4.turned HX2.out (fun q hq => by
    subst hq
    refine ⟨fun hm => by have := hMM _ hm; omega, fun hr => ?_⟩
    rcases hr with hr | hr
    ·have := (HH.out.r _ hr).2; omega
    ·have := hown _ hr; omega)
   rw [HRD.out]
   refine ⟨⟨kd, ⟨A3, bd.length, c3⟩⟩, ⟨fp.M, fun k => fp.R k ∨ (Value.slice A3 bd.length c3).ownBlock = some k⟩, rfl, fun _ => ?_, fun h => absurd rfl h, ⟨_, _, _, _, _, _, _, _, hK5⟩, ⟨fun k hk => .inl hk, fun k hk => hk.imp id (fun h => by have := hown k h; omega)⟩, ?_⟩
   ·refine hin.turned HX2.out (fun k hk he => ?_)
    subst he
    rcases hk with hr | hr
    ·have := (HH.out.r _ hr).2; omega
    ·have := hown _ hr; omega
   ·have hb4 : Turned fp.M w w4 := ((Turned.of_below (HB3.out.trans (HYB.out.mono HB3.out.size))).mono (G := fp.M) (fun q hq h => absurd hq (by omega))).trans HT4.out (fun q _ h => by rcases h with rfl | rfl; exact HH.out.ms.1; exact HH.out.ms.2.2.2.2)
    exact hb4.trans HX2.out (fun q hq h => absurd hq (by omega))
  ·have hge : kd = 0 ∧ bd = [] := Pg.getE_bad HGE.out he
   obtain ⟨rfl, rfl⟩ := hge
   have hne : ((eg : Int) == 0) = false := by rw [beq_eq_false_iff_ne]; omega
   have HNE := Lib.hid he
   clear he
   go_wp2_with (first
    | ((with_reducible refine gate_build 108 ?_); refine wpList_build_atT rfl _ _ rfl _ hz2 ?_)
    | ((with_reducible refine gate_store 108 ?_); refine wpList_store_row rfl 108 _ _ rfl w.heap.size #[.int .u8 0, .slice none 0 0] rfl rfl 108 #[.int .u8 0, .slice none 0 0] HW3.out hct rfl hone ?_))
   have HR2 := Lib.hid (And.intro (Rw.row HW3.out #[.int .u8 0, .slice none 0 0]) (below_setRow HB3.out (Nat.le_refl w.heap.size) #[.int .u8 0, .slice none 0 0]))
   generalize w3.setRow w.heap.size #[.int .u8 0, .slice none 0 0] = X2 at *
   try go_wp2
   refine bodyPost_ret (v := .tuple #[.agg #[.int .u8 0, .slice none 0 0], .int .i64 (eg : Nat)]) (results_ct rfl _ _ w.heap.size #[.int .u8 0, .slice none 0 0] (.int .i64 (eg : Nat)) _ rfl rfl rfl HR2.out.1) rfl ?_
   exact IsFound.bad HH.out HRD.out HNE.out rfl HR2.out.2
 ·have HEB : Hid (F.length < 512 * n ∧ eb = 2) := by
   by_cases hc : F.length < 512 * n
   ·have := HRE.out; rw [if_pos hc] at this; exact ⟨hc, (Prod.mk.inj this).2.symm⟩
   ·have := HRE.out; rw [if_neg hc] at this; exact absurd (Prod.mk.inj this).2.symm he
  have he2 := HEB.out.2
  subst he2
  clear he
  go_wp2_with (first
   | ((with_reducible refine gate_build 108 ?_); refine wpList_build_atT rfl _ _ rfl _ hz2 ?_)
   | ((with_reducible refine gate_store 108 ?_); refine wpList_store_row rfl 108 _ _ rfl w.heap.size #[.int .u8 0, .slice none 0 0] rfl rfl 108 #[.int .u8 0, .slice none 0 0] HW2.out hct rfl hone ?_))
  have HR2 := Lib.hid (And.intro (Rw.row HW2.out #[.int .u8 0, .slice none 0 0]) (below_setRow HBW.out (Nat.le_refl w.heap.size) #[.int .u8 0, .slice none 0 0]))
  generalize w2.setRow w.heap.size #[.int .u8 0, .slice none 0 0] = X2 at *
  try go_wp2
  refine bodyPost_ret (v := .tuple #[.agg #[.int .u8 0, .slice none 0 0], .int .i64 2]) (results_ct rfl _ _ w.heap.size #[.int .u8 0, .slice none 0 0] (.int .i64 2) _ rfl rfl rfl HR2.out.1) rfl ?_
  exact IsFound.bad HH.out (by unfold Pp.rdE; rw [if_pos HEB.out.1]) (by decide) rfl HR2.out.2
end
end Go.Proofs.YtiafeniflkikeaaGreat
