/- Parts of the proof. -/
import Derived.Test.YtiafeniflkikeaaGreatPm17
import Derived.Test.YtiafeniflkikeaaGreatPm21
import Derived.Test.YtiafeniflkikeaaGreatPm22
import Derived.Test.YtiafeniflkikeaaGreatPm03
import Derived.Test.YtiafeniflkikeaaGreatPm15
namespace Go.Proofs.YtiafeniflkikeaaGreat
open Go.RowKit
set_option linter.unusedVariables false
def Pp.made : List Nat := List.replicate 512 0 ++ Pg.page 1 1 (Rt.bys (Rt.nums Pa.new.root))
theorem py_first : Tryz.prog.built 34 [(0, .int .u64 1), (2, .int .i64 2), (4, .int .u64 1)] = some (rtC Pa.new.root) := by kernel_rfl
theorem Pp.may_first : Rt.May Pa.new.root := by unfold Rt.May Pa.new; decide +kernel
def noughts (n : Nat) : List Nat := List.replicate n 0
theorem noughts_len (n : Nat) : (noughts n).length = n := List.length_replicate
theorem wpList_make_nought (w : World) {ops : Array Oper} {rest : List Oper} {o : Oper} {a : Act} {Q : Exit → Act → World → Prop} (hg : o.guard = none) (lo co : Operand) (hop : o.op = Op.makeSlice 40 lo co)
  (base n : Nat) (L C : Int) (hl : a.eval lo = .int .i64 L) (hc : a.eval co = .int .i64 C) (hL : L = (n : Int)) (hC : C = (n : Int)) (h63 : n ≤ 1048576) (hbase : base ≤ w.heap.size)
  (hK : ∀ w', OwnL yK w' base (.slice (some ⟨w.heap.size, 0, none⟩) n n) (noughts n) → w.grownBy w' none → wpList Tryz.prog ops Q rest (a.put o.dst (.slice (some ⟨w.heap.size, 0, none⟩) n n)) w') : wpList Tryz.prog ops Q (o :: rest) a w :=
 wpList_make_l w yK hg lo co hop base .i64 .i64 L C n n hl hc hL hC (Nat.le_refl _) (by show 1 * _ ≤ _; omega) (by simp only [maxLen]; omega) hbase hK
set_option maxHeartbeats 2000000 in
set_option maxRecDepth 100000 in
theorem pyfirst_any (w : World) : Calls Tryz.prog 43 #[] w (IsL1 yK Pp.made w) := by
 obtain ⟨P, hP1, hP2, hP3⟩ := Rt.put_page Pp.may_first
 have hPe : P = Pg.page 1 1 (Rt.bys (Rt.nums Pa.new.root)) := (Pg.getE_put hP1).2.1
 have hPl : P.length = 512 := (Rt.page_len hP2).1
 have hfit : Rt.Fit Pa.new.root := ⟨by decide, by unfold I64; decide, by unfold I64; decide, by decide, by decide, by unfold I64; decide, by unfold I64; decide⟩
 have hbt := py_first
 obtain ⟨C, hC⟩ : ∃ C, rtC Pa.new.root = C := ⟨_, rfl⟩
 have hszC : (Tryz.prog.info? 34).map (·.size) = some C.size := by rw [← hC]; exact rt_size
 have honeC : C.all (·.oneCell') = true := by rw [← hC]; exact rtC_one _
 have hz7 := (zero_of_info (n := 7) rt_zero).1
 obtain ⟨N7, hN7⟩ : ∃ N, none7 = N := ⟨_, rfl⟩
 have hNC : N7.size = C.size := by rw [← hC, ← hN7]; rfl
 rw [hN7] at hz7
 rw [hC] at hbt
 have HP : Hid (∀ Y, Calls Tryz.prog 65 #[.agg C] Y (IsVE (P, 0) Y)) := fun Y => by
  have := prtput_any Pa.new.root Y hfit
  rw [hP2, hC] at this
  exact this
 have HPL : Hid (∀ Y, Calls Tryz.prog 67 #[.agg C] Y (fun e w' => e = .returned (.int .i64 1) ∧ Below Y.heap.size Y w')) := fun Y => by
  have := prtplace_any Pa.new.root Y hfit
  rw [hC] at this
  exact this
 have HPE := Lib.hid hPe
 have HPLn := Lib.hid hPl
 clear hP1 hP2 hP3 hPe hPl hC hN7 hfit
 obtain ⟨W, hW⟩ : ∃ W, w.alloc (.cells N7 34) = W := ⟨_, rfl⟩
 have HW0 : Hid (Rw W w.heap.size 34 N7) := by unfold Hid; rw [← hW]; exact Rw.new w _ _
 have HB0 : Hid (Below w.heap.size w W) := by unfold Hid; rw [← hW]; exact (Below.refl _ _).alloc (Nat.le_refl _) _
 obtain ⟨X, hX⟩ : ∃ X, W.setRow w.heap.size C = X := ⟨_, rfl⟩
 have HX0 : Hid (Rw X w.heap.size 34 C) := by unfold Hid; rw [← hX]; exact HW0.out.row C
 have HBX : Hid (Below w.heap.size w X) := by unfold Hid; rw [← hX]; exact below_setRow HB0.out (Nat.le_refl _) C
 have CP := Lib.hid (HP.out X)
 have HXE := Lib.hid hX
 clear hX
 go_enter Tryz.func43, Tryz.ntmps43
 go_wp2_with (first
  | ((with_reducible refine gate_build 34 ?_); refine wpList_build_atT rfl _ _ rfl C (by simp only [List.map_toArray, List.map_cons, List.map_nil]; exact hbt) ?_)
  | ((with_reducible refine gate_store 34 ?_); refine wpList_store_row rfl 34 _ _ rfl w.heap.size C rfl rfl 34 N7 HW0.out hszC hNC honeC ?_; rw [HXE.out])
  | ((with_reducible refine gate_load 34 ?_); refine wpList_load_row rfl 34 _ rfl w.heap.size rfl 34 C (0, 0) _ HX0.out Tryz.underlying34 rfl hszC ?_))
 refine CP.out.mono ?_
 rintro e w1 ⟨A, c, rfl, hv, b1⟩
 have HV := Lib.hid hv
 have HB1 := Lib.hid (HBX.out.trans (b1.mono HBX.out.size))
 have HX1 : Hid (Rw w1 w.heap.size 34 C) := HX0.out.below b1 HX0.out.lt
 clear CP hv b1
 go_wp2_with (at_make; refine wpList_make_nought _ rfl _ _ rfl w.heap.size 1024 _ _ rfl rfl rfl rfl (by omega) HB1.out.size ?_)
 intro w2 hO hg
 have HO := Lib.hid hO
 have HB2 : Hid (Below w.heap.size w w2) := HB1.out.grown hg HB1.out.size (fun j hj => by cases hj)
 have HX2 : Hid (Rw w2 w.heap.size 34 C) := (hg.block _ HX1.out.lt (by simp)).trans HX1.out
 have HV2 : Hid (Lv yK w2 w1.heap.size (.slice A P.length c) P) := HV.out.form_.below_ (⟨hg.os, hg.tape, hg.output, hg.size, fun k hk => hg.block k hk (by simp)⟩ : Below w1.heap.size w1 w2) (Nat.le_refl _)
 have CQ := Lib.hid (HPL.out w2)
 have HG := Lib.hid hg
 clear hO hg
 go_wp2_with ((with_reducible refine gate_load 34 ?_); refine wpList_load_row rfl 34 _ rfl w.heap.size rfl 34 C (0, 0) _ HX2.out Tryz.underlying34 rfl hszC ?_)
 refine CQ.out.mono ?_
 rintro e w3 ⟨rfl, b3⟩
 have CL := Lib.hid (pyplace_any 1 (by omega) w3)
 have HO3 : Hid (OwnL yK w3 w.heap.size (.slice (some ⟨w1.heap.size, 0, none⟩) 1024 1024) (noughts 1024)) := HO.out.below_ b3 (Nat.le_refl _)
 have HB3 := Lib.hid (HB2.out.trans (b3.mono HB2.out.size))
 have hs12 := HG.out.size
 have HV3 : Hid (Lv yK w3 w1.heap.size (.slice A P.length c) P) := HV2.out.below_ b3 hs12
 obtain ⟨A', w4, h1, h2, h3, h4, h5⟩ := copy_at HO3.out 512 (by rw [noughts_len]; omega) HV3.out
 have hmin : Nat.min P.length (1024 - 512) = 512 := by rw [HPLn.out]; rfl
 rw [noughts_len, hmin] at h3 h4
 clear hmin
 have HO4 := Lib.hid h4
 have HB4 : Hid (Below w.heap.size w w4) := HB3.out.grown h5 HB3.out.size (fun j hj => (OwnL.lt_ HO3.out j hj).1)
 change ∀ w, (Instr.slice 40 (.slice (some ⟨w1.heap.size, 0, none⟩) 1024 1024) (some (.int .i64 512)) none none).run Tryz.prog w = .ok (.slice A' 512 512) w at h1
 have h2' : ∀ w, (Instr.sliceAt 40 (.slice (some ⟨w1.heap.size, 0, none⟩) 1024 1024) (some (.int .i64 512)) none none).run Tryz.prog w = .ok (.slice A' 512 512) w := h2
 change (Builtin.copy_ #[40, 40] 3 #[.slice A' 512 512, .slice A P.length c]).run Tryz.prog w3 = .ok (.int .i64 512) w4 at h3
 clear CQ b3 h2 h4 h5 hs12 HV2 HX2 HX1 hW
 go_wp2_with fail
 refine CL.out.mono ?_
 rintro e w5 ⟨rfl, rfl⟩
 simp only [Nat.mul_one]
 clear CL
 go_wp2
 go_ret
 have hml : Pp.made.length = 1024 := by
  unfold Pp.made
  rw [← HPE.out, List.length_append, HPLn.out, List.length_replicate]
 have hme : (noughts 1024).take 512 ++ P.take 512 ++ (noughts 1024).drop (512 + 512) = Pp.made := by
  have eP : P.take 512 = P := List.take_of_length_le (by rw [HPLn.out]; omega)
  have eN : (noughts 1024).drop (512 + 512) = [] := List.drop_of_length_le (by rw [noughts_len]; omega)
  rw [eP, eN, List.append_nil]
  unfold noughts Pp.made
  rw [List.take_replicate, ← HPE.out]
  rfl
 have h := HO4.out
 rw [hme] at h
 refine ⟨_, 1024, by rw [hml]; rfl, ?_, HB4.out⟩
 rw [hml]
 exact h
end Go.Proofs.YtiafeniflkikeaaGreat
namespace Go.Proofs.YtiafeniflkikeaaGreat.Sf
open Go.RowKit
set_option linter.unusedVariables false
theorem get_dead {t : St} (h : t.dead = true) (s : ByteArray) : get t s = (0, 13) := by unfold get; rw [if_pos h]
theorem blown_acts (t : St) : (blown t).2.acts = t.acts + 1 := by
 unfold blown
 split
 ·rfl
 ·split <;> rfl
end Go.Proofs.YtiafeniflkikeaaGreat.Sf
namespace Go.Proofs.YtiafeniflkikeaaGreat
open Go.RowKit
set_option linter.unusedVariables false
theorem equalIn_map_nil (w : World) (d : Nat) (t k e : TypeId) (p : Option Nat) (h : Tryz.prog.underlying t = some (.map k e)) : (Op.equalIn (d + 1) t (.map p) (.map none)).run Tryz.prog w = .ok p.isNone w := by
 cases p <;> simp [Op.equalIn, run_underlying h]
theorem neq_map_nil (w : World) (t k e : TypeId) (p : Option Nat) (h : Tryz.prog.underlying t = some (.map k e)) : (binOp .neq t (.map p) (.map none)).run Tryz.prog w = .ok (.bool (!p.isNone)) w := by
 simp only [binOp]
 simp [show Op.equal t (.map p) (.map none) = Op.equalIn (9999 + 1) t (.map p) (.map none) from rfl, equalIn_map_nil w 9999 t k e p h]
theorem eql_map_nil (w : World) (t k e : TypeId) (p : Option Nat) (h : Tryz.prog.underlying t = some (.map k e)) : (binOp .eql t (.map p) (.map none)).run Tryz.prog w = .ok (.bool p.isNone) w := by
 simp only [binOp]
 simp [show Op.equal t (.map p) (.map none) = Op.equalIn (9999 + 1) t (.map p) (.map none) from rfl, equalIn_map_nil w 9999 t k e p h]
theorem head_cellP {w : World} {b : Nat} {C : Array Value} (h : IsHead w b C) {j : Nat} {u : Value} (hj : C[j]? = some u) : w.cell? ⟨b, j, none⟩ = some u := by
 rw [cell_of_row _ b j _ _ _ h]; exact hj
theorem head_setP {w : World} {b : Nat} {C C' : Array Value} (h : IsHead w b C) (j : Nat) (u : Value) (hC : C.set! j u = C') : IsHead (w.setCell ⟨b, j, none⟩ u) b C' := by
 unfold IsHead
 rw [heap_setCell_same w b j _ _ u h, ← hC]
 rfl
section
variable {w : World} {b : Nat}
set_option maxHeartbeats 1000000 in
set_option maxRecDepth 100000 in
theorem pmade_cell (m : Option Nat) (h : w.cell? ⟨b, 1, none⟩ = some (.map m)) : Calls Tryz.prog 55 #[.pointer (some ⟨b, 0, none⟩)] w (fun e w' => e = .returned (.bool m.isSome) ∧ w = w') := by
 have hq := fun w => neq_map_nil w 66 _ _ m Tryz.underlying66
 go_enter Tryz.func55, Tryz.ntmps55
 go_wp2
 go_ret
 exact ⟨rfl, rfl⟩
set_option maxHeartbeats 1000000 in
set_option maxRecDepth 100000 in
theorem prefusal_cell (m : Nat) (h : w.cell? ⟨b, 1, none⟩ = some (.map (some m))) (d : Bool) (h8 : w.cell? ⟨b, 8, none⟩ = some (.bool d)) :
  Calls Tryz.prog 52 #[.pointer (some ⟨b, 0, none⟩)] w (fun e w' => e = .returned (.int .i64 (if d then 13 else 0)) ∧ w = w') := by
 have CM := Lib.hid (pmade_cell (some m) h)
 cases d with
 | true =>
  go_enter Tryz.func52, Tryz.ntmps52
  go_wp2_with fail
  refine CM.out.mono ?_
  rintro e1 w1 ⟨rfl, rfl⟩
  clear CM
  go_wp2
  go_ret
  exact ⟨rfl, rfl⟩
 | false =>
  go_enter Tryz.func52, Tryz.ntmps52
  go_wp2_with fail
  refine CM.out.mono ?_
  rintro e1 w1 ⟨rfl, rfl⟩
  clear CM
  go_wp2
  go_ret
  exact ⟨rfl, rfl⟩
end
section
variable {w : World} {fp : Fp} {s : Nat} {t : Sf.St} {b : Nat} {who : Who} {bf bs bn : Nat} {vr : Sl} {ff : Int → Option RawX} {rn : List RawN}
theorem prefusal_disk (h : PHas w fp s t b who bf bs bn vr ff rn) : Calls Tryz.prog 52 #[.pointer (some ⟨b, 0, none⟩)] w (fun e w' => e = .returned (.int .i64 (if t.dead then 13 else 0)) ∧ w = w') :=
 prefusal_cell bf (h.cell rfl) t.dead (h.cell rfl)
set_option maxHeartbeats 1000000 in
set_option maxRecDepth 100000 in
theorem pfind_disk (h : PHas w fp s t b who bf bs bn vr ff rn) (u : ByteArray) (hu : u.size ≤ maxLen) :
  Calls Tryz.prog 53 #[.pointer (some ⟨b, 0, none⟩), .string u] w (fun e w' => e = .returned (.tuple #[.int .i64 ((Sf.get t u).1 : Nat), .int .i64 ((Sf.get t u).2 : Nat)]) ∧ w = w') := by
 have CR := Lib.hid (prefusal_disk h)
 have h5 : w.cell? ⟨b, 5, none⟩ = some (.map (some bn)) := h.cell rfl
 have hl := h.body.names.look_ok (x := u) hu
 change (Instr.lookup 68 (.map (some bn)) (.string u) true).run Tryz.prog w = .ok (.tuple #[.int .i64 ((Sf.dirF t.seen u).getD 0), .bool (Sf.dirF t.seen u).isSome]) w at hl
 clear h
 cases hd : t.dead with
 | true =>
  have HE := Lib.hid (Sf.get_dead hd u)
  rw [hd] at CR
  clear hd hl
  go_enter Tryz.func53, Tryz.ntmps53
  go_wp2_with fail
  refine CR.out.mono ?_
  rintro e1 w1 ⟨rfl, rfl⟩
  clear CR
  go_wp2
  go_ret2
  rw [HE.out]
  exact ⟨rfl, rfl⟩
 | false =>
  rw [hd] at CR
  cases hf : Sf.find t.seen u with
  | none =>
   have HE : Hid (Sf.get t u = (0, 7)) := by unfold Hid Sf.get; rw [hd, hf]; rfl
   have e1 : Sf.dirF t.seen u = none := by unfold Sf.dirF; rw [hf]; rfl
   rw [e1] at hl
   clear hd hf e1
   go_enter Tryz.func53, Tryz.ntmps53
   go_wp2_with fail
   refine CR.out.mono ?_
   rintro e1 w1 ⟨rfl, rfl⟩
   clear CR
   go_wp2
   go_ret2
   rw [HE.out]
   exact ⟨rfl, rfl⟩
  | some n =>
   have HE : Hid (Sf.get t u = (n, 0)) := by unfold Hid Sf.get; rw [hd, hf]; rfl
   have e1 : Sf.dirF t.seen u = some (n : Int) := by unfold Sf.dirF; rw [hf]; rfl
   rw [e1] at hl
   clear hd hf e1
   go_enter Tryz.func53, Tryz.ntmps53
   go_wp2_with fail
   refine CR.out.mono ?_
   rintro e1 w1 ⟨rfl, rfl⟩
   clear CR
   go_wp2
   go_ret2
   rw [HE.out]
   exact ⟨rfl, rfl⟩
end
end Go.Proofs.YtiafeniflkikeaaGreat
namespace Go.Proofs.YtiafeniflkikeaaGreat
open Go.RowKit
set_option linter.unusedVariables false
section
variable {w : World} {fp : Fp} {s : Nat} {t : Sf.St} {b : Nat} {who : Who} {bf bs bn : Nat} {vr : Sl} {ff : Int → Option RawX} {rn : List RawN}
set_option maxHeartbeats 2000000 in
set_option maxRecDepth 100000 in
theorem pact_head (h : IsHead w b (headP t bf bs bn vr)) (ha : t.acts ≤ 4398046511104) (hf : t.fuse < 9223372036854775808) :
  Calls Tryz.prog 86 #[.pointer (some ⟨b, 0, none⟩)] w (fun e w' => e = .returned (.int .i64 ((Sf.blown t).1 : Nat)) ∧ IsHead w' b (headP (Sf.blown t).2 bf bs bn vr) ∧ Turned (fun k => k = b) w w') := by
 have d6 : w.cell? ⟨b, 6, none⟩ = some (.int .i64 (t.acts : Nat)) := head_cellP h rfl
 have z6 : w.frozen? ⟨b, 6, none⟩ = false := frozen_of_row w b 6 _ _ h
 have wa : IntKind.i64.wrap ((t.acts : Int) + 1) = (t.acts : Int) + 1 := by rw [IntKind.wrap_i64]; omega
 have na : ((t.acts + 1 : Nat) : Int) = (t.acts : Int) + 1 := by omega
 have h1 := head_setP h 6 (.int .i64 ((t.acts : Int) + 1)) (C' := headP { t with acts := t.acts + 1 } bf bs bn vr) (by unfold headP; rw [← na]; rfl)
 have T1 : Turned (fun k => k = b) w (w.setCell ⟨b, 6, none⟩ (.int .i64 ((t.acts : Int) + 1))) := Turned.setCell (F := fun k => k = b) (Turned.refl (fun k => k = b) w) (p := ⟨b, 6, none⟩) (fun _ => rfl) _
 obtain ⟨w1, hw1⟩ : ∃ w1, w.setCell ⟨b, 6, none⟩ (.int .i64 ((t.acts : Int) + 1)) = w1 := ⟨_, rfl⟩
 rw [hw1] at h1 T1
 have d7 : w1.cell? ⟨b, 7, none⟩ = some (.int .i64 (t.fuse : Nat)) := head_cellP h1 rfl
 have z7 : w1.frozen? ⟨b, 7, none⟩ = false := frozen_of_row w1 b 7 _ _ h1
 have HH1 := Lib.hid h1
 have HT1 := Lib.hid T1
 clear h h1 T1 na
 by_cases h0 : t.fuse = 0
 ·have hz : ((t.fuse : Int) == 0) = true := by rw [beq_iff_eq]; omega
  have HE : Hid (Sf.blown t = (0, { t with acts := t.acts + 1 })) := if_pos h0
  clear h0
  go_enter Tryz.func86, Tryz.ntmps86
  go_wp2
  go_ret
  rw [HE.out]
  exact ⟨rfl, HH1.out, HT1.out⟩
 ·have hz : ((t.fuse : Int) == 0) = false := by rw [beq_eq_false_iff_ne]; omega
  have wf : IntKind.i64.wrap ((t.fuse : Int) - 1) = (t.fuse : Int) - 1 := by rw [IntKind.wrap_i64]; omega
  have nf : ((t.fuse - 1 : Nat) : Int) = (t.fuse : Int) - 1 := by omega
  have h2 := head_setP HH1.out 7 (.int .i64 ((t.fuse : Int) - 1)) (C' := headP { t with acts := t.acts + 1, fuse := t.fuse - 1 } bf bs bn vr) (by unfold headP; rw [← nf]; rfl)
  have T2 := Turned.setCell (F := fun k => k = b) HT1.out (p := ⟨b, 7, none⟩) (fun _ => rfl) (.int .i64 ((t.fuse : Int) - 1))
  obtain ⟨w2, hw2⟩ : ∃ w2, w1.setCell ⟨b, 7, none⟩ (.int .i64 ((t.fuse : Int) - 1)) = w2 := ⟨_, rfl⟩
  rw [hw2] at h2 T2
  have d72 : w2.cell? ⟨b, 7, none⟩ = some (.int .i64 ((t.fuse : Int) - 1)) := by rw [← nf]; exact head_cellP h2 rfl
  have z8 : w2.frozen? ⟨b, 8, none⟩ = false := frozen_of_row w2 b 8 _ _ h2
  have d8 : w2.cell? ⟨b, 8, none⟩ = some (.bool t.dead) := head_cellP h2 rfl
  have HH2 := Lib.hid h2
  have HT2 := Lib.hid T2
  clear h2 T2 nf
  by_cases h1 : t.fuse = 1
  ·have hq : ¬ (0 : Int) < (t.fuse : Int) - 1 := by omega
   have HE : Hid (Sf.blown t = (13, { t with acts := t.acts + 1, fuse := 0, dead := true })) := by unfold Hid Sf.blown; rw [if_neg h0, if_pos h1]
   have h3 := head_setP HH2.out 8 (.bool true) (C' := headP { t with acts := t.acts + 1, fuse := 0, dead := true } bf bs bn vr) (by unfold headP; simp only [h1]; rfl)
   have T3 := Turned.setCell (F := fun k => k = b) HT2.out (p := ⟨b, 8, none⟩) (fun _ => rfl) (.bool true)
   have HH3 := Lib.hid h3
   have HT3 := Lib.hid T3
   clear h0 h1 h3 T3
   go_enter Tryz.func86, Tryz.ntmps86
   go_wp2
   go_ret
   rw [HE.out]
   exact ⟨rfl, HH3.out, HT3.out⟩
  ·have hq : (0 : Int) < (t.fuse : Int) - 1 := by omega
   have HE : Hid (Sf.blown t = (0, { t with acts := t.acts + 1, fuse := t.fuse - 1 })) := by unfold Hid Sf.blown; rw [if_neg h0, if_neg h1]
   clear h0 h1
   go_enter Tryz.func86, Tryz.ntmps86
   go_wp2
   go_ret
   rw [HE.out]
   exact ⟨rfl, HH2.out, HT2.out⟩
theorem GoodS.blown (h : GoodS (s + 1) t) (ha : t.acts < 1099511627776) : GoodS s (Sf.blown t).2 := by
  have e : ∀ u : Sf.St, u.room = t.room → u.files = t.files → u.sure = t.sure → u.seen = t.seen → u.row = t.row → u.acts = t.acts + 1 → u.fuse ≤ t.fuse → GoodS s u := fun u h1 h2 h3 h4 h5 h6 h7 =>
    ⟨by rw [h1]; exact h.room, by rw [h2, h6]; have := h.files; omega, by rw [h5, h6]; have := h.rows; omega, by rw [h6]; omega, by have := h.fuse; omega, by rw [h3]; exact h.sure, by rw [h4]; exact h.seen, by rw [h5]; exact h.row,
     fun d hd => by rw [h2]; rw [h3, h4, h5] at hd; exact h.lens d hd, by rw [h4]; exact h.nums, fun f hf => by rw [h2] at hf; rw [h6]; have := h.frow f hf; omega⟩
  unfold Sf.blown
  split
  · exact e _ rfl rfl rfl rfl rfl rfl (Nat.le_refl _)
  · split
    · exact e _ rfl rfl rfl rfl rfl rfl (Nat.zero_le _)
    · exact e _ rfl rfl rfl rfl rfl rfl (Nat.sub_le _ _)
theorem pblown_same (t : Sf.St) : (Sf.blown t).2.files = t.files ∧ (Sf.blown t).2.sure = t.sure ∧ (Sf.blown t).2.seen = t.seen ∧ (Sf.blown t).2.row = t.row ∧ (Sf.blown t).2.room = t.room ∧ (Sf.blown t).2.acts = t.acts + 1 := by
 unfold Sf.blown
 split
 ·exact ⟨rfl, rfl, rfl, rfl, rfl, rfl⟩
 ·split <;> exact ⟨rfl, rfl, rfl, rfl, rfl, rfl⟩
theorem PBody.congr {u : Sf.St} {q : Nat} (h : PBody w who s t bf bs bn vr ff rn) (h1 : u.files = t.files) (h2 : u.sure = t.sure) (h3 : u.seen = t.seen) (h4 : u.row = t.row) (h5 : t.acts + s ≤ u.acts + q) : PBody w who q u bf bs bn vr ff rn :=
  ⟨h.files.mono_ (by omega), by rw [h3]; exact h.names.mono_ (by omega), by rw [h2]; exact h.sure.mono_ (by omega), h.row, by rw [h4, h2]; exact h.hrow, by rw [h3, h2]; exact h.hseen, fun hr => h.nil (by rw [← h4]; exact hr),
   fun i x hx => by rw [h1]; exact h.file i x hx, fun n hn => h.there n (by
     obtain ⟨d, hd, he⟩ := hn
     rw [h2, h3, h4] at hd
     exact ⟨d, hd, he⟩), h.filesW, h.namesW, h.sureW, h.rowW⟩
theorem pact_disk (h : PHas w fp (s + 1) t b who bf bs bn vr ff rn) (ha : t.acts < 1099511627776) :
  Calls Tryz.prog 86 #[.pointer (some ⟨b, 0, none⟩)] w (fun e w' => e = .returned (.int .i64 ((Sf.blown t).1 : Nat)) ∧ PHas w' fp s (Sf.blown t).2 b who bf bs bn vr ff rn ∧ Turned (fun k => k = b) w w') := by
 refine (pact_head h.head (by omega) h.good.fuse).mono ?_
 rintro e w' ⟨rfl, h1, hT⟩
 obtain ⟨e1, e2, e3, e4, e5, e6⟩ := pblown_same t
 refine ⟨rfl, ⟨h1, (h.body.turned hT fun k hk => .inr (by rw [hk]; exact h.mine)).congr e1 e2 e3 e4 (by omega), h.good.blown ha, h.mine, h.m, h.r, fun k hk => Nat.lt_of_lt_of_le (h.lt k hk) hT.size⟩, hT⟩
theorem turned_mine (h : PHas w fp s t b who bf bs bn vr ff rn) {w' : World} (hT : Turned (fun k => k = b) w w') : Turned fp.M w w' := hT.mono fun k _ hk => (h.m k).2 (by rw [hk, h.mine]; rfl)
end
end Go.Proofs.YtiafeniflkikeaaGreat
