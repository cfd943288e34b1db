/- Parts of the proof. -/
import Derived.Test.YtiafeniflkikeaaGreatPk46
import Derived.Test.YtiafeniflkikeaaGreatPk04
import Derived.Test.YtiafeniflkikeaaGreatPk05
import Derived.Test.YtiafeniflkikeaaGreatPk14
import Derived.Test.YtiafeniflkikeaaGreatPk09
import Derived.Test.YtiafeniflkikeaaGreatPk45
namespace Go.Proofs.YtiafeniflkikeaaGreat
open Go.RowKit
set_option linter.unusedVariables false
theorem wpList_load_midP {P : Program} {ops : Array Oper} {rest : List Oper} {op : Oper} {a : Act} {w : World} {Q : Exit → Act → World → Prop} (hgd : op.guard = none) (ty : TypeId) (x : Operand) (ho : op.op = .load ty x)
  (b o : Nat) (hx : a.eval x = .pointer (some ⟨b, o, none⟩)) (cs : Array Value) (d : TypeDesc) (hc : w.rangeAt b o cs.toList)
  (hu : P.underlying ty = some d) (hd : d.isRow = true) (hi : (P.info? ty).map (·.size) = some cs.size)
  (h : wpList P ops Q rest (a.put op.dst (.agg cs)) w) : wpList P ops Q (op :: rest) a w :=
 wpList_load_mid hgd ty x ho b o hx cs.toList d hc hu hd (by simpa using hi) (by simpa using h)
theorem Pp.All.step2 {w w1 w2 w3 X : World} {fp fd f2 d2 : Fp} {s s1 : Pp.S} {F F1 : List Nat} {t t1 : Sf.St} {k b bf : Nat} {R G : Nat → Prop} {v v3 : Value} {m m' : Pa.M} (h : Pp.All w fp fd s F t k b bf R v m) (hb : Below w.heap.size w w1)
  (hP2 : PPager w2 f2 s1 F1 b bf) (hN2 : fp.Next f2 w1.heap.size) (hD2 : PDisk w2 d2 t1 bf) (hM2 : fd.Next d2 w1.heap.size) (hap : f2.Apart d2) (hT2 : Turned (fun q => fp.M q ∨ fd.M q) w1 w2)
  (hn : s1.name = s.name) (hc : s1.cache = s.cache) (hg : Pp.Goes s1 F1 m') (hw : Pp.Well t1 s.name k F1) (hro : t1.room = t.room) (hac : Pp.cost s1 t1 ≤ Pp.cost s t + 200000)
  (hv : PaIs w3 (RX R w2 w3) v3 m') (b3 : Below w2.heap.size w2 w3) (hX : Turned G w3 X) (hG : ∀ q, G q → (w.heap.size ≤ q ∧ q < w1.heap.size) ∨ w3.heap.size ≤ q) :
  IsStep R fp fd s t k b bf m' w (.returned (.tuple #[v3, .bool true])) X := by
 have hlp : fp.Lt w.heap.size := ppager_lt h.pager
 have hld : fd.Lt w.heap.size := pdisk_law.lt h.disk
 have hl2 : f2.Lt w2.heap.size := ppager_lt hP2
 have hd2 : d2.Lt w2.heap.size := pdisk_law.lt hD2
 have s1' := hb.size
 have s2 := hT2.size
 have s3 := b3.size
 have s4 := hX.size
 have off : ∀ (f f' : Fp), f.Lt w.heap.size → f.Next f' w1.heap.size → f'.Lt w2.heap.size → f'.Off G := fun f f' h1 h2 h3 q hq => by
  rcases hG q hq with hq | hq
  ·exact ⟨fun hm => (h2.m q hm).elim (fun h => by have := h1 q (.inl h); omega) (fun h => by omega), fun hm => (h2.r q hm).elim (fun h => by have := h1 q (.inr h); omega) (fun h => by omega)⟩
  ·exact ⟨fun hm => by have := h3 q (.inl hm); omega, fun hm => by have := h3 q (.inr hm); omega⟩
 refine ⟨_, RX R w2 w3, s1, F1, t1, f2, d2, rfl, ⟨?_, ?_, hap, ?_, ?_, ?_, ?_, hg, by rw [hn]; exact hw, ?_⟩, hn, hc, (Fp.Next.refl fp w.heap.size).trans hN2 s1', (Fp.Next.refl fd w.heap.size).trans hM2 s1', ?_, hro, hac, fun q hq => hq.imp_right (fun h => by omega)⟩
 ·exact ppager_turned (ppager_turned hP2 (Turned.of_below b3) (hl2.off fun _ h => h)) hX (off _ _ hlp hN2 hl2)
 ·exact pdisk_law.turned (pdisk_law.below hD2 b3) hX (off _ _ hld hM2 hd2)
 ·refine hv.turned_ hX (fun q hq hf => ?_)
  have h1 := hG q hf
  rcases hq with hq | hq
  ·have := h.old q hq; omega
  ·omega
 ·intro q hq
  rcases hq with hq | hq
  ·have := h.old q hq; omega
  ·omega
 ·intro q hq hm
  rcases hq with hq | hq
  ·rcases hN2.m q hm with h5 | h5
   ·exact h.offp q hq h5
   ·have := h.old q hq; omega
  ·have := hl2 q (.inl hm); omega
 ·intro q hq hm
  rcases hq with hq | hq
  ·rcases hM2.m q hm with h5 | h5
   ·exact h.offd q hq h5
   ·have := h.old q hq; omega
  ·have := hd2 q (.inl hm); omega
 ·exact Nat.le_trans hg.ok.few (by omega)
 ·have h0 : Turned (fun q => fp.M q ∨ fd.M q) w w1 := (Turned.of_below hb).mono (fun q h1 h2 => by omega)
  have h1 := h0.trans hT2 (fun q _ h => h)
  have h2 := h1.trans (Turned.of_below b3) (fun q hq h => by omega)
  exact h2.trans hX (fun q hq h => by have := hG q h; omega)
set_option maxHeartbeats 2000000 in
set_option maxRecDepth 100000 in
theorem pstep_commit {w : World} {fp fd : Fp} {s : Pp.S} {F : List Nat} {t : Sf.St} {k b bf : Nat} {R : Nat → Prop} {v : Value} {m : Pa.M} (h : Pp.All w fp fd s F t k b bf R v m) (x : RawT) (a : Pa.Act) (free : Int) (hx : RawTOk x) (ha : a.n = x.n ∧ a.any = x.any) (har : a.root = x.root) (hfr : free = (t.room : Int) - Sf.used t) (hfi : I64 free) (hac : Pp.cost s t ≤ 1099511300000) (hd : x.do_ = 2) :
  Calls Tryz.prog 13 #[.pointer (some ⟨b, 0, none⟩), v, .agg (actC x), .int .i64 free] w (IsStep R fp fd s t k b bf (Pa.commit m { a.root with page := Pa.number m.l a } free).1 w) := by
 have hz := (zero_of_info pa_zero).1
 have hz7 := (zero_of_info (n := 7) rt_zero).1
 obtain ⟨Z7, hZ7⟩ : ∃ Z, none7 = Z := ⟨_, rfl⟩
 have HZ7 : Hid (Z7.size = 7) := by unfold Hid; rw [← hZ7]; rfl
 rw [hZ7] at hz7
 obtain ⟨Z, hZ⟩ : ∃ Z, none9 = Z := ⟨_, rfl⟩
 have hzs : Z.size = 9 := by rw [← hZ]; rfl
 rw [hZ] at hz
 have hv9 : ∃ D : Array Value, v = .agg D ∧ D.size = 9 := by obtain ⟨A, c, e, _⟩ := h.ref; exact ⟨_, e, rfl⟩
 obtain ⟨D, rfl, hDs⟩ := hv9
 obtain ⟨E, hE⟩ : ∃ D, actC x = D := ⟨_, rfl⟩
 have hEs : E.size = 12 := by rw [← hE]; rfl
 obtain ⟨W, hW⟩ : ∃ W, ((w.alloc (.cells D 37)).alloc (.cells E 42)).alloc (.cells Z 37) = W := ⟨_, rfl⟩
 have hDT : Rw W w.heap.size 37 D := by rw [← hW]; exact ((Rw.new w _ _).old _).old _
 have hET : Rw W (w.heap.size + 1) 42 E := by rw [← hW]; exact (Rw.at_ (by simp) _ _).old _
 have hZT : Rw W (w.heap.size + 2) 37 Z := by rw [← hW]; exact Rw.at_ (by simp) _ _
 have hb : Below w.heap.size w W := by rw [← hW]; exact (((Below.refl _ _).alloc (Nat.le_refl _) _).alloc (by simp) _).alloc (by simp; omega) _
 have hWs : W.heap.size = w.heap.size + 3 := by rw [← hW]; simp
 have HAW := Lib.hid (h.below hb)
 have HA := Lib.hid h
 have hpa := pa_size
 have HSD : Hid ((Tryz.prog.info? 37).map (·.size) = some D.size) := by unfold Hid; rw [hDs]; exact hpa
 have HSE : Hid ((Tryz.prog.info? 42).map (·.size) = some E.size) := by unfold Hid; rw [hEs]; kernel_rfl
 have HNU := Lib.hid (pnumber_any R (.agg D) m x a W HAW.out.ref h.few ha hx.2.1)
 rw [hE] at HNU
 obtain ⟨n, hn⟩ : ∃ n, Pa.number m.l a = n := ⟨_, rfl⟩
 have hni : I64 n := by rw [← hn]; exact Pa.number_i64 h.goes.ok a (by rw [ha.1]; exact hx.2.1)
 rw [hn] at HNU ⊢
 rw [har]
 obtain ⟨r, hr⟩ : ∃ r : Rt.Root, { x.root with page := n } = r := ⟨_, rfl⟩
 have HR := Lib.hid hr
 have HFR : Hid (Rt.Fit r) := by unfold Hid; rw [← hr]; have h := hx.2.2.2; exact { h with page := hni }
 have HXF := Lib.hid hx.2.2.2
 rw [hr]
 have HFF := Lib.hid hfr
 have HFI := Lib.hid hfi
 have HAC := Lib.hid hac
 have HDT := Lib.hid hDT
 have HET := Lib.hid hET
 have HZT := Lib.hid hZT
 have HB := Lib.hid hb
 have HWS := Lib.hid hWs
 have HEC : Hid (E[0]? = some (.int .i64 2)) := by unfold Hid; rw [← hE, ← hd]; rfl
 have HEX := Lib.hid hE
 have HZS := Lib.hid hzs
 have HNI := Lib.hid hni
 rw [hE]
 clear har hfr hfi hac hr hZ7 hni hDT hET hZT hb hWs hE hEs hDs hZ hzs hn hpa h hd hx ha
 go_enter Tryz.func13, Tryz.ntmps13
 go_wp2_with (first
  | ((with_reducible refine gate_load 37 ?_); refine wpList_load_row rfl 37 _ rfl w.heap.size rfl 37 D (0, 0) _ HDT.out Tryz.underlying37 rfl HSD.out ?_)
  | ((with_reducible refine gate_load 42 ?_); refine wpList_load_row rfl 42 _ rfl (w.heap.size + 1) rfl 42 E (0, 0) _ HET.out Tryz.underlying42 rfl HSE.out ?_))
 refine HNU.out.mono ?_
 rintro e w1 ⟨rfl, b1⟩
 have c0 : w1.cell? ⟨w.heap.size + 1, 0, none⟩ = some (.int .i64 2) := ((HET.out.below b1 HET.out.lt).cell 0).trans HEC.out
 have HA1 := Lib.hid (HAW.out.below b1)
 have HD1 : Hid (Rw w1 w.heap.size 37 D) := HDT.out.below b1 HDT.out.lt
 have HZ1 : Hid (Rw w1 (w.heap.size + 2) 37 Z) := HZT.out.below b1 HZT.out.lt
 have HB1 : Hid (Below w.heap.size w w1) := HB.out.trans (b1.mono HB.out.size)
 have HS1 : Hid (W.heap.size ≤ w1.heap.size) := b1.size
 have HE1 : Hid (Rw w1 (w.heap.size + 1) 42 E) := HET.out.below b1 HET.out.lt
 have HM5 : Hid (w1.rangeAt (w.heap.size + 1) 5 (rtC x.root).toList) := by
  have h := HE1.out
  rw [← HEX.out] at h
  intro j u hj
  rw [h.cell]
  have hj7 : j < 7 := by have := (List.getElem?_eq_some_iff.1 hj).1; exact this
  rw [← hj]
  match j, hj7 with
  | 0, _ => rfl
  | 1, _ => rfl
  | 2, _ => rfl
  | 3, _ => rfl
  | 4, _ => rfl
  | 5, _ => rfl
  | 6, _ => rfl
 have hq0 : Rw (w1.alloc (.cells Z7 34)) w1.heap.size 34 Z7 := Rw.new w1 _ _
 have hq1 : Rw ((w1.alloc (.cells Z7 34)).setRow w1.heap.size (rtC x.root)) w1.heap.size 34 (rtC x.root) := Rw.row hq0 _
 have k1 : ((w1.alloc (.cells Z7 34)).setRow w1.heap.size (rtC x.root)).cell? ⟨w1.heap.size, 1, none⟩ = some (.int .i64 x.root.page) := hq1.cell 1
 have g1 : ((w1.alloc (.cells Z7 34)).setRow w1.heap.size (rtC x.root)).frozen? ⟨w1.heap.size, 1, none⟩ = false := hq1.frozen 1
 have HQ2 : Hid (Rw (((w1.alloc (.cells Z7 34)).setRow w1.heap.size (rtC x.root)).setCell ⟨w1.heap.size, 1, none⟩ (.int .i64 n)) w1.heap.size 34 (rtC r)) := by
  unfold Hid; rw [← HR.out]; exact hq1.set 1 _
 have hS7 := rt_size
 rw [← rtC_size x.root] at hS7
 have hO7 := rtC_one x.root
 have hz77 : Z7.size = (rtC x.root).size := by rw [HZ7.out, rtC_size]
 have HSR : Hid ((Tryz.prog.info? 34).map (·.size) = some (rtC r).size) := by unfold Hid; rw [rtC_size]; exact rt_size
 obtain ⟨RC, hRC⟩ : ∃ D, rtC x.root = D := ⟨_, rfl⟩
 rw [hRC] at HM5 k1 g1 HQ2 hS7 hO7 hz77
 obtain ⟨RD, hRD⟩ : ∃ D, rtC r = D := ⟨_, rfl⟩
 rw [hRD] at HQ2 HSR
 have HRD := Lib.hid hRD
 have HQ0 := Lib.hid hq0
 have HBX : Hid (Below w1.heap.size w1 (((w1.alloc (.cells Z7 34)).setRow w1.heap.size RC).setCell ⟨w1.heap.size, 1, none⟩ (.int .i64 n))) := (below_setRow ((Below.refl w1.heap.size w1).alloc (Nat.le_refl _) _) (Nat.le_refl _) _).setCell (p := ⟨w1.heap.size, 1, none⟩) (Nat.le_refl _) _
 clear hq1 hRC hRD hq0 b1 HNU
 go_wp2_with (first
  | ((with_reducible refine gate_load 34 ?_); refine wpList_load_midP rfl 34 _ rfl (w.heap.size + 1) 5 rfl RC _ HM5.out Tryz.underlying34 rfl hS7 ?_)
  | ((with_reducible refine gate_store 34 ?_); refine wpList_store_row rfl 34 _ _ rfl w1.heap.size RC rfl rfl 34 Z7 HQ0.out hS7 hz77 hO7 ?_)
  | ((with_reducible refine gate_load 34 ?_); refine wpList_load_row rfl 34 _ rfl w1.heap.size rfl 34 RD (0, 0) _ HQ2.out Tryz.underlying34 rfl HSR.out ?_))
 generalize (((w1.alloc (.cells Z7 34)).setRow w1.heap.size RC).setCell ⟨w1.heap.size, 1, none⟩ (.int .i64 n)) = W2 at *
 have HA2 := Lib.hid (HA1.out.below HBX.out)
 have HBW2 : Hid (Below w.heap.size w W2) := HB1.out.trans (HBX.out.mono HB1.out.size)
 have hs1 : w.heap.size + 3 ≤ w1.heap.size := by have := HS1.out; have := HWS.out; omega
 have HS3 := Lib.hid hs1
 have HPC := Lib.hid (ppcommit_any r k HA2.out.pager HA2.out.disk HA.out.apart HFR.out (Nat.le_trans (Nat.le_max_left _ _) HAC.out) (Nat.le_trans (Nat.le_trans (Nat.le_max_right _ _) HAC.out) (by decide)) HA.out.well.room HA.out.well.get HA.out.well.file)
 rw [HRD.out] at HPC
 have hlp : fp.Lt w.heap.size := ppager_lt HA.out.pager
 have hld : fd.Lt w.heap.size := pdisk_law.lt HA.out.disk
 have HNO : Hid (∀ q, w.heap.size ≤ q → ¬ (fp.M q ∨ fd.M q)) := fun q hq hm => by
  rcases hm with hm | hm
  ·have := hlp q (.inl hm); omega
  ·have := hld q (.inl hm); omega
 have HDX : Hid (Rw W2 w.heap.size 37 D) := HD1.out.below HBX.out HD1.out.lt
 have HZX : Hid (Rw W2 (w.heap.size + 2) 37 Z) := HZ1.out.below HBX.out HZ1.out.lt
 clear hs1 hlp hld k1 g1 c0 hS7 hO7 hz77
 refine HPC.out.mono ?_
 rintro e w2 ⟨ee, s1, F1, t1, f2, d2, rfl, hcom, hD2, hM2, hpp, hT2⟩
 have hcg := hcom.goes HA.out.goes HA.out.well HFF.out
 obtain ⟨hP2, hN2, hap⟩ := hpp hcg.2.2.1.dead
 obtain rfl := hcg.1
 have HCG := Lib.hid hcg.2
 have HD2 : Hid (Rw w2 w.heap.size 37 D) := (hT2.block _ HDX.out.lt (HNO.out _ (Nat.le_refl _))).trans HDX.out
 have HZ2 : Hid (Rw w2 (w.heap.size + 2) 37 Z) := (hT2.block _ HZX.out.lt (HNO.out _ (by omega))).trans HZX.out
 have HQ3 : Hid (Rw w2 w1.heap.size 34 RD) := (hT2.block _ HQ2.out.lt (HNO.out _ (by have := HS3.out; omega))).trans HQ2.out
 have HCB := Lib.hid (rpacommit_any R (.agg D) m r free w2 (HA2.out.ref.turned_ hT2 (fun q hq hf => hf.elim (HA.out.offp q hq) (HA.out.offd q hq))) (fun q hq => Nat.lt_of_lt_of_le (HA2.out.old q hq) hT2.size) HA.out.few HFR.out HFI.out)
 rw [HRD.out] at HCB
 have HP2 := Lib.hid hP2
 have HN2 := Lib.hid hN2
 have HK2 := Lib.hid hD2
 have HM2 := Lib.hid hM2
 have HAP := Lib.hid hap
 have HT2 := Lib.hid hT2
 clear hP2 hN2 hD2 hM2 hap hT2 hpp hcg hcom HPC
 go_wp2_with (first
  | ((with_reducible refine gate_load 37 ?_); refine wpList_load_row rfl 37 _ rfl w.heap.size rfl 37 D (0, 0) _ HD2.out Tryz.underlying37 rfl HSD.out ?_)
  | ((with_reducible refine gate_load 34 ?_); refine wpList_load_row rfl 34 _ rfl w1.heap.size rfl 34 RD (0, 0) _ HQ3.out Tryz.underlying34 rfl HSR.out ?_))
 refine HCB.out.mono ?_
 obtain ⟨m1, hm1⟩ : ∃ x, (Pa.commit m r free).1 = x := ⟨_, rfl⟩
 obtain ⟨e1, he1⟩ : ∃ x, (Pa.commit m r free).2 = x := ⟨_, rfl⟩
 rintro e w3 ⟨v3, rfl, hv3, b3⟩
 rw [hm1] at hv3 HCG ⊢
 rw [he1]
 obtain ⟨A, c, rfl, hf, hs, hp⟩ := hv3
 have hsz := pa_size
 rw [← paC_size m1.root A m1.l.length c m1.size] at hsz
 have hco := paC_one m1.root A m1.l.length c m1.size
 have hzc : Z.size = (paC m1.root A m1.l.length c m1.size).size := by rw [HZS.out, paC_size]
 obtain ⟨C, hC⟩ : ∃ C, paC m1.root A m1.l.length c m1.size = C := ⟨_, rfl⟩
 rw [hC] at hsz hco hzc ⊢
 have HZ3 : Hid (Rw w3 (w.heap.size + 2) 37 Z) := HZ2.out.below b3 HZ2.out.lt
 have HSZ := Lib.hid hsz
 have HV3 : Hid (PaIs w3 (RX R w2 w3) (.agg C) m1) := ⟨A, c, by rw [← hC], hf, hs, hp⟩
 have HB3 := Lib.hid b3
 have HQA : Hid (Rw (w3.alloc (.cells Z 37)) w3.heap.size 37 Z) := Rw.new w3 _ _
 have HQB : Hid (Rw ((w3.alloc (.cells Z 37)).setRow w3.heap.size C) w3.heap.size 37 C) := Rw.row HQA.out C
 have HQC : Hid (Rw ((w3.alloc (.cells Z 37)).setRow w3.heap.size C) (w.heap.size + 2) 37 Z) := (HZ3.out.old _).rowOther (by have := HZ3.out.lt; omega) _
 have HM1 := Lib.hid hm1
 clear hp hf hs hC b3 HCB hm1 he1
 go_wp2_with (first
  | ((with_reducible refine gate_store 37 ?_); refine wpList_store_row rfl 37 _ _ rfl w3.heap.size C rfl rfl 37 Z HQA.out hsz hzc hco ?_)
  | ((with_reducible refine gate_load 37 ?_); refine wpList_load_row rfl 37 _ rfl w3.heap.size rfl 37 C (0, 0) _ HQB.out Tryz.underlying37 rfl HSZ.out ?_)
  | ((with_reducible refine gate_store 37 ?_); refine wpList_store_row rfl 37 _ _ rfl (w.heap.size + 2) C rfl rfl 37 Z HQC.out hsz hzc hco ?_))
 have HTX : Hid (Turned (fun q => q = w.heap.size + 2 ∨ w3.heap.size ≤ q) w3 (((w3.alloc (.cells Z 37)).setRow w3.heap.size C).setRow (w.heap.size + 2) C)) := (((Turned.refl _ w3).alloc _).setRow (fun h => by omega) _).setRow (fun _ => .inl rfl) _
 have HRX : Hid (Rw (((w3.alloc (.cells Z 37)).setRow w3.heap.size C).setRow (w.heap.size + 2) C) (w.heap.size + 2) 37 C) := Rw.row HQC.out C
 generalize ((w3.alloc (.cells Z 37)).setRow w3.heap.size C).setRow (w.heap.size + 2) C = X at *
 clear hsz hco hzc
 try go_wp2
 have hm1 := HM1.out
 subst hm1
 refine bodyPost_ret (v := .tuple #[.agg C, .bool true]) (results_pa rfl _ _ (w.heap.size + 2) C _ _ rfl ?zx HSZ.out HRX.out) rfl (HA.out.step2 HBW2.out HP2.out HN2.out HK2.out HM2.out HAP.out HT2.out HCG.out.2.2.1 HCG.out.2.2.2.1 HCG.out.1 HCG.out.2.1 HCG.out.2.2.2.2.1 HCG.out.2.2.2.2.2 HV3.out HB3.out HTX.out (fun q hq => ?_))
 case zx => rfl
 ·have := HS3.out
  have := HBX.out.size
  rcases hq with hq | hq <;> omega
end Go.Proofs.YtiafeniflkikeaaGreat
namespace Go.Proofs.YtiafeniflkikeaaGreat
open Go.RowKit
set_option linter.unusedVariables false
theorem OwnL.whole_ {P : Program} {α : Type} {K : El P α} {w : World} {base g n c : Nat} {l : List α} (h : OwnL K w base (.slice (some ⟨g, 0, none⟩) n c) l) : ∃ y : List α, y.length = c ∧ OwnL K w base (.slice (some ⟨g, 0, none⟩) c c) y ∧ n ≤ c ∧ c ≤ maxLen := by
 rcases h.2 with ⟨e, _⟩ | ⟨g', s, e, hb, hs, hm, hh⟩
 ·cases e
 ·injection e with e1 e2 e3
  injection e1 with e1
  injection e1 with e1
  subst e1 e2 e3
  refine ⟨l ++ s, by simp, ⟨fun y hy => (List.mem_append.1 hy).elim (h.1 y) (hs y), .inr ⟨g, [], by simp, hb, by simp, by simpa using hm, by simpa using hh⟩⟩, by omega, hm⟩
end Go.Proofs.YtiafeniflkikeaaGreat
namespace Go.Proofs.YtiafeniflkikeaaGreat
open Go.RowKit
set_option linter.unusedVariables false
theorem xor_octB (c d : Nat) : ∃ z : Nat, bits BinOp.xor IntKind.u8 (c : Int) (d : Int) = (z : Int) ∧ z < 256 := by
 unfold bits
 rw [IntKind.wrap_u8]
 refine ⟨(((match BinOp.xor with
  | .and => BitVec.ofInt IntKind.u8.bits (c : Int) &&& BitVec.ofInt IntKind.u8.bits (d : Int)
  | .or => BitVec.ofInt IntKind.u8.bits (c : Int) ||| BitVec.ofInt IntKind.u8.bits (d : Int)
  | .xor => BitVec.ofInt IntKind.u8.bits (c : Int) ^^^ BitVec.ofInt IntKind.u8.bits (d : Int)
  | _ => BitVec.ofInt IntKind.u8.bits (c : Int) &&& ~~~ BitVec.ofInt IntKind.u8.bits (d : Int)).toNat) % 256 : Nat), by simp, by omega⟩
set_option maxHeartbeats 1000000 in
set_option maxRecDepth 100000 in
theorem spoilB_some (g base n c d : Nat) (l : List Nat) (w : World) (h : OwnL yK w base (.slice (some ⟨g, 0, none⟩) n c) l) :
  Calls Tryz.prog 51 #[.slice (some ⟨g, 0, none⟩) n c, .int .u8 (d : Nat)] w (IsTurned (.slice (some ⟨g, 0, none⟩) n c) w) := by
 obtain ⟨y0, hy0, hw, hnc, hm⟩ := h.whole_
 have hm : c ≤ 9223372036854775807 := by simp only [maxLen] at hm; omega
 have H := Lib.hid hw
 have HY0 := Lib.hid hy0
 clear h hw hy0
 go_enter Tryz.func51, Tryz.ntmps51
 go_wp2
 go_loopw [4] (fun i wr => ∃ (k : Nat) (y : List Nat), k ≤ c ∧ i = .int .i64 k ∧ Hid (y.length = c) ∧ Hid (OwnL yK wr base (.slice (some ⟨g, 0, none⟩) c c) y) ∧ w.grownBy wr (some g)) (fun i _ => c - (intOf i).toNat)
 case atStart => exact ⟨0, y0, by omega, rfl, HY0.out, H.out, World.grownBy.refl _ _⟩
 case round =>
  obtain ⟨k, y, hk, rfl, HY, HO, hbr⟩ := hrel
  by_cases hlt : k < c
  ·have hky : k < y.length := by have := HY.out; omega
   obtain ⟨g', x, e4, e2, hb, hx, hd, hcell, hfr⟩ := HO.out.byte_ hky
   injection e4 with e4
   injection e4 with e5 e6
   subst e5
   obtain ⟨z, hz, hz2⟩ := xor_octB x d
   obtain ⟨hs1, hs2⟩ := HO.out.setByte_ hky hz2
   have HS := Lib.hid hs1
   have HG := Lib.hid hs2
   clear hd e2 hs1 hs2 HO hx hky
   go_wp2
   exact ⟨⟨k + 1, y.set k z, by omega, by go_num, by unfold Hid; rw [List.length_set, HY.out], HS.out, grownBy_trans hbr HG.out⟩, by simp [intOf]; omega⟩
  ·go_wp2
   go_end0
   exact ⟨⟨_, rfl⟩, hbr⟩
set_option maxHeartbeats 1000000 in
theorem spoilB_none (d : Nat) (w : World) :
  Calls Tryz.prog 51 #[.slice none 0 0, .int .u8 (d : Nat)] w (IsTurned (.slice none 0 0) w) := by
 go_enter Tryz.func51, Tryz.ntmps51
 go_wp2
 refine wp_loop_rounds 1 ?_
 rw [rounds_succ]
 go_wp2
 go_end0
 exact ⟨⟨_, rfl⟩, World.grownBy.refl _ _⟩
theorem spoilB_any (d base : Nat) (v : Value) (l : List Nat) (w : World) (h : OwnL yK w base v l) :
  Calls Tryz.prog 51 #[v, .int .u8 (d : Nat)] w (IsTurned v w) := by
 rcases h.2 with ⟨rfl, _⟩ | ⟨g, s, rfl, _⟩
 ·exact spoilB_none d w
 ·exact spoilB_some g base _ _ d l w h
end Go.Proofs.YtiafeniflkikeaaGreat
namespace Go.Proofs.YtiafeniflkikeaaGreat
open Go.RowKit
set_option linter.unusedVariables false
set_option maxHeartbeats 2000000 in
set_option maxRecDepth 100000 in
theorem pstep_read {w : World} {fp fd : Fp} {s : Pp.S} {F : List Nat} {t : Sf.St} {k b bf : Nat} {R : Nat → Prop} {v : Value} {m : Pa.M} (h : Pp.All w fp fd s F t k b bf R v m) (x : RawT) (a : Pa.Act) (free : Int) (hx : RawTOk x) (ha : a.n = x.n ∧ a.any = x.any) (htn : s.turns ≤ 1099511627776) (hd : x.do_ = 4) :
  Calls Tryz.prog 13 #[.pointer (some ⟨b, 0, none⟩), v, .agg (actC x), .int .i64 free] w (IsStep R fp fd s t k b bf m w) := by
 have HTN := Lib.hid htn
 clear htn
 have hz := (zero_of_info pa_zero).1
 obtain ⟨Z, hZ⟩ : ∃ Z, none9 = Z := ⟨_, rfl⟩
 have hzs : Z.size = 9 := by rw [← hZ]; rfl
 rw [hZ] at hz
 have hv9 : ∃ D : Array Value, v = .agg D ∧ D.size = 9 := by obtain ⟨A, c, e, _⟩ := h.ref; exact ⟨_, e, rfl⟩
 obtain ⟨D, rfl, hDs⟩ := hv9
 obtain ⟨E, hE⟩ : ∃ D, actC x = D := ⟨_, rfl⟩
 have hEs : E.size = 12 := by rw [← hE]; rfl
 obtain ⟨W, hW⟩ : ∃ W, ((w.alloc (.cells D 37)).alloc (.cells E 42)).alloc (.cells Z 37) = W := ⟨_, rfl⟩
 have hDT : Rw W w.heap.size 37 D := by rw [← hW]; exact ((Rw.new w _ _).old _).old _
 have hET : Rw W (w.heap.size + 1) 42 E := by rw [← hW]; exact (Rw.at_ (by simp) _ _).old _
 have hZT : Rw W (w.heap.size + 2) 37 Z := by rw [← hW]; exact Rw.at_ (by simp) _ _
 have hb : Below w.heap.size w W := by rw [← hW]; exact (((Below.refl _ _).alloc (Nat.le_refl _) _).alloc (by simp) _).alloc (by simp; omega) _
 have hWs : W.heap.size = w.heap.size + 3 := by rw [← hW]; simp
 have HAW := Lib.hid (h.below hb)
 have HA := Lib.hid h
 have hpa := pa_size
 have HSD : Hid ((Tryz.prog.info? 37).map (·.size) = some D.size) := by unfold Hid; rw [hDs]; exact hpa
 have HSE : Hid ((Tryz.prog.info? 42).map (·.size) = some E.size) := by unfold Hid; rw [hEs]; kernel_rfl
 have HNU := Lib.hid (pnumber_any R (.agg D) m x a W HAW.out.ref h.few ha hx.2.1)
 rw [hE] at HNU
 obtain ⟨n, hn⟩ : ∃ n, Pa.number m.l a = n := ⟨_, rfl⟩
 have hni : I64 n := by rw [← hn]; exact Pa.number_i64 h.goes.ok a (by rw [ha.1]; exact hx.2.1)
 rw [hn] at HNU
 have HDT := Lib.hid hDT
 have HET := Lib.hid hET
 have HZT := Lib.hid hZT
 have HB := Lib.hid hb
 have HWS := Lib.hid hWs
 have HEC : Hid (E[0]? = some (.int .i64 4)) := by unfold Hid; rw [← hE, ← hd]; rfl
 have HZS := Lib.hid hzs
 have HDS := Lib.hid hDs
 have HDO : Hid (D.all (·.oneCell') = true) := by unfold Hid; obtain ⟨A, c, e, _⟩ := h.ref; injection e with e; rw [e]; exact paC_one _ _ _ _ _
 have HNI := Lib.hid hni
 rw [hE]
 clear hni hDT hET hZT hb hWs hE hEs hDs hZ hzs hn hpa h hd hx ha
 go_enter Tryz.func13, Tryz.ntmps13
 go_wp2_with (first
  | ((with_reducible refine gate_load 37 ?_); refine wpList_load_row rfl 37 _ rfl w.heap.size rfl 37 D (0, 0) _ HDT.out Tryz.underlying37 rfl HSD.out ?_)
  | ((with_reducible refine gate_load 42 ?_); refine wpList_load_row rfl 42 _ rfl (w.heap.size + 1) rfl 42 E (0, 0) _ HET.out Tryz.underlying42 rfl HSE.out ?_))
 refine HNU.out.mono ?_
 rintro e w1 ⟨rfl, b1⟩
 have c0 : w1.cell? ⟨w.heap.size + 1, 0, none⟩ = some (.int .i64 4) := ((HET.out.below b1 HET.out.lt).cell 0).trans HEC.out
 have HA1 := Lib.hid (HAW.out.below b1)
 have HD1 : Hid (Rw w1 w.heap.size 37 D) := HDT.out.below b1 HDT.out.lt
 have HZ1 : Hid (Rw w1 (w.heap.size + 2) 37 Z) := HZT.out.below b1 HZT.out.lt
 have HB1 : Hid (Below w.heap.size w w1) := HB.out.trans (b1.mono HB.out.size)
 have HS1 : Hid (W.heap.size ≤ w1.heap.size) := b1.size
 have HGR := Lib.hid (Pp.find_bare HA.out.goes n)
 have HPR := Lib.hid (ppread_any n k HA1.out.pager HA1.out.disk HNI.out HA.out.well.dead HA.out.well.get HA.out.well.file HTN.out)
 rw [HGR.out] at HPR
 obtain ⟨rr, hrr⟩ : ∃ x, Pa.read m.l n = x := ⟨_, rfl⟩
 rw [hrr] at HPR
 have HRR := Lib.hid hrr
 clear b1 HNU hrr
 go_wp2_with fail
 refine HPR.out.mono ?_
 rintro e w2 ⟨A1, c1, rfl, o2, f2, hP2, hN2, hT2, hof⟩
 have hlp : fp.Lt w.heap.size := ppager_lt HA.out.pager
 have hs1 : w.heap.size + 3 ≤ w1.heap.size := by have := HS1.out; have := HWS.out; omega
 have HNO : Hid (∀ q, w.heap.size ≤ q → ¬ fp.M q) := fun q hq hm => by have := hlp q (.inl hm); omega
 have HD2 : Hid (Rw w2 w.heap.size 37 D) := (hT2.block _ HD1.out.lt (HNO.out _ (Nat.le_refl _))).trans HD1.out
 have HZ2 : Hid (Rw w2 (w.heap.size + 2) 37 Z) := (hT2.block _ HZ1.out.lt (HNO.out _ (by omega))).trans HZ1.out
 have HCB := Lib.hid (rparead_any R (.agg D) m n w2 (HA1.out.ref.turned_ hT2 HA.out.offp) HA.out.few (fun x hx => (HA.out.goes.ok.from2 x hx).2.2.2.2.1))
 rw [HRR.out] at HCB
 have HO2 := Lib.hid o2
 have HP2 := Lib.hid hP2
 have HN2 := Lib.hid hN2
 have HT2 := Lib.hid hT2
 have HOF := Lib.hid hof
 have HS3 := Lib.hid hs1
 clear o2 hP2 hN2 hT2 hof hlp hs1 HPR
 go_wp2_with ((with_reducible refine gate_load 37 ?_); refine wpList_load_row rfl 37 _ rfl w.heap.size rfl 37 D (0, 0) _ HD2.out Tryz.underlying37 rfl HSD.out ?_)
 refine HCB.out.mono ?_
 rintro e w3 ⟨A2, c2, rfl, o3, b3⟩
 have HO3 : Hid (OwnL yK w3 w1.heap.size (.slice A1 rr.2.1.length c1) rr.2.1) := HO2.out.below_ b3 (Nat.le_refl _)
 have HSM := Lib.hid (same_bv _ _ _ _ _ _ w3 HO3.out.form_.bv_ o3.form_.bv_)
 rw [decide_eq_true rfl] at HSM
 have HB3 := Lib.hid b3
 have HD3 : Hid (Rw w3 w.heap.size 37 D) := HD2.out.below b3 HD2.out.lt
 have HZ3 : Hid (Rw w3 (w.heap.size + 2) 37 Z) := HZ2.out.below b3 HZ2.out.lt
 clear b3 o3 HCB
 go_wp2_with fail
 refine HSM.out.mono ?_
 rintro e w4 ⟨rfl, b4⟩
 have HB4 := Lib.hid b4
 have HD4 : Hid (Rw w4 w.heap.size 37 D) := HD3.out.below b4 HD3.out.lt
 have HZ4 : Hid (Rw w4 (w.heap.size + 2) 37 Z) := HZ3.out.below b4 HZ3.out.lt
 have HO4 : Hid (OwnL yK w4 w1.heap.size (.slice A1 rr.2.1.length c1) rr.2.1) := HO3.out.below_ b4 (Nat.le_refl _)
 have HSP := Lib.hid (spoilB_any 5 _ _ _ w4 HO4.out)
 clear b4 HSM
 go_wp2_with fail
 refine HSP.out.mono ?_
 rintro e w5 ⟨⟨u5, rfl⟩, g5⟩
 have HT45 := Lib.hid (Turned.of_grown g5)
 have hown : ∀ q, (Value.slice A1 rr.2.1.length c1).ownBlock = some q → w1.heap.size ≤ q := fun q hq => (HO4.out.lt_ q hq).1
 have hne : ∀ q, q < w1.heap.size → ¬ (Value.slice A1 rr.2.1.length c1).ownBlock = some q := fun q hq h => by have := hown q h; omega
 have HD5 : Hid (Rw w5 w.heap.size 37 D) := (HT45.out.block _ HD4.out.lt (hne _ (by have := HS3.out; omega))).trans HD4.out
 have HZ5 : Hid (Rw w5 (w.heap.size + 2) 37 Z) := (HT45.out.block _ HZ4.out.lt (hne _ (by have := HS3.out; omega))).trans HZ4.out
 have HB24 : Hid (Below w2.heap.size w2 w4) := HB3.out.trans (HB4.out.mono HB3.out.size)
 have HT15 : Hid (Turned fp.M w1 w5) := (HT2.out.trans (Turned.of_below HB24.out) (fun q hq h => by have := HT2.out.size; omega)).trans HT45.out (fun q hq h => absurd h (hne q hq))
 have HTP : Hid (TurnsP fp { s with turns := s.turns + 1 } F b bf w1 w5) := ⟨f2, ppager_turned (ppager_turned HP2.out (Turned.of_below HB24.out) ((ppager_lt HP2.out).off fun _ h => h)) HT45.out HOF.out, HN2.out, HT15.out⟩
 have HV5 : Hid (PaIs w5 (RX R w5 w5) (.agg D) m) := (HA1.out.ref.turned_ HT15.out HA.out.offp).more_ (fun q hq => .inl hq)
 have hzc : Z.size = D.size := by rw [HZS.out, HDS.out]
 clear g5 hown hne HSP
 go_wp2_with (first
  | ((with_reducible refine gate_load 37 ?_); refine wpList_load_row rfl 37 _ rfl w.heap.size rfl 37 D (0, 0) _ HD5.out Tryz.underlying37 rfl HSD.out ?_)
  | ((with_reducible refine gate_store 37 ?_); refine wpList_store_row rfl 37 _ _ rfl (w.heap.size + 2) D rfl rfl 37 Z HZ5.out HSD.out hzc HDO.out ?_))
 have HTX : Hid (Turned (fun q => q = w.heap.size + 2) w5 (w5.setRow (w.heap.size + 2) D)) := (Turned.refl (fun q => q = w.heap.size + 2) w5).setRow (fun _ => rfl) _
 have HRX : Hid (Rw (w5.setRow (w.heap.size + 2) D) (w.heap.size + 2) 37 D) := Rw.row HZ5.out D
 generalize w5.setRow (w.heap.size + 2) D = X at *
 clear hzc
 try go_wp2
 refine bodyPost_ret (v := .tuple #[.agg D, .bool true]) (results_pa rfl _ _ (w.heap.size + 2) D _ _ rfl rfl HSD.out HRX.out) rfl (HA.out.step HB1.out HTP.out rfl ⟨rfl, by first | exact Nat.le_succ _ | exact Nat.le_refl _⟩ (HA.out.goes.tn _) HV5.out (Below.refl _ _) HTX.out (fun q hq => ?_))
 have := HS3.out
 omega
set_option maxHeartbeats 2000000 in
set_option maxRecDepth 100000 in
theorem pstep_none {w : World} {fp fd : Fp} {s : Pp.S} {F : List Nat} {t : Sf.St} {k b bf : Nat} {R : Nat → Prop} {v : Value} {m : Pa.M} (h : Pp.All w fp fd s F t k b bf R v m) (x : RawT) (a : Pa.Act) (free : Int) (hx : RawTOk x) (ha : a.n = x.n ∧ a.any = x.any) (hd : x.do_ ≠ 0 ∧ x.do_ ≠ 1 ∧ x.do_ ≠ 2 ∧ x.do_ ≠ 3 ∧ x.do_ ≠ 4 ∧ x.do_ ≠ 6) :
  Calls Tryz.prog 13 #[.pointer (some ⟨b, 0, none⟩), v, .agg (actC x), .int .i64 free] w (IsStep R fp fd s t k b bf m w) := by
 have hz := (zero_of_info pa_zero).1
 obtain ⟨dd, hdd⟩ : ∃ d, x.do_ = d := ⟨_, rfl⟩
 rw [hdd] at hd
 obtain ⟨d0, d1, d2, d3, d4, d6⟩ := hd
 have hdi : I64 dd := by rw [← hdd]; exact hx.1
 obtain ⟨Z, hZ⟩ : ∃ Z, none9 = Z := ⟨_, rfl⟩
 have hzs : Z.size = 9 := by rw [← hZ]; rfl
 rw [hZ] at hz
 have hv9 : ∃ D : Array Value, v = .agg D ∧ D.size = 9 := by obtain ⟨A, c, e, _⟩ := h.ref; exact ⟨_, e, rfl⟩
 obtain ⟨D, rfl, hDs⟩ := hv9
 obtain ⟨E, hE⟩ : ∃ D, actC x = D := ⟨_, rfl⟩
 have hEs : E.size = 12 := by rw [← hE]; rfl
 obtain ⟨W, hW⟩ : ∃ W, ((w.alloc (.cells D 37)).alloc (.cells E 42)).alloc (.cells Z 37) = W := ⟨_, rfl⟩
 have hDT : Rw W w.heap.size 37 D := by rw [← hW]; exact ((Rw.new w _ _).old _).old _
 have hET : Rw W (w.heap.size + 1) 42 E := by rw [← hW]; exact (Rw.at_ (by simp) _ _).old _
 have hZT : Rw W (w.heap.size + 2) 37 Z := by rw [← hW]; exact Rw.at_ (by simp) _ _
 have hb : Below w.heap.size w W := by rw [← hW]; exact (((Below.refl _ _).alloc (Nat.le_refl _) _).alloc (by simp) _).alloc (by simp; omega) _
 have hWs : W.heap.size = w.heap.size + 3 := by rw [← hW]; simp
 have HAW := Lib.hid (h.below hb)
 have HA := Lib.hid h
 have hpa := pa_size
 have HSD : Hid ((Tryz.prog.info? 37).map (·.size) = some D.size) := by unfold Hid; rw [hDs]; exact hpa
 have HSE : Hid ((Tryz.prog.info? 42).map (·.size) = some E.size) := by unfold Hid; rw [hEs]; kernel_rfl
 have HNU := Lib.hid (pnumber_any R (.agg D) m x a W HAW.out.ref h.few ha hx.2.1)
 rw [hE] at HNU
 obtain ⟨n, hn⟩ : ∃ n, Pa.number m.l a = n := ⟨_, rfl⟩
 have hni : I64 n := by rw [← hn]; exact Pa.number_i64 h.goes.ok a (by rw [ha.1]; exact hx.2.1)
 rw [hn] at HNU
 have HDT := Lib.hid hDT
 have HET := Lib.hid hET
 have HZT := Lib.hid hZT
 have HB := Lib.hid hb
 have HWS := Lib.hid hWs
 have HEC : Hid (E[0]? = some (.int .i64 dd)) := by unfold Hid; rw [← hE, ← hdd]; rfl
 have HZS := Lib.hid hzs
 have HDS := Lib.hid hDs
 have HDO : Hid (D.all (·.oneCell') = true) := by unfold Hid; obtain ⟨A, c, e, _⟩ := h.ref; injection e with e; rw [e]; exact paC_one _ _ _ _ _
 have HNI := Lib.hid hni
 rw [hE]
 clear hni hDT hET hZT hb hWs hE hEs hDs hZ hzs hn hpa h hdd hx ha
 go_enter Tryz.func13, Tryz.ntmps13
 go_wp2_with (first
  | ((with_reducible refine gate_load 37 ?_); refine wpList_load_row rfl 37 _ rfl w.heap.size rfl 37 D (0, 0) _ HDT.out Tryz.underlying37 rfl HSD.out ?_)
  | ((with_reducible refine gate_load 42 ?_); refine wpList_load_row rfl 42 _ rfl (w.heap.size + 1) rfl 42 E (0, 0) _ HET.out Tryz.underlying42 rfl HSE.out ?_))
 refine HNU.out.mono ?_
 rintro e w1 ⟨rfl, b1⟩
 have c0 : w1.cell? ⟨w.heap.size + 1, 0, none⟩ = some (.int .i64 dd) := ((HET.out.below b1 HET.out.lt).cell 0).trans HEC.out
 have HA1 := Lib.hid (HAW.out.below b1)
 have HD1 : Hid (Rw w1 w.heap.size 37 D) := HDT.out.below b1 HDT.out.lt
 have HZ1 : Hid (Rw w1 (w.heap.size + 2) 37 Z) := HZT.out.below b1 HZT.out.lt
 have HB1 : Hid (Below w.heap.size w w1) := HB.out.trans (b1.mono HB.out.size)
 have HS1 : Hid (W.heap.size ≤ w1.heap.size) := b1.size
 clear b1 HNU
 have hzc : Z.size = D.size := by rw [HZS.out, HDS.out]
 have HV1 : Hid (PaIs w1 (RX R w1 w1) (.agg D) m) := HA1.out.ref.more_ (fun q hq => .inl hq)
 have HTP : Hid (TurnsP fp s F b bf w1 w1) := ⟨fp, HA1.out.pager, Fp.Next.refl _ _, Turned.refl _ _⟩
 go_wp2_with (first
  | ((with_reducible refine gate_load 37 ?_); refine wpList_load_row rfl 37 _ rfl w.heap.size rfl 37 D (0, 0) _ HD1.out Tryz.underlying37 rfl HSD.out ?_)
  | ((with_reducible refine gate_store 37 ?_); refine wpList_store_row rfl 37 _ _ rfl (w.heap.size + 2) D rfl rfl 37 Z HZ1.out HSD.out hzc HDO.out ?_))
 have HTX : Hid (Turned (fun q => q = w.heap.size + 2) w1 (w1.setRow (w.heap.size + 2) D)) := (Turned.refl (fun q => q = w.heap.size + 2) w1).setRow (fun _ => rfl) _
 have HRX : Hid (Rw (w1.setRow (w.heap.size + 2) D) (w.heap.size + 2) 37 D) := Rw.row HZ1.out D
 generalize w1.setRow (w.heap.size + 2) D = X at *
 clear hzc
 try go_wp2
 refine bodyPost_ret (v := .tuple #[.agg D, .bool true]) (results_pa rfl _ _ (w.heap.size + 2) D _ _ rfl rfl HSD.out HRX.out) rfl (HA.out.step HB1.out HTP.out rfl ⟨rfl, by first | exact Nat.le_succ _ | exact Nat.le_refl _⟩ HA.out.goes HV1.out (Below.refl _ _) HTX.out (fun q hq => ?_))
 have := HS1.out
 have := HWS.out
 omega
end Go.Proofs.YtiafeniflkikeaaGreat
