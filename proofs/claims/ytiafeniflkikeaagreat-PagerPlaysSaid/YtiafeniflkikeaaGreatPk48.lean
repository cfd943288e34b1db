/- Parts of the proof. -/
import Derived.Test.YtiafeniflkikeaaGreatPk15
import Derived.Test.YtiafeniflkikeaaGreatPk47
import Derived.Test.YtiafeniflkikeaaGreatPk46
import Derived.Test.YtiafeniflkikeaaGreatPk28
namespace Go.Proofs.YtiafeniflkikeaaGreat
open Go.RowKit
set_option linter.unusedVariables false
def StU (n : Nat) (D : Array Value) (w' : World) : Prop :=
 Rw w' n 37 D ∧ ∃ Z' : Array Value, Z'.size = D.size ∧ Rw w' (n + 2) 37 Z'
theorem Pp.use_arg {s : Pp.S} {n : Int} (h : n < 2 ∨ s.root.pages ≤ n) : Pp.useE s n = (s, 2) := by unfold Pp.useE; rw [if_pos h]
theorem Pp.use_twice {s : Pp.S} {F : List Nat} {m : Pa.M} {n : Int} (hg : Pp.Goes s F m) (h2 : 2 ≤ n) (hp : n < s.root.pages) (hr : (Pa.read m.l n).2.2 = 0) : Pp.useE s n = (s, 8) := by
 have h := Pp.find_bare hg n
 unfold Pp.useE
 rw [if_neg (by omega)]
 unfold Pp.readE at h
 cases hf : Pa.find s.l n with
 | none => rw [hf] at h; rw [← h] at hr; cases hr
 | some x => rfl
set_option maxHeartbeats 2000000 in
set_option maxRecDepth 100000 in
theorem pstep_use {w : World} {fp fd : Fp} {s : Pp.S} {F : List Nat} {t : Sf.St} {k b bf : Nat} {R : Nat → Prop} {v : Value} {m : Pa.M} (h : Pp.All w fp fd s F t k b bf R v m) (x : RawT) (a : Pa.Act) (free : Int) (hx : RawTOk x) (ha : a.n = x.n ∧ a.any = x.any) (hd : x.do_ = 6) :
  Calls Tryz.prog 13 #[.pointer (some ⟨b, 0, none⟩), v, .agg (actC x), .int .i64 free] w (IsStep R fp fd s t k b bf m w) := by
 have hz := (zero_of_info pa_zero).1
 obtain ⟨Z, hZ⟩ : ∃ Z, none9 = Z := ⟨_, rfl⟩
 have hzs : Z.size = 9 := by rw [← hZ]; rfl
 rw [hZ] at hz
 have hv9 : ∃ D : Array Value, v = .agg D ∧ D.size = 9 := by obtain ⟨A, c, e, _⟩ := h.ref; exact ⟨_, e, rfl⟩
 obtain ⟨D, rfl, hDs⟩ := hv9
 obtain ⟨E, hE⟩ : ∃ D, actC x = D := ⟨_, rfl⟩
 have hEs : E.size = 12 := by rw [← hE]; rfl
 obtain ⟨W, hW⟩ : ∃ W, ((w.alloc (.cells D 37)).alloc (.cells E 42)).alloc (.cells Z 37) = W := ⟨_, rfl⟩
 have hDT : Rw W w.heap.size 37 D := by rw [← hW]; exact ((Rw.new w _ _).old _).old _
 have hET : Rw W (w.heap.size + 1) 42 E := by rw [← hW]; exact (Rw.at_ (by simp) _ _).old _
 have hZT : Rw W (w.heap.size + 2) 37 Z := by rw [← hW]; exact Rw.at_ (by simp) _ _
 have hb : Below w.heap.size w W := by rw [← hW]; exact (((Below.refl _ _).alloc (Nat.le_refl _) _).alloc (by simp) _).alloc (by simp; omega) _
 have hWs : W.heap.size = w.heap.size + 3 := by rw [← hW]; simp
 have HAW := Lib.hid (h.below hb)
 have HA := Lib.hid h
 have hpa := pa_size
 have HSD : Hid ((Tryz.prog.info? 37).map (·.size) = some D.size) := by unfold Hid; rw [hDs]; exact hpa
 have HSE : Hid ((Tryz.prog.info? 42).map (·.size) = some E.size) := by unfold Hid; rw [hEs]; kernel_rfl
 have HNU := Lib.hid (pnumber_any R (.agg D) m x a W HAW.out.ref h.few ha hx.2.1)
 rw [hE] at HNU
 obtain ⟨n, hn⟩ : ∃ n, Pa.number m.l a = n := ⟨_, rfl⟩
 have hni : I64 n := by rw [← hn]; exact Pa.number_i64 h.goes.ok a (by rw [ha.1]; exact hx.2.1)
 rw [hn] at HNU
 have HDT := Lib.hid hDT
 have HET := Lib.hid hET
 have HZT := Lib.hid hZT
 have HB := Lib.hid hb
 have HWS := Lib.hid hWs
 have HEC : Hid (E[0]? = some (.int .i64 6)) := by unfold Hid; rw [← hE, ← hd]; rfl
 have HZS := Lib.hid hzs
 have HDP : Hid (D[2]? = some (.int .i64 m.root.pages)) := by unfold Hid; obtain ⟨A, c, e, _⟩ := h.ref; injection e with e; rw [e]; rfl
 have HPI : Hid (I64 m.root.pages) := by obtain ⟨A, c, e, hf, _⟩ := h.ref; exact hf.pages
 have HDS := Lib.hid hDs
 have HDO : Hid (D.all (·.oneCell') = true) := by unfold Hid; obtain ⟨A, c, e, _⟩ := h.ref; injection e with e; rw [e]; exact paC_one _ _ _ _ _
 have HNI := Lib.hid hni
 rw [hE]
 clear hni hDT hET hZT hb hWs hE hEs hDs hZ hzs hn hpa h hd hx ha
 go_enter Tryz.func13, Tryz.ntmps13
 go_wp2_with (first
  | ((with_reducible refine gate_load 37 ?_); refine wpList_load_row rfl 37 _ rfl w.heap.size rfl 37 D (0, 0) _ HDT.out Tryz.underlying37 rfl HSD.out ?_)
  | ((with_reducible refine gate_load 42 ?_); refine wpList_load_row rfl 42 _ rfl (w.heap.size + 1) rfl 42 E (0, 0) _ HET.out Tryz.underlying42 rfl HSE.out ?_))
 refine HNU.out.mono ?_
 rintro e w1 ⟨rfl, b1⟩
 have c0 : w1.cell? ⟨w.heap.size + 1, 0, none⟩ = some (.int .i64 6) := ((HET.out.below b1 HET.out.lt).cell 0).trans HEC.out
 have HA1 := Lib.hid (HAW.out.below b1)
 have HD1 : Hid (Rw w1 w.heap.size 37 D) := HDT.out.below b1 HDT.out.lt
 have HZ1 : Hid (Rw w1 (w.heap.size + 2) 37 Z) := HZT.out.below b1 HZT.out.lt
 have HB1 : Hid (Below w.heap.size w w1) := HB.out.trans (b1.mono HB.out.size)
 have HS1 : Hid (W.heap.size ≤ w1.heap.size) := b1.size
 obtain ⟨rr, hrr⟩ : ∃ x, Pa.read m.l n = x := ⟨_, rfl⟩
 have HCB := Lib.hid (rparead_any R (.agg D) m n w1 HA1.out.ref HA.out.few (fun x hx => (HA.out.goes.ok.from2 x hx).2.2.2.2.1))
 have hrv : (rr.2.2 = 0) ∨ (rr.2.2 = 7) := by
  rw [← hrr]
  unfold Pa.read
  split
  ·exact .inl rfl
  ·exact .inr rfl
 have HRT : Hid (s.root = m.root) := HA.out.goes.root
 have HUA : Hid ((n < 2 ∨ m.root.pages ≤ n) → Pp.useE s n = (s, 2)) := fun h => Pp.use_arg (by rw [HRT.out]; exact h)
 have HUT : Hid (2 ≤ n → n < m.root.pages → rr.2.2 = 0 → Pp.useE s n = (s, 8)) := fun h1 h2 h3 => Pp.use_twice HA.out.goes h1 (by rw [HRT.out]; exact h2) (by rw [hrr]; exact h3)
 rw [hrr] at HCB
 obtain ⟨r1, r2, r3⟩ := rr
 obtain ⟨pgs, hpgs⟩ : ∃ x, m.root.pages = x := ⟨_, rfl⟩
 rw [hpgs] at HUA HUT HDP HPI
 have hpi : I64 pgs := HPI.out
 have hni : I64 n := HNI.out
 clear b1 HNU hrr hpgs
 go_wp2_with ((with_reducible refine gate_load 37 ?_); refine wpList_load_row rfl 37 _ rfl w.heap.size rfl 37 D (0, 0) _ HD1.out Tryz.underlying37 rfl HSD.out ?_)
 refine HCB.out.mono ?_
 rintro e w2 ⟨A2, c2, rfl, o2, b2⟩
 have HB2 : Hid (Below w.heap.size w w2) := HB1.out.trans (b2.mono HB1.out.size)
 have HD2 : Hid (Rw w2 w.heap.size 37 D) := HD1.out.below b2 HD1.out.lt
 have HZ2 : Hid (Rw w2 (w.heap.size + 2) 37 Z) := HZ1.out.below b2 HZ1.out.lt
 have HA2 := Lib.hid (HA1.out.below b2)
 have c2' : w2.cell? ⟨w.heap.size, 2, none⟩ = some (.int .i64 pgs) := (HD2.out.cell 2).trans HDP.out
 have hzc : Z.size = D.size := by rw [HZS.out, HDS.out]
 have HZC := Lib.hid hzc
 have HS2 : Hid (w.heap.size + 3 ≤ w2.heap.size) := by have := HS1.out; have := HWS.out; have := b2.size; unfold Hid; omega
 clear b2 o2 HCB hzc
 by_cases h2 : n < 2
 ·have hU := HUA.out (.inl h2)
  go_wp2_with fail
  have hS0 : StU w.heap.size D w2.drew := ⟨HD2.out, Z, HZC.out, HZ2.out⟩
  have HP2 := Lib.hid (ppuse_any n (ppager_turned HA2.out.pager ((Turned.refl (fun _ => False) w2).drew) (fun _ h => h.elim)) HNI.out)
  rw [hU] at HP2
  refine wp_region_held_drew (S := StU w.heap.size D) (by kernel_rfl) hS0 (fun hH => ?_)
  refine zH (i := 0) (v := .agg D) rfl (by kernel_rfl) (fun _ _ _ h => h) (Or.inl ⟨by rfl, fun w' hSw => exec_load_row _ _ rfl w.heap.size rfl 37 D (0, 0) _ w' hSw.1 Tryz.underlying37 rfl HSD.out⟩) hH ?_
  try simp only [Act.put, zA, zC, zD, zE, zF]
  refine zH (i := 1) (v := ?_) rfl (by kernel_rfl) (fun _ _ _ h => h) (Or.inl ⟨by rfl, (by intro w' hSw; go_simp; first | done | with_reducible rfl)⟩) hH ?_
  try simp only [Act.put, zA, zB, zC, zD, zE, zF]
  refine zH (i := 2) (v := ?_) rfl (by kernel_rfl) (fun _ _ _ h => h) (Or.inl ⟨by rfl, (by intro w' hSw; go_simp; first | done | with_reducible rfl)⟩) hH ?_
  try simp only [Act.put, zA, zB, zC, zD, zE, zF]
  refine zH (i := 4) (v := ?_) rfl (by kernel_rfl) (fun _ _ _ h => h) (Or.inl ⟨by rfl, (by intro w' hSw; go_simp; first | done | with_reducible rfl)⟩) hH ?_
  try simp only [Act.put, zA, zB, zC, zD, zE, zF]
  refine wpAnyH_ready (rs := [3]) (by kernel_rfl) (by simp) ?_
  refine AllReadyH.cons rfl (fun K hK => ?_) AllReadyH.nil
  go_simp
  refine HP2.out.mono ?_
  rintro e w3 ⟨rfl, f3, hP3, hN3, hT3⟩
  have hlp : fp.Lt w.heap.size := ppager_lt HA.out.pager
  have hno : ∀ q, w.heap.size ≤ q → ¬ fp.M q := fun q hq hm => by have := hlp q (.inl hm); omega
  have HD3 : Hid (Rw w3 w.heap.size 37 D) := (hT3.block _ HD2.out.lt (hno _ (Nat.le_refl _))).trans HD2.out
  have HZ3 : Hid (Rw w3 (w.heap.size + 2) 37 Z) := (hT3.block _ HZ2.out.lt (hno _ (by omega))).trans HZ2.out
  have hS1 : StU w.heap.size D w3 := ⟨HD3.out, Z, HZC.out, HZ3.out⟩
  have HTP : Hid (TurnsP fp s F b bf w2.drew w3) := ⟨f3, hP3, hN3, hT3⟩
  have HV3 : Hid (PaIs w3 (RX R w3 w3) (.agg D) m) := ((HA2.out.ref.turned_ ((Turned.refl (fun _ => False) w2).drew) (fun _ _ h => h)).turned_ hT3 HA.out.offp).more_ (fun q hq => .inl hq)
  refine hK.out _ _ hS1 (fun hH => ?_)
  clear hK K hP3 hN3 hT3 hlp hno HP2 hS0
  try simp only []
  refine zH (i := 5) (v := ?_) rfl (by kernel_rfl) (fun _ _ _ h => h) (Or.inl ⟨by rfl, (by intro w' hSw; go_simp; first | done | with_reducible rfl)⟩) hH ?_
  try simp only [Act.put, zA, zB, zC, zD, zE, zF]
  refine wpAnyH_ready (rs := [6]) (by kernel_rfl) (by simp) ?_
  refine AllReadyH.cons rfl (fun K hK => ?_) AllReadyH.nil
  rw [if_pos (by rfl)]
  refine wp_store_row 37 (.tmp 8) (.tmp 184) rfl (w.heap.size + 2) D rfl rfl 37 Z HZ3.out HSD.out HZC.out HDO.out ?_
  have HR6 : Hid (Rw (w3.setRow (w.heap.size + 2) D) (w.heap.size + 2) 37 D) := Rw.row HZ3.out D
  have hS6 : StU w.heap.size D (w3.setRow (w.heap.size + 2) D) := ⟨HD3.out.rowOther (by omega) _, D, rfl, HR6.out⟩
  have HTX : Hid (Turned (fun q => q = w.heap.size + 2) w3 (w3.setRow (w.heap.size + 2) D)) := (Turned.refl (fun q => q = w.heap.size + 2) w3).setRow (fun _ => rfl) _
  refine hK.out _ _ hS6 (fun hH => ?_)
  clear hK K
  try simp only [Act.put, zA, zB, zC]
  refine zH (i := 7) (v := ?_) rfl (by kernel_rfl) (fun _ _ _ h => h) (Or.inl ⟨by rfl, (by intro w' hSw; go_simp; first | done | with_reducible rfl)⟩) hH ?_
  try simp only [Act.put, zA, zB, zC, zD, zE, zF]
  refine wpAnyH_done (by kernel_rfl) ?_ _
  clear hH hS6 hS1
  generalize w3.setRow (w.heap.size + 2) D = X at *
  try go_wp2
  refine bodyPost_ret (v := .tuple #[.agg D, .bool true]) (results_pa rfl _ _ (w.heap.size + 2) D _ _ rfl rfl HSD.out HR6.out) rfl (HA.out.step HB2.out.drew HTP.out rfl ⟨rfl, by first | exact Nat.le_succ _ | exact Nat.le_refl _⟩ HA.out.goes HV3.out (Below.refl _ _) HTX.out (fun q hq => ?_))
  have := HS2.out
  have e : w2.drew.heap.size = w2.heap.size := rfl
  omega
 by_cases hp : pgs ≤ n
 ·have hU := HUA.out (.inr hp)
  go_wp2_with fail
  have hS0 : StU w.heap.size D w2.drew := ⟨HD2.out, Z, HZC.out, HZ2.out⟩
  have HP2 := Lib.hid (ppuse_any n (ppager_turned HA2.out.pager ((Turned.refl (fun _ => False) w2).drew) (fun _ h => h.elim)) HNI.out)
  rw [hU] at HP2
  refine wp_region_held_drew (S := StU w.heap.size D) (by kernel_rfl) hS0 (fun hH => ?_)
  refine zH (i := 0) (v := .agg D) rfl (by kernel_rfl) (fun _ _ _ h => h) (Or.inl ⟨by rfl, fun w' hSw => exec_load_row _ _ rfl w.heap.size rfl 37 D (0, 0) _ w' hSw.1 Tryz.underlying37 rfl HSD.out⟩) hH ?_
  try simp only [Act.put, zA, zC, zD, zE, zF]
  refine zH (i := 1) (v := ?_) rfl (by kernel_rfl) (fun _ _ _ h => h) (Or.inl ⟨by rfl, (by intro w' hSw; go_simp; first | done | with_reducible rfl)⟩) hH ?_
  try simp only [Act.put, zA, zB, zC, zD, zE, zF]
  refine zH (i := 2) (v := ?_) rfl (by kernel_rfl) (fun _ _ _ h => h) (Or.inl ⟨by rfl, (by intro w' hSw; go_simp; first | done | with_reducible rfl)⟩) hH ?_
  try simp only [Act.put, zA, zB, zC, zD, zE, zF]
  refine zH (i := 4) (v := ?_) rfl (by kernel_rfl) (fun _ _ _ h => h) (Or.inl ⟨by rfl, (by intro w' hSw; go_simp; first | done | with_reducible rfl)⟩) hH ?_
  try simp only [Act.put, zA, zB, zC, zD, zE, zF]
  refine wpAnyH_ready (rs := [3]) (by kernel_rfl) (by simp) ?_
  refine AllReadyH.cons rfl (fun K hK => ?_) AllReadyH.nil
  go_simp
  refine HP2.out.mono ?_
  rintro e w3 ⟨rfl, f3, hP3, hN3, hT3⟩
  have hlp : fp.Lt w.heap.size := ppager_lt HA.out.pager
  have hno : ∀ q, w.heap.size ≤ q → ¬ fp.M q := fun q hq hm => by have := hlp q (.inl hm); omega
  have HD3 : Hid (Rw w3 w.heap.size 37 D) := (hT3.block _ HD2.out.lt (hno _ (Nat.le_refl _))).trans HD2.out
  have HZ3 : Hid (Rw w3 (w.heap.size + 2) 37 Z) := (hT3.block _ HZ2.out.lt (hno _ (by omega))).trans HZ2.out
  have hS1 : StU w.heap.size D w3 := ⟨HD3.out, Z, HZC.out, HZ3.out⟩
  have HTP : Hid (TurnsP fp s F b bf w2.drew w3) := ⟨f3, hP3, hN3, hT3⟩
  have HV3 : Hid (PaIs w3 (RX R w3 w3) (.agg D) m) := ((HA2.out.ref.turned_ ((Turned.refl (fun _ => False) w2).drew) (fun _ _ h => h)).turned_ hT3 HA.out.offp).more_ (fun q hq => .inl hq)
  refine hK.out _ _ hS1 (fun hH => ?_)
  clear hK K hP3 hN3 hT3 hlp hno HP2 hS0
  try simp only []
  refine zH (i := 5) (v := ?_) rfl (by kernel_rfl) (fun _ _ _ h => h) (Or.inl ⟨by rfl, (by intro w' hSw; go_simp; first | done | with_reducible rfl)⟩) hH ?_
  try simp only [Act.put, zA, zB, zC, zD, zE, zF]
  refine wpAnyH_ready (rs := [6]) (by kernel_rfl) (by simp) ?_
  refine AllReadyH.cons rfl (fun K hK => ?_) AllReadyH.nil
  rw [if_pos (by rfl)]
  refine wp_store_row 37 (.tmp 8) (.tmp 184) rfl (w.heap.size + 2) D rfl rfl 37 Z HZ3.out HSD.out HZC.out HDO.out ?_
  have HR6 : Hid (Rw (w3.setRow (w.heap.size + 2) D) (w.heap.size + 2) 37 D) := Rw.row HZ3.out D
  have hS6 : StU w.heap.size D (w3.setRow (w.heap.size + 2) D) := ⟨HD3.out.rowOther (by omega) _, D, rfl, HR6.out⟩
  have HTX : Hid (Turned (fun q => q = w.heap.size + 2) w3 (w3.setRow (w.heap.size + 2) D)) := (Turned.refl (fun q => q = w.heap.size + 2) w3).setRow (fun _ => rfl) _
  refine hK.out _ _ hS6 (fun hH => ?_)
  clear hK K
  try simp only [Act.put, zA, zB, zC]
  refine zH (i := 7) (v := ?_) rfl (by kernel_rfl) (fun _ _ _ h => h) (Or.inl ⟨by rfl, (by intro w' hSw; go_simp; first | done | with_reducible rfl)⟩) hH ?_
  try simp only [Act.put, zA, zB, zC, zD, zE, zF]
  refine wpAnyH_done (by kernel_rfl) ?_ _
  clear hH hS6 hS1
  generalize w3.setRow (w.heap.size + 2) D = X at *
  try go_wp2
  refine bodyPost_ret (v := .tuple #[.agg D, .bool true]) (results_pa rfl _ _ (w.heap.size + 2) D _ _ rfl rfl HSD.out HR6.out) rfl (HA.out.step HB2.out.drew HTP.out rfl ⟨rfl, by first | exact Nat.le_succ _ | exact Nat.le_refl _⟩ HA.out.goes HV3.out (Below.refl _ _) HTX.out (fun q hq => ?_))
  have := HS2.out
  have e : w2.drew.heap.size = w2.heap.size := rfl
  omega
 rcases hrv with hrv | hrv
 ·subst hrv
  have hU := HUT.out (by omega) (by omega) rfl
  go_wp2_with fail
  have hS0 : StU w.heap.size D w2.drew := ⟨HD2.out, Z, HZC.out, HZ2.out⟩
  have HP2 := Lib.hid (ppuse_any n (ppager_turned HA2.out.pager ((Turned.refl (fun _ => False) w2).drew) (fun _ h => h.elim)) HNI.out)
  rw [hU] at HP2
  refine wp_region_held_drew (S := StU w.heap.size D) (by kernel_rfl) hS0 (fun hH => ?_)
  refine zH (i := 0) (v := .agg D) rfl (by kernel_rfl) (fun _ _ _ h => h) (Or.inl ⟨by rfl, fun w' hSw => exec_load_row _ _ rfl w.heap.size rfl 37 D (0, 0) _ w' hSw.1 Tryz.underlying37 rfl HSD.out⟩) hH ?_
  try simp only [Act.put, zA, zC, zD, zE, zF]
  refine zH (i := 1) (v := ?_) rfl (by kernel_rfl) (fun _ _ _ h => h) (Or.inl ⟨by rfl, (by intro w' hSw; go_simp; first | done | with_reducible rfl)⟩) hH ?_
  try simp only [Act.put, zA, zB, zC, zD, zE, zF]
  refine zH (i := 2) (v := ?_) rfl (by kernel_rfl) (fun _ _ _ h => h) (Or.inl ⟨by rfl, (by intro w' hSw; go_simp; first | done | with_reducible rfl)⟩) hH ?_
  try simp only [Act.put, zA, zB, zC, zD, zE, zF]
  refine zH (i := 4) (v := ?_) rfl (by kernel_rfl) (fun _ _ _ h => h) (Or.inl ⟨by rfl, (by intro w' hSw; go_simp; first | done | with_reducible rfl)⟩) hH ?_
  try simp only [Act.put, zA, zB, zC, zD, zE, zF]
  refine wpAnyH_ready (rs := [3]) (by kernel_rfl) (by simp) ?_
  refine AllReadyH.cons rfl (fun K hK => ?_) AllReadyH.nil
  go_simp
  refine HP2.out.mono ?_
  rintro e w3 ⟨rfl, f3, hP3, hN3, hT3⟩
  have hlp : fp.Lt w.heap.size := ppager_lt HA.out.pager
  have hno : ∀ q, w.heap.size ≤ q → ¬ fp.M q := fun q hq hm => by have := hlp q (.inl hm); omega
  have HD3 : Hid (Rw w3 w.heap.size 37 D) := (hT3.block _ HD2.out.lt (hno _ (Nat.le_refl _))).trans HD2.out
  have HZ3 : Hid (Rw w3 (w.heap.size + 2) 37 Z) := (hT3.block _ HZ2.out.lt (hno _ (by omega))).trans HZ2.out
  have hS1 : StU w.heap.size D w3 := ⟨HD3.out, Z, HZC.out, HZ3.out⟩
  have HTP : Hid (TurnsP fp s F b bf w2.drew w3) := ⟨f3, hP3, hN3, hT3⟩
  have HV3 : Hid (PaIs w3 (RX R w3 w3) (.agg D) m) := ((HA2.out.ref.turned_ ((Turned.refl (fun _ => False) w2).drew) (fun _ _ h => h)).turned_ hT3 HA.out.offp).more_ (fun q hq => .inl hq)
  refine hK.out _ _ hS1 (fun hH => ?_)
  clear hK K hP3 hN3 hT3 hlp hno HP2 hS0
  try simp only []
  refine zH (i := 5) (v := ?_) rfl (by kernel_rfl) (fun _ _ _ h => h) (Or.inl ⟨by rfl, (by intro w' hSw; go_simp; first | done | with_reducible rfl)⟩) hH ?_
  try simp only [Act.put, zA, zB, zC, zD, zE, zF]
  refine wpAnyH_ready (rs := [6]) (by kernel_rfl) (by simp) ?_
  refine AllReadyH.cons rfl (fun K hK => ?_) AllReadyH.nil
  rw [if_pos (by rfl)]
  refine wp_store_row 37 (.tmp 8) (.tmp 184) rfl (w.heap.size + 2) D rfl rfl 37 Z HZ3.out HSD.out HZC.out HDO.out ?_
  have HR6 : Hid (Rw (w3.setRow (w.heap.size + 2) D) (w.heap.size + 2) 37 D) := Rw.row HZ3.out D
  have hS6 : StU w.heap.size D (w3.setRow (w.heap.size + 2) D) := ⟨HD3.out.rowOther (by omega) _, D, rfl, HR6.out⟩
  have HTX : Hid (Turned (fun q => q = w.heap.size + 2) w3 (w3.setRow (w.heap.size + 2) D)) := (Turned.refl (fun q => q = w.heap.size + 2) w3).setRow (fun _ => rfl) _
  refine hK.out _ _ hS6 (fun hH => ?_)
  clear hK K
  try simp only [Act.put, zA, zB, zC]
  refine zH (i := 7) (v := ?_) rfl (by kernel_rfl) (fun _ _ _ h => h) (Or.inl ⟨by rfl, (by intro w' hSw; go_simp; first | done | with_reducible rfl)⟩) hH ?_
  try simp only [Act.put, zA, zB, zC, zD, zE, zF]
  refine wpAnyH_done (by kernel_rfl) ?_ _
  clear hH hS6 hS1
  generalize w3.setRow (w.heap.size + 2) D = X at *
  try go_wp2
  refine bodyPost_ret (v := .tuple #[.agg D, .bool true]) (results_pa rfl _ _ (w.heap.size + 2) D _ _ rfl rfl HSD.out HR6.out) rfl (HA.out.step HB2.out.drew HTP.out rfl ⟨rfl, by first | exact Nat.le_succ _ | exact Nat.le_refl _⟩ HA.out.goes HV3.out (Below.refl _ _) HTX.out (fun q hq => ?_))
  have := HS2.out
  have e : w2.drew.heap.size = w2.heap.size := rfl
  omega
 ·subst hrv
  have hzc := HZC.out
  have HV1 : Hid (PaIs w2 (RX R w2 w2) (.agg D) m) := HA2.out.ref.more_ (fun q hq => .inl hq)
  have HTP : Hid (TurnsP fp s F b bf w2 w2) := ⟨fp, HA2.out.pager, Fp.Next.refl _ _, Turned.refl _ _⟩
  go_wp2_with (first
   | ((with_reducible refine gate_load 37 ?_); refine wpList_load_row rfl 37 _ rfl w.heap.size rfl 37 D (0, 0) _ HD2.out Tryz.underlying37 rfl HSD.out ?_)
   | ((with_reducible refine gate_store 37 ?_); refine wpList_store_row rfl 37 _ _ rfl (w.heap.size + 2) D rfl rfl 37 Z HZ2.out HSD.out hzc HDO.out ?_))
  have HTX : Hid (Turned (fun q => q = w.heap.size + 2) w2 (w2.setRow (w.heap.size + 2) D)) := (Turned.refl (fun q => q = w.heap.size + 2) w2).setRow (fun _ => rfl) _
  have HRX : Hid (Rw (w2.setRow (w.heap.size + 2) D) (w.heap.size + 2) 37 D) := Rw.row HZ2.out D
  generalize w2.setRow (w.heap.size + 2) D = X at *
  clear hzc
  try go_wp2
  refine bodyPost_ret (v := .tuple #[.agg D, .bool true]) (results_pa rfl _ _ (w.heap.size + 2) D _ _ rfl rfl HSD.out HRX.out) rfl (HA.out.step HB2.out HTP.out rfl ⟨rfl, by first | exact Nat.le_succ _ | exact Nat.le_refl _⟩ HA.out.goes HV1.out (Below.refl _ _) HTX.out (fun q hq => ?_))
  have := HS2.out
  omega
end Go.Proofs.YtiafeniflkikeaaGreat
namespace Go.Proofs.YtiafeniflkikeaaGreat
open Go.RowKit
set_option linter.unusedVariables false
theorem pstep_any {w : World} {fp fd : Fp} {s : Pp.S} {F : List Nat} {t : Sf.St} {k b bf : Nat} {R : Nat → Prop} {v : Value} {m : Pa.M} (h : Pp.All w fp fd s F t k b bf R v m) (x : RawT) (a : Pa.Act) (free : Int) (hx : RawTOk x) {B : Nat} (hao : ActOf w B x a) (hB : B ≤ w.heap.size) (hBM : ∀ q, q < B → ¬ fp.M q) (hbl : a.body.length ≤ 140737488351232)
  (hfr : free = (t.room : Int) - Sf.used t) (hfi : I64 free) (hac : Pp.cost s t ≤ 1099511300000) :
  Calls Tryz.prog 13 #[.pointer (some ⟨b, 0, none⟩), v, .agg (actC x), .int .i64 free] w (IsStep R fp fd s t k b bf (Pa.stepM m a free) w) := by
 have ha : a.n = x.n ∧ a.any = x.any := ⟨hao.2.1, hao.2.2.1⟩
 have hd : a.do_ = x.do_ := hao.1
 have hr : a.root = x.root := hao.2.2.2.2.1
 unfold Pa.stepM
 by_cases h0 : a.do_ = 0
 ·rw [if_pos h0]; exact pstep_add h x a free hx hao hB hBM hbl (by rw [← hd]; exact h0)
 rw [if_neg h0]
 by_cases h1 : a.do_ = 1
 ·rw [if_pos h1]; exact pstep_drop h x a free hx ha (by rw [← hd]; exact h1)
 rw [if_neg h1]
 by_cases h2 : a.do_ = 2
 ·rw [if_pos h2]; exact pstep_commit h x a free hx ha hr hfr hfi hac (by rw [← hd]; exact h2)
 rw [if_neg h2]
 by_cases h3 : a.do_ = 3
 ·rw [if_pos h3]; exact pstep_back h x a free hx ha (by rw [← hd]; exact h3)
 rw [if_neg h3]
 by_cases h4 : a.do_ = 4
 ·exact pstep_read h x a free hx ha (Nat.le_trans (Nat.le_trans (Nat.le_max_right _ _) hac) (by decide)) (by rw [← hd]; exact h4)
 by_cases h6 : a.do_ = 6
 ·exact pstep_use h x a free hx ha (by rw [← hd]; exact h6)
 exact pstep_none h x a free hx ha (by rw [← hd]; exact ⟨h0, h1, h2, h3, h4, h6⟩)
end Go.Proofs.YtiafeniflkikeaaGreat
namespace Go.Proofs.YtiafeniflkikeaaGreat
open Go.RowKit
theorem pused_bound {w : World} {fp : Fp} {t : Sf.St} {b : Nat} (h : PDisk w fp t b) : Sf.used t ≤ 67108864 := by
 obtain ⟨who, bf, bs, bn, vr, ff, rn, h⟩ := h
 unfold Sf.used
 split
 ·exact Nat.zero_le _
 ·have h1 := (h.good.lens t.seen (.inr (.inl rfl))).1
  have h2 := Sf.lens_bound (t := t) (m := 1048576) t.seen (fun e he => by
   obtain ⟨x, _, _, hx⟩ := h.file_at (n := e.2) ⟨t.seen, .inr (.inl rfl), e, he, rfl⟩
   exact hx.len_le)
  omega
end Go.Proofs.YtiafeniflkikeaaGreat
namespace Go.Proofs.YtiafeniflkikeaaGreat
open Go.RowKit
set_option linter.unusedVariables false
theorem Pa.commit_size (m : Pa.M) (r : Rt.Root) (free : Int) : m.size ≤ (Pa.commit m r free).1.size := by
 by_cases h : (Pa.commit m r free).2 = 0
 ·unfold Pa.commit at h ⊢
  split at h
  ·simp at h
  ·rename_i h1
   split at h
   ·simp at h
   ·rename_i h2
    rw [if_neg h1, if_neg h2]
    exact Pp.sizeL_base _ _
 ·rw [Pp.commit_no h]; exact Nat.le_refl _
theorem Pa.add_size (m : Pa.M) (kd : Nat) (b : List Nat) : (Pa.add m kd b).1.size = m.size := by
 unfold Pa.add
 split
 ·rfl
 ·split <;> rfl
theorem Pa.drop_size (m : Pa.M) (n : Int) : (Pa.drop m n).1.size = m.size := by
 unfold Pa.drop
 split
 ·rfl
 ·split
  ·rfl
  ·split <;> rfl
theorem Pa.stepM_size (m : Pa.M) (a : Pa.Act) (free : Int) : m.size ≤ (Pa.stepM m a free).size := by
 unfold Pa.stepM
 split
 ·rw [Pa.add_size]; exact Nat.le_refl _
 ·split
  ·rw [Pa.drop_size]; exact Nat.le_refl _
  ·split
   ·exact Pa.commit_size _ _ _
   ·split <;> exact Nat.le_refl _
def Pp.tr (room : Nat) (F : List Nat) (a : Nat) : Sf.St := { (Sf.new room) with files := [⟨F, []⟩], seen := Sf.with_ [] ⟨#[105]⟩ 0, row := [] ++ [Sf.with_ [] ⟨#[105]⟩ 0], acts := a }
theorem Pp.tr_get (room : Nat) (F : List Nat) (a : Nat) : Sf.get (Pp.tr room F a) ⟨#[105]⟩ = (0, 0) := by
 unfold Sf.get Pp.tr
 rw [if_neg (by intro h; cases h)]
 have : Sf.find (Sf.with_ [] ⟨#[105]⟩ 0) ⟨#[105]⟩ = some 0 := by decide +kernel
 show (match Sf.find (Sf.with_ [] ⟨#[105]⟩ 0) ⟨#[105]⟩ with | none => (0, 7) | some n => (n, 0)) = (0, 0)
 rw [this]
theorem Pp.tr_file (room : Nat) (F : List Nat) (a : Nat) : Sf.now (Sf.fileAt (Pp.tr room F a) 0) = F := rfl
theorem Pp.tr_used (room : Nat) (F : List Nat) (a : Nat) : Sf.used (Pp.tr room F a) = F.length := by
 have e : Sf.with_ [] (⟨#[105]⟩ : ByteArray) 0 = [(⟨#[105]⟩, 0)] := rfl
 unfold Sf.used
 rw [if_neg (by intro h; cases h)]
 show Sf.lens (Pp.tr room F a) (Sf.with_ [] ⟨#[105]⟩ 0) = _
 rw [e]
 simp [Sf.lens, Sf.len, Pp.tr_file]
theorem Pp.tr_nums (room : Nat) (F : List Nat) (a : Nat) : ((Pp.tr room F a).seen.map (·.2)).Nodup := by
 rw [show (Pp.tr room F a).seen = [(⟨#[105]⟩, 0)] from rfl]
 simp
section
variable {w w' : World} {fp fd fp' : Fp} {s s' : Pp.S} {F : List Nat} {t : Sf.St} {k b bf b' : Nat} {R : Nat → Prop} {v v' : Value} {m : Pa.M}
theorem Pp.All.openE (h : Pp.All w fp fd s F t k b bf R v m) (h1 : 1024 ≤ m.size) {cache : Int} (h0 : 0 ≤ cache) (h2 : cache ≤ 256) : Pp.openE t s.name cache = (some ⟨s.name, m.root, cache.toNat, [], 0⟩, 0) := by
 unfold Pp.openE
 rw [if_neg (by omega), h.well.get, if_neg (by simp)]
 simp only [h.well.file]
 rw [if_neg (by have := h.goes.size; omega), h.goes.told, if_neg (by simp)]
theorem Pp.All.again (h : Pp.All w fp fd s F t k b bf R v m) {n : Nat} (hv : PaIs w' (fun q => R q ∨ (w.heap.size ≤ q ∧ q < n)) v' (Pa.back m)) (hp : PPager w' fp' s' F b' bf) (hs : Pp.Is s' (Pa.back m)) (hn : s'.name = s.name)
  (hf : fp'.From n) (h1 : w.heap.size ≤ n) (h2 : n ≤ w'.heap.size) (hb : Below w.heap.size w w') :
  Pp.All w' fp' fd s' F t k b' bf (fun q => R q ∨ (w.heap.size ≤ q ∧ q < n)) v' (Pa.back m) := by
 have hld : fd.Lt w.heap.size := pdisk_law.lt h.disk
 have hg := h.goes.back
 refine ⟨hp, pdisk_law.below h.disk hb, ⟨hf.off fun q hq => Nat.lt_of_lt_of_le (hld q (.inl hq)) h1, hld.off fun q hq => Nat.le_trans h1 (hf q (.inl hq))⟩, hv, fun q hq => ?_, fun q hq hm => ?_, fun q hq hm => ?_, ?_, by rw [hn]; exact h.well, Nat.le_trans (Pa.backL_le _) h.few⟩
 ·rcases hq with hq | hq
  ·exact Nat.lt_of_lt_of_le (h.old q hq) hb.size
  ·omega
 ·have h3 := hf q (.inl hm)
  rcases hq with hq | hq
  ·have := h.old q hq; omega
  ·omega
 ·rcases hq with hq | hq
  ·exact h.offd q hq hm
  ·have := hld q (.inl hm); omega
 ·exact ⟨hs.root, hs.l, hg.ok, hg.size, hg.page, hg.less, hg.told⟩
theorem Pp.All.turn (h : Pp.All w fp fd s F t k b bf R v m) {g : Nat} (ht : Turned (fun q => q = g) w w') (hp : ¬ fp.M g ∧ ¬ fp.R g) (hd : ¬ fd.M g ∧ ¬ fd.R g) (hR : ¬ R g) : Pp.All w' fp fd s F t k b bf R v m :=
 ⟨ppager_turned h.pager ht (fun q hq => by subst hq; exact hp), pdisk_law.turned h.disk ht (fun q hq => by subst hq; exact hd), h.apart, h.ref.turned_ ht (fun q hq e => hR (e ▸ hq)), fun q hq => Nat.lt_of_lt_of_le (h.old q hq) ht.size, h.offp, h.offd, h.goes, h.well, h.few⟩
end
end Go.Proofs.YtiafeniflkikeaaGreat
