/- Parts of the proof. -/
import Derived.Test.YtiafeniflkikeaaGreatPm13
import Derived.Test.YtiafeniflkikeaaGreatPm26
import Derived.Test.YtiafeniflkikeaaGreatPm24
import Derived.Test.YtiafeniflkikeaaGreatPm03
import Derived.Deep.RegionHeld3
import Derived.Test.YtiafeniflkikeaaGreatPm12
import Derived.Deep.QuietTactic
import Derived.BigQuiet
namespace Go.Proofs.YtiafeniflkikeaaGreat
open Go.RowKit
set_option linter.unusedVariables false
set_option maxHeartbeats 4000000 in
set_option maxRecDepth 100000 in
theorem pchanged_any (c : RawC) (x : RawX) (l m : List Nat) (rc : List RawC) (w : World) (B : Nat) (hrow : OwnL cK w 0 (slV x.row) rc) (hnow : OwnL yK w 0 (slV x.now) l) (hm : Lv yK w B (slV c.sl) m) (hB : B ≤ w.heap.size)
  (hap1 : Apart (slV x.row) (slV x.now)) (hap2 : 0 < m.length → Apart (slV c.sl) (slV x.now)) (hap3 : 0 < m.length → Apart (slV c.sl) (slV x.row)) (ha : c.at_ ≤ l.length) (hl : l.length ≤ 1099511627776) (hml : m.length ≤ 1099511627776) (hc : c.at_ ≤ 1048576) (hrl : rc.length ≤ 2199023255552) :
  Calls Tryz.prog 132 #[xV x, cV c] w (fun e w' => ∃ u v : Sl, e = .returned (xV ⟨x.sure, u, v⟩) ∧ OwnL cK w' 0 (slV u) (rc ++ [c]) ∧ OwnL yK w' 0 (slV v) (Sf.done l ⟨c.cut, c.at_, m⟩) ∧
   Turned (fun k => (slV x.row).ownBlock = some k ∨ (slV x.now).ownBlock = some k) w w' ∧ Moved w (slV x.row) (slV u) ∧ Moved w (slV x.now) (slV v) ∧ Apart (slV u) (slV v)) := by
 obtain ⟨at_, ⟨Ac, nc, cc⟩, cut⟩ := c
 obtain ⟨⟨A1, n1, c1⟩, ⟨A2, n2, c2⟩, ⟨A3, n3, c3⟩⟩ := x
 simp only [slV] at hrow hnow hm hap1 hap2 hap3 ⊢
 simp only at ha hc
 change Calls _ _ #[.agg #[.slice A1 n1 c1, .slice A2 n2 c2, .slice A3 n3 c3], .agg #[.int .i64 (at_ : Nat), .slice Ac nc cc, .bool cut]] w _
 obtain ⟨W, hW⟩ : ∃ W, ((w.alloc (.cells #[.slice A1 n1 c1, .slice A2 n2 c2, .slice A3 n3 c3] 105)).alloc (.cells #[.int .i64 (at_ : Nat), .slice Ac nc cc, .bool cut] 153)).alloc (.cells #[.slice none 0 0, .slice none 0 0, .slice none 0 0] 105) = W := ⟨_, rfl⟩
 have hWs : W.heap.size = w.heap.size + 3 := by rw [← hW]; simp
 have hW0 : W.heap[w.heap.size]? = some (.cells #[.slice A1 n1 c1, .slice A2 n2 c2, .slice A3 n3 c3] 105 (0, 0)) := by
  rw [← hW, heap_alloc_old _ _ (by simp; omega), heap_alloc_old _ _ (by simp)]; exact heap_alloc_new _ _
 have hW1 : W.heap[w.heap.size + 1]? = some (.cells #[.int .i64 (at_ : Nat), .slice Ac nc cc, .bool cut] 153 (0, 0)) := by
  rw [← hW, heap_alloc_old _ _ (by simp)]
  have := heap_alloc_new (w.alloc (.cells #[.slice A1 n1 c1, .slice A2 n2 c2, .slice A3 n3 c3] 105)) (.cells #[.int .i64 (at_ : Nat), .slice Ac nc cc, .bool cut] 153)
  simpa using this
 have hW2 : W.heap[w.heap.size + 2]? = some (.cells #[.slice none 0 0, .slice none 0 0, .slice none 0 0] 105 (0, 0)) := by
  rw [← hW]
  have := heap_alloc_new ((w.alloc (.cells #[.slice A1 n1 c1, .slice A2 n2 c2, .slice A3 n3 c3] 105)).alloc (.cells #[.int .i64 (at_ : Nat), .slice Ac nc cc, .bool cut] 153)) (.cells #[.slice none 0 0, .slice none 0 0, .slice none 0 0] 105)
  simpa using this
 have hb : Below w.heap.size w W := by rw [← hW]; exact (((Below.refl _ _).alloc (Nat.le_refl _) _).alloc (by simp) _).alloc (by simp; omega) _
 -- what stays
 have HF : Hid (∀ k, (Value.slice A2 n2 c2).ownBlock = some k ∨ (Value.slice A3 n3 c3).ownBlock = some k → k < w.heap.size) := fun k hk => hk.elim (fun h => (hrow.lt_ k h).2) (fun h => (hnow.lt_ k h).2)
 obtain ⟨F, hF⟩ : ∃ F : Nat → Prop, (fun k => (Value.slice A2 n2 c2).ownBlock = some k ∨ (Value.slice A3 n3 c3).ownBlock = some k) = F := ⟨_, rfl⟩
 have HF2 : Hid (∀ k, (Value.slice A2 n2 c2).ownBlock = some k → F k) := fun k hk => by rw [← hF]; exact .inl hk
 have HF3 : Hid (∀ k, (Value.slice A3 n3 c3).ownBlock = some k → F k) := fun k hk => by rw [← hF]; exact .inr hk
 have HFL : Hid (∀ k, F k → k < w.heap.size) := fun k hk => by rw [← hF] at hk; exact HF.out k hk
 obtain ⟨G, hG⟩ : ∃ G : Nat → Prop, (fun k => F k ∨ k = w.heap.size + 2) = G := ⟨_, rfl⟩
 have HGF : Hid (∀ k, F k → G k) := fun k hk => by rw [← hG]; exact .inl hk
 have HG2 : Hid (G (w.heap.size + 2)) := by rw [← hG]; exact .inr rfl
 have HGL : Hid (∀ k, G k → k < w.heap.size ∨ k = w.heap.size + 2) := fun k hk => by rw [← hG] at hk; exact hk.imp (HFL.out k) id
 have hcell : ∀ (p : Nat) (cs : Array Value) (T : TypeId), w.heap.size ≤ p → p < w.heap.size + 2 → W.heap[p]? = some (.cells cs T (0, 0)) → ∀ w', Turned G W w' → w'.heap[p]? = some (.cells cs T (0, 0)) := fun p cs T hp hp2 hh w' ht => by
  refine (ht.block p (Array.getElem?_eq_some_iff.1 hh).1 (fun hf => ?_)).trans hh
  have := HGL.out p hf
  omega
 have HX : Hid (∀ w', Turned G W w' → w'.cell? ⟨w.heap.size, 0, none⟩ = some (.slice A1 n1 c1) ∧ w'.cell? ⟨w.heap.size, 1, none⟩ = some (.slice A2 n2 c2) ∧ w'.cell? ⟨w.heap.size, 2, none⟩ = some (.slice A3 n3 c3)) := fun w' ht => by
  have h := hcell _ _ _ (Nat.le_refl _) (by omega) hW0 w' ht
  exact ⟨by rw [cell_of_row _ _ 0 _ _ _ h]; rfl, by rw [cell_of_row _ _ 1 _ _ _ h]; rfl, by rw [cell_of_row _ _ 2 _ _ _ h]; rfl⟩
 have HY : Hid (∀ w', Turned G W w' → w'.cell? ⟨w.heap.size + 1, 0, none⟩ = some (.int .i64 (at_ : Nat)) ∧ w'.cell? ⟨w.heap.size + 1, 1, none⟩ = some (.slice Ac nc cc) ∧ w'.cell? ⟨w.heap.size + 1, 2, none⟩ = some (.bool cut)) := fun w' ht => by
  have h := hcell _ _ _ (by omega) (by omega) hW1 w' ht
  exact ⟨by rw [cell_of_row _ _ 0 _ _ _ h]; rfl, by rw [cell_of_row _ _ 1 _ _ _ h]; rfl, by rw [cell_of_row _ _ 2 _ _ _ h]; rfl⟩
 have HZ : Hid (∀ w', Turned F W w' → w'.heap[w.heap.size + 2]? = some (.cells #[.slice none 0 0, .slice none 0 0, .slice none 0 0] 105 (0, 0))) := fun w' ht => (ht.block _ (by omega) (fun hf => by have := HFL.out _ hf; omega)).trans hW2
 -- the append
 have hrow1 : OwnL cK W.drew 0 (.slice A2 n2 c2) rc := (hrow.below_ hb (Nat.le_refl _)).drew_
 have hnow1 : OwnL yK W.drew 0 (.slice A3 n3 c3) l := (hnow.below_ hb (Nat.le_refl _)).drew_
 have hm1 : Lv yK W.drew B (.slice Ac nc cc) m := (hm.below_ hb hB).drew_
 have hok : cK.ok ⟨at_, ⟨Ac, nc, cc⟩, cut⟩ := hc
 obtain ⟨W1, hW1e⟩ : ∃ W1, W.drew.alloc (.cells #[.int .i64 (at_ : Nat), .slice Ac nc cc, .bool cut] 153) = W1 := ⟨_, rfl⟩
 have hlit := Lv.lit_ (K := cK) W.drew hok
 change Lv cK (W.drew.alloc (.cells #[.int .i64 (at_ : Nat), .slice Ac nc cc, .bool cut] 153)) _ _ _ at hlit
 have hT0 : Turned (fun _ => False) W.drew W1 := by rw [← hW1e]; exact (Turned.refl _ _).alloc _
 have hT1 : Turned F W.drew W1 := hT0.mono fun _ _ h => h.elim
 rw [hW1e] at hlit
 have hrow2 : OwnL cK W1 0 (.slice A2 n2 c2) rc := by rw [← hW1e]; exact hrow1.alloc_ _
 have hnow2 : OwnL yK W1 0 (.slice A3 n3 c3) l := hnow1.turned_ hT0 (fun k hk hf => hf)
 have hm2 : Lv yK W1 B (.slice Ac nc cc) m := hm1.turnedB_ hT0 (fun hp k hk hf => hf)
 obtain ⟨at1, hat1⟩ : ∃ D, Sf.done l ⟨cut, at_, m⟩ = D := ⟨_, rfl⟩
 have HDO : Hid (∀ W2, OwnL yK W2 0 (.slice A3 n3 c3) l → Lv yK W2 B (.slice Ac nc cc) m → B ≤ W2.heap.size → Calls Tryz.prog 101 #[.agg #[.int .i64 (at_ : Nat), .slice Ac nc cc, .bool cut], .slice A3 n3 c3] W2 (IsDone (.slice A3 n3 c3) 0 at1 W2)) := fun W2 h1 h2 h3 => by
  rw [← hat1]
  exact pcdo_any ⟨at_, ⟨Ac, nc, cc⟩, cut⟩ (.slice A3 n3 c3) l 0 B m W2 h1 h2 hap2 ha hl hml (Nat.zero_le _) h3
 rw [hat1]
 have HLIT := Lib.hid hlit
 have HROW := Lib.hid hrow2
 have HNOW := Lib.hid hnow2
 have HMM := Lib.hid hm2
 have HAP := Lib.hid hap1
 have HAP3 := Lib.hid hap3
 have HWS := Lib.hid hWs
 have HBW := Lib.hid hb
 have HRL := Lib.hid hrl
 have HS0 : Hid (Turned F W W.drew) := (Turned.refl F W).drew
 have HSL : Hid (Turned F W W1) := ((Turned.refl F W).drew).trans hT1 (fun _ _ h => h)
 clear hrow hnow hm hap1 hap2 hap3 hcell hrow1 hnow1 hm1 hlit hT1 hT0 hrow2 hnow2 hm2 hb hWs hW0 hW1 hW2 hok hat1
 go_enter Tryz.func132, Tryz.ntmps132
 go_wp2
 refine wp_region_held_drew (S := fun w' => Turned G W w') (by kernel_rfl) (HS0.out.mono fun k _ hk => HGF.out k hk) (fun hH => ?_)
 refine zH (i := 0) (v := ?_) rfl (by kernel_rfl) (fun _ _ _ h => h) (Or.inl ⟨by rfl, (by intro w' hSw; go_simp; first | done | with_reducible rfl)⟩) hH ?_
 try simp only [Act.put, zA, zC, zD, zE, zF]
 refine zH (i := 1) (v := ?_) rfl (by kernel_rfl) (fun _ _ _ h => h) (Or.inl ⟨by rfl, (by intro w' hSw; obtain ⟨s0, s1, s2⟩ := HX.out w' hSw; go_simp; first | done | with_reducible rfl)⟩) hH ?_
 try simp only [Act.put, zA, zB, zC, zD, zE, zF]
 refine zH (i := 2) (v := ?_) rfl (by kernel_rfl) (fun _ _ _ h => h) (Or.inl ⟨by rfl, (by intro w' hSw; go_simp; first | done | with_reducible rfl)⟩) hH ?_
 try simp only [Act.put, zA, zB, zC, zD, zE, zF]
 refine zH (i := 3) (v := ?_) rfl (by kernel_rfl) (fun _ _ _ h => h) (Or.inl ⟨by rfl, (by intro w' hSw; obtain ⟨s0, s1, s2⟩ := HX.out w' hSw; go_simp; first | done | with_reducible rfl)⟩) hH ?_
 try simp only [Act.put, zA, zB, zC, zD, zE, zF]
 refine zH (i := 4) (v := ?_) rfl (by kernel_rfl) (fun _ _ _ h => h) (Or.inl ⟨by rfl, (by intro w' hSw; obtain ⟨s0, s1, s2⟩ := HY.out w' hSw; go_simp; first | done | with_reducible rfl)⟩) hH ?_
 try simp only [Act.put, zA, zB, zC, zD, zE, zF]
 refine zH (i := 7) (v := ?_) rfl (by kernel_rfl) (fun _ _ _ h => h) (Or.inl ⟨by rfl, (by intro w' hSw; obtain ⟨s0, s1, s2⟩ := HY.out w' hSw; go_simp; first | done | with_reducible rfl)⟩) hH ?_
 try simp only [Act.put, zA, zB, zC, zD, zE, zF]
 refine zH (i := 8) (v := ?_) rfl (by kernel_rfl) (fun _ _ _ h => h) (Or.inl ⟨by rfl, (by intro w' hSw; go_simp; first | done | with_reducible rfl)⟩) hH ?_
 try simp only [Act.put, zA, zB, zC, zD, zE, zF]
 refine zH (i := 9) (v := ?_) rfl (by kernel_rfl) (fun _ _ _ h => h) (Or.inl ⟨by rfl, (by intro w' hSw; obtain ⟨s0, s1, s2⟩ := HX.out w' hSw; go_simp; first | done | with_reducible rfl)⟩) hH ?_
 try simp only [Act.put, zA, zB, zC, zD, zE, zF]
 refine wpAnyH_ready (rs := [5]) (by kernel_rfl) (by simp) ?_
 refine AllReadyH.cons rfl (fun K hK => ?_) AllReadyH.nil
 go_simp
 refine hK.out _ _ (HSL.out.mono fun k _ hk => HGF.out k hk) (fun hH => ?_)
 clear hK K
 try simp only [Act.put, zA, zB, zC, zD, zE, zF]
 refine wpAnyH_ready (rs := [6]) (by kernel_rfl) (by simp) ?_
 refine AllReadyH.cons rfl (fun K hK => ?_) AllReadyH.nil
 refine step_append_m W1 cK rfl _ _ rfl 0 _ rfl rc HROW.out _ rfl _ _ HLIT.out (by show _ * 40 ≤ _; have := HRL.out; simp; omega) (by have := HRL.out; simp only [maxLen, List.length_singleton]; omega) (Nat.zero_le _) ?_
 intro Au cu W2 hown hg2 hmv2
 have hT2 : Turned F W1 W2 := (Turned.of_grown hg2).mono fun k _ hk => HF2.out k hk
 have hT12 : Turned F W W2 := HSL.out.trans hT2 (fun _ _ h => h)
 have hnow2 : OwnL yK W2 0 (.slice A3 n3 c3) l := HNOW.out.turned_ (Turned.of_grown hg2) (fun k hk e => HAP.out k e hk)
 have hm2 : Lv yK W2 B (.slice Ac nc cc) m := HMM.out.turnedB_ (Turned.of_grown hg2) (fun hp k hk e => HAP3.out hp k hk e)
 have CD := Lib.hid (HDO.out W2 hnow2 hm2 (by have := hT12.size; have := HWS.out; omega))
 have HT12 := Lib.hid hT12
 have HOW := Lib.hid hown
 have HMV : Hid (Moved w (.slice A2 n2 c2) (.slice Au (rc ++ [(⟨at_, ⟨Ac, nc, cc⟩, cut⟩ : RawC)]).length cu)) := fun k hk => (hmv2 k hk).imp id (fun h => by have := HSL.out.size; have := HWS.out; omega)
 have HN2 := Lib.hid hnow2
 refine hK.out _ _ (HT12.out.mono fun k _ hk => HGF.out k hk) (fun hH => ?_)
 clear hK K hW1e hown hg2 hmv2 hT2 hT12 hnow2 hm2 HDO HLIT HROW HNOW HMM
 try simp only [Act.put, zA, zB, zC, zD, zE, zF]
 refine wpAnyH_ready (rs := [10]) (by kernel_rfl) (by simp) ?_
 refine AllReadyH.cons rfl (fun K hK => ?_) AllReadyH.nil
 go_simp
 refine CD.out.mono ?_
 rintro e W3 ⟨Av, cv, rfl, hd, hg3, hmv3⟩
 have hT3 : Turned F W2 W3 := (Turned.of_grown hg3).mono fun k _ hk => HF3.out k hk
 have HT3 := Lib.hid (HT12.out.trans hT3 (fun _ _ h => h))
 have HOW3 : Hid (OwnL cK W3 0 (.slice Au (rc ++ [(⟨at_, ⟨Ac, nc, cc⟩, cut⟩ : RawC)]).length cu) (rc ++ [⟨at_, ⟨Ac, nc, cc⟩, cut⟩])) := HOW.out.turned_ (Turned.of_grown hg3) (fun k hk e => by
  rcases HMV.out k hk with h | h
  ·exact HAP.out k h e
  ·have h3 := HFL.out k (HF3.out k e)
   omega)
 have HD3 := Lib.hid hd
 have HM3 : Hid (Moved w (.slice A3 n3 c3) (.slice Av at1.length cv)) := fun k hk => (hmv3 k hk).imp id (fun h => by have := HT12.out.size; have := HWS.out; omega)
 have HA3 : Hid (Apart (.slice Au (rc ++ [(⟨at_, ⟨Ac, nc, cc⟩, cut⟩ : RawC)]).length cu) (.slice Av at1.length cv)) := fun k hk hk2 => by
  rcases hmv3 k hk2 with h | h
  ·rcases HMV.out k hk with h2 | h2
   ·exact HAP.out k h2 h
   ·have h3 := HFL.out k (HF3.out k h)
    omega
  ·have := (HOW.out.lt_ k hk).2
   omega
 have HZ3 : Hid (Rw W3 (w.heap.size + 2) 105 #[.slice none 0 0, .slice none 0 0, .slice none 0 0]) := HZ.out W3 HT3.out
 refine hK.out _ _ (HT3.out.mono fun k _ hk => HGF.out k hk) (fun hH => ?_)
 clear hK K CD hd hg3 hmv3 hT3
 have hnu : (rc ++ [(⟨at_, ⟨Ac, nc, cc⟩, cut⟩ : RawC)]).length = rc.length + 1 := by simp
 rw [hnu] at HOW3 HMV HA3
 clear hnu
 try simp only [Act.put, zA, zB, zC, zD, zE, zF]
 refine zH (i := 11) (v := ?_) rfl (by kernel_rfl) (fun _ _ _ h => h) (Or.inl ⟨by rfl, (by intro w' hSw; go_simp; first | done | with_reducible rfl)⟩) hH ?_
 try simp only [Act.put, zA, zB, zC, zD, zE, zF]
 refine wpAnyH_ready (rs := [12]) (by kernel_rfl) (by simp) ?_
 refine AllReadyH.cons rfl (fun K hK => ?_) AllReadyH.nil
 rw [if_pos (by rfl)]
 refine wp_store_row 105 (.tmp 4) (.tmp 16) rfl (w.heap.size + 2) #[.slice A1 n1 c1, .slice Au (rc.length + 1) cu, .slice Av at1.length cv] rfl rfl 105 _ HZ3.out (by kernel_rfl) rfl (by simp [Value.oneCell']) ?_
 have HT4 : Hid (Turned G W (W3.setRow (w.heap.size + 2) #[.slice A1 n1 c1, .slice Au (rc.length + 1) cu, .slice Av at1.length cv])) := (HT3.out.mono fun k _ hk => HGF.out k hk).setRow (fun _ => HG2.out) _
 have HRZ := Lib.hid (HZ3.out.row #[.slice A1 n1 c1, .slice Au (rc.length + 1) cu, .slice Av at1.length cv])
 refine hK.out _ _ HT4.out (fun hH => ?_)
 clear hK K
 refine wpAnyH_done (by kernel_rfl) ?_ _
 clear hH
 go_wp2
 try simp only [Act.put, zA, zB, zC]
 have hoff : ∀ k, k ≠ w.heap.size + 2 → (W3.setRow (w.heap.size + 2) #[.slice A1 n1 c1, .slice Au (rc.length + 1) cu, .slice Av at1.length cv]).heap[k]? = W3.heap[k]? := fun k hk => setRow_other _ _ _ _ hk
 refine bodyPost_ret (v := .agg #[.slice A1 n1 c1, .slice Au (rc.length + 1) cu, .slice Av at1.length cv]) (results_cell_row rfl _ _ (w.heap.size + 2) 105 #[.slice A1 n1 c1, .slice Au (rc.length + 1) cu, .slice Av at1.length cv] (0, 0) _ rfl HRZ.out Tryz.underlying105 rfl (by kernel_rfl)) rfl
  ⟨⟨Au, rc.length + 1, cu⟩, ⟨Av, at1.length, cv⟩, rfl, HOW3.out.of_block fun k hk => hoff k ?_, HD3.out.of_block fun k hk => hoff k ?_, ?_, HMV.out, HM3.out, HA3.out⟩
 ·rintro rfl
  exact own_ne HOW3.out HZ3.out (by decide) hk
 ·rintro rfl
  exact own_ne HD3.out HZ3.out (by decide) hk
 ·rw [hF]
  exact (((Turned.of_below HBW.out).mono (G := F) (fun k hk h => absurd hk (by omega))).trans HT3.out (fun _ _ h => h)).setRow (fun h => by omega) _
end Go.Proofs.YtiafeniflkikeaaGreat
namespace Go.Proofs.YtiafeniflkikeaaGreat
open Go.RowKit
set_option linter.unusedVariables false
section
variable {w : World} {fp : Fp} {s : Nat} {t : Sf.St} {b : Nat} {who : Who} {bf bs bn : Nat} {vr : Sl} {ff : Int → Option RawX} {rn : List RawN}
set_option maxHeartbeats 4000000 in
set_option maxRecDepth 100000 in
theorem pdoToFile_disk (h : PHas w fp 0 t b who bf bs bn vr ff rn) (hf : Sf.Few t) {n : Nat} {x : RawX} (hn : n < t.files.length) (hx : ff (n : Int) = some x) (hX : HasX w who n x (Sf.fileAt t n)) (c : RawC) (m : List Nat) {bl : Nat} (hm : Lv yK w bl (slV c.sl) m) (hbl : bl ≤ w.heap.size) (B0 : Nat) (hB0 : B0 ≤ w.heap.size) (hnew : 0 < m.length → ∀ k, (slV c.sl).ownBlock = some k → who k = none ∧ k < w.heap.size ∧ B0 ≤ k)
  (ha : c.at_ ≤ (Sf.now (Sf.fileAt t n)).length) (hml : m.length ≤ 1048576) (hcut : c.cut = true → m = []) (hD : (Sf.done (Sf.now (Sf.fileAt t n)) ⟨c.cut, c.at_, m⟩).length ≤ 1048576) :
  Calls Tryz.prog 113 #[.pointer (some ⟨b, 0, none⟩), .int .i64 (n : Nat), cV c] w (fun e w' => e = .returned (.int .i64 ((Sf.add t n ⟨c.cut, c.at_, m⟩).1 : Nat)) ∧ ∃ f', PDisk w' f' (Sf.add t n ⟨c.cut, c.at_, m⟩).2 b ∧ fp.Next f' B0 ∧ Turned fp.M w w') := by
 obtain ⟨f, hfe⟩ : ∃ f, Sf.fileAt t n = f := ⟨_, rfl⟩
 rw [hfe] at hX ha hD
 obtain ⟨rc, hrl, hrow, hacts⟩ := hX.row
 have hnl : (Sf.now f).length ≤ 1048576 := by have := hX.ok.len f.row.length (Nat.le_refl _); rwa [Sf.bytes_all] at this
 have hfr : f.row.length ≤ t.acts := by
  have : f ∈ t.files := by
   rw [← hfe]; unfold Sf.fileAt
   rw [List.getD_eq_getElem?_getD, List.getElem?_eq_getElem hn]; exact List.getElem_mem hn
  exact h.good.frow f this
 have hac := h.good.acts
 have hffl := h.good.files
 -- the box
 obtain ⟨at_, ⟨Ac, nc, cc⟩, cut⟩ := c
 simp only [slV] at hm hnew ha hcut hD ⊢
 change Calls _ _ #[.pointer (some ⟨b, 0, none⟩), .int .i64 (n : Nat), .agg #[.int .i64 (at_ : Nat), .slice Ac nc cc, .bool cut]] w _
 obtain ⟨W, hW⟩ : ∃ W, w.alloc (.cells #[.int .i64 (at_ : Nat), .slice Ac nc cc, .bool cut] 153) = W := ⟨_, rfl⟩
 have hWs : W.heap.size = w.heap.size + 1 := by rw [← hW]; simp
 have hW0 : W.heap[w.heap.size]? = some (.cells #[.int .i64 (at_ : Nat), .slice Ac nc cc, .bool cut] 153 (0, 0)) := by rw [← hW]; exact heap_alloc_new _ _
 have hb : Below w.heap.size w W := by rw [← hW]; exact (Below.refl _ _).alloc (Nat.le_refl _) _
 have HW := h.below hb
 have hTW : Turned (fun _ => False) w W := by rw [← hW]; exact (Turned.refl _ _).alloc _
 have hXW : HasX W who n x f := hX.turned hTW (fun _ h => h.elim)
 have hmW : Lv yK W bl (.slice Ac nc cc) m := hm.below_ hb hbl
 -- the call
 have hap : Apart (slV x.row) (slV x.now) := fun k h1 h2 => by
  have e1 := hX.rowW k h1
  have e2 := hX.nowW k h2
  rw [e1] at e2
  cases e2
 have hap2 : 0 < m.length → Apart (.slice Ac nc cc) (slV x.now) := fun hp k h1 h2 => by
  have e1 := (hnew hp k h1).1
  have e2 := hX.nowW k h2
  rw [e1] at e2
  cases e2
 have hap3 : 0 < m.length → Apart (.slice Ac nc cc) (slV x.row) := fun hp k h1 h2 => by
  have e1 := (hnew hp k h1).1
  have e2 := hX.rowW k h2
  rw [e1] at e2
  cases e2
 have hrowW : OwnL cK W 0 (slV x.row) rc := hrow.turned_ hTW (fun _ _ h => h)
 have hnowW : OwnL yK W 0 (slV x.now) (Sf.now f) := hXW.now
 have CC := Lib.hid (pchanged_any ⟨at_, ⟨Ac, nc, cc⟩, cut⟩ x (Sf.now f) m rc W.drew bl hrowW.drew_ hnowW.drew_ hmW.drew_ (by have := hb.size; show bl ≤ W.heap.size; omega) hap hap2 hap3 ha (by omega) (by omega) (by show at_ ≤ _; omega) (by omega))
 change Hid (Calls _ _ #[xV x, .agg #[.int .i64 (at_ : Nat), .slice Ac nc cc, .bool cut]] W.drew _) at CC
 -- what stays
 obtain ⟨F, hF⟩ : ∃ F : Nat → Prop, (fun k => (slV x.row).ownBlock = some k ∨ (slV x.now).ownBlock = some k) = F := ⟨_, rfl⟩
 rw [hF] at CC
 have HFW : Hid (∀ k, F k → who k = some (.frow n) ∨ who k = some (.fnow n)) := fun k hk => by rw [← hF] at hk; exact hk.imp (fun h => hX.rowW k h) (fun h => hX.nowW k h)
 have HFN : Hid (∀ k r, who k = some r → r ≠ .frow n → r ≠ .fnow n → ¬ F k) := fun k r hk h1 h2 hf => by
  rcases HFW.out k hf with h | h <;> rw [hk] at h
  ·exact h1 (Option.some.inj h)
  ·exact h2 (Option.some.inj h)
 have HHC : Hid (∀ w', Turned F W w' → IsHead w' b (headP t bf bs bn vr)) := fun w' ht => (ht.block b (HW.lt b (by rw [HW.mine]; rfl)) (HFN.out b _ h.mine (by simp) (by simp))).trans HW.head
 have HC : Hid (∀ w', Turned F W w' → w'.cell? ⟨b, 1, none⟩ = some (.map (some bf))) := fun w' ht => head_cellP (HHC.out w' ht) rfl
 have HY : Hid (∀ w', Turned F W w' → w'.cell? ⟨w.heap.size, 0, none⟩ = some (.int .i64 (at_ : Nat)) ∧ w'.cell? ⟨w.heap.size, 1, none⟩ = some (.slice Ac nc cc) ∧ w'.cell? ⟨w.heap.size, 2, none⟩ = some (.bool cut)) := fun w' ht => by
  have hh := (ht.block w.heap.size (by omega) (fun hf => by
   have h2 := h.new (Nat.le_refl w.heap.size)
   rcases HFW.out _ hf with h3 | h3 <;> rw [h2] at h3 <;> cases h3)).trans hW0
  exact ⟨by rw [cell_of_row _ _ 0 _ _ _ hh]; rfl, by rw [cell_of_row _ _ 1 _ _ _ hh]; rfl, by rw [cell_of_row _ _ 2 _ _ _ hh]; rfl⟩
 have hni : (Lit.int .i64 (n : Int)).wf = true := WalkArith.wf_i64 (by omega)
 have HMP : Hid (∀ w', Turned F W w' → IsMp fM w' bf (64 + t.acts + 0) ff) := fun w' ht => HW.body.files.turned_ ht (HFN.out bf _ h.body.filesW (by simp) (by simp))
 have HLK : Hid (∀ w', Turned F W w' → (Instr.lookup 66 (.map (some bf)) (.int .i64 (n : Nat)) false).run Tryz.prog w' = .ok (xV x) w') := fun w' ht => by
  have := (HMP.out w' ht).look (x := (n : Int)) hni
  rw [hx] at this
  exact this
 have HH := Lib.hid h
 have HFEW := Lib.hid hf
 have HX := Lib.hid hX
 have HBW := Lib.hid hb
 have HS0 : Hid (Turned F W W.drew) := (Turned.refl F W).drew
 have HNI := Lib.hid hni
 have HAC : Hid (t.acts ≤ 1099511627776 ∧ n < t.files.length ∧ f.row.length ≤ t.acts ∧ B0 ≤ w.heap.size ∧ W.heap.size = w.heap.size + 1 ∧ rc.length = f.row.length) := ⟨hac, hn, hfr, hB0, hWs, hrl⟩
 have HXE := Lib.hid hx
 obtain ⟨C, hC⟩ : ∃ C, xV x = C := ⟨_, rfl⟩
 rw [hC] at CC HLK
 have HACTS := Lib.hid hacts
 have HNEW := Lib.hid hnew
 have HM0 := Lib.hid hm
 have HDL := Lib.hid hD
 have HAT := Lib.hid ha
 have HCUT := Lib.hid hcut
 have HML := Lib.hid hml
 have HFE := Lib.hid hfe
 clear hf hX hXW hnew hm hD ha hcut hml hfe hrow hacts hap hap2 hap3 hrowW hnowW hb HW hTW hmW hF hni hac hffl hfr hnl h hx
 go_enter Tryz.func113, Tryz.ntmps113
 go_wp2
 refine wp_region_m (fun w' => Turned F W w') 13 (by kernel_rfl) ?_
 have hH := HS0.out
 refine zM (i := 0) (v := ?_) rfl (by kernel_rfl) (fun _ _ _ h => h) hH (Or.inl ⟨by rfl, (by intro w' hSw; go_simp; first | done | with_reducible rfl)⟩) ?_
 try simp only [Act.put, zA, zC, zD, zE, zF]
 refine zM (i := 1) (v := ?_) rfl (by kernel_rfl) (fun _ _ _ h => h) hH (Or.inl ⟨by rfl, (by intro w' hSw; go_simp; first | done | with_reducible rfl)⟩) ?_
 try simp only [Act.put, zA, zB, zC, zD, zE, zF]
 refine zM (i := 2) (v := ?_) rfl (by kernel_rfl) (fun _ _ _ h => h) hH (Or.inl ⟨by rfl, (by intro w' hSw; go_simp; first | done | with_reducible rfl)⟩) ?_
 try simp only [Act.put, zA, zB, zC, zD, zE, zF]
 refine zM (i := 3) (v := ?_) rfl (by kernel_rfl) (fun _ _ _ h => h) hH (Or.inl ⟨by rfl, (by intro w' hSw; have s1 := HC.out w' hSw; go_simp; first | done | with_reducible rfl)⟩) ?_
 try simp only [Act.put, zA, zB, zC, zD, zE, zF]
 refine zM (i := 4) (v := ?_) rfl (by kernel_rfl) (fun _ _ _ h => h) hH (Or.inl ⟨by rfl, (by intro w' hSw; go_simp; first | done | with_reducible rfl)⟩) ?_
 try simp only [Act.put, zA, zB, zC, zD, zE, zF]
 refine zM (i := 5) (v := ?_) rfl (by kernel_rfl) (fun _ _ _ h => h) hH (Or.inl ⟨by rfl, (by intro w' hSw; go_simp; first | done | with_reducible rfl)⟩) ?_
 try simp only [Act.put, zA, zB, zC, zD, zE, zF]
 refine zM (i := 6) (v := ?_) rfl (by kernel_rfl) (fun _ _ _ h => h) hH (Or.inl ⟨by rfl, (by intro w' hSw; go_simp; first | done | with_reducible rfl)⟩) ?_
 try simp only [Act.put, zA, zB, zC, zD, zE, zF]
 refine zM (i := 7) (v := ?_) rfl (by kernel_rfl) (fun _ _ _ h => h) hH (Or.inl ⟨by rfl, (by intro w' hSw; go_simp; first | done | with_reducible rfl)⟩) ?_
 try simp only [Act.put, zA, zB, zC, zD, zE, zF]
 refine zM (i := 8) (v := ?_) rfl (by kernel_rfl) (fun _ _ _ h => h) hH (Or.inl ⟨by rfl, (by intro w' hSw; have s1 := HC.out w' hSw; go_simp; first | done | with_reducible rfl)⟩) ?_
 try simp only [Act.put, zA, zB, zC, zD, zE, zF]
 refine zM (i := 9) (v := ?_) rfl (by kernel_rfl) (fun _ _ _ h => h) hH (Or.inl ⟨by rfl, (by intro w' hSw; go_simp; first | done | with_reducible rfl)⟩) ?_
 try simp only [Act.put, zA, zB, zC, zD, zE, zF]
 refine zM (i := 10) (v := ?_) rfl (by kernel_rfl) (fun _ _ _ h => h) hH (Or.inl ⟨by rfl, (by intro w' hSw; have s1 := HLK.out w' hSw; go_simp; first | done | with_reducible rfl)⟩) ?_
 try simp only [Act.put, zA, zB, zC, zD, zE, zF]
 refine zM (i := 11) (v := ?_) rfl (by kernel_rfl) (fun _ _ _ h => h) hH (Or.inl ⟨by rfl, (by intro w' hSw; obtain ⟨s0, s1, s2⟩ := HY.out w' hSw; go_simp; first | done | with_reducible rfl)⟩) ?_
 try simp only [Act.put, zA, zB, zC, zD, zE, zF]
 refine wpAnyM_next (i := 12) (by kernel_rfl) rfl (fun K hK => ?_)
 go_simp
 refine CC.out.mono ?_
 rintro e W3 ⟨u, v, rfl, hr3, hn3, hT3, hmu, hmv, hap3⟩
 have hTW3 : Turned F W W3 := HS0.out.trans hT3 (fun _ _ h => h)
 have HR3 := Lib.hid hr3
 have HN3 := Lib.hid hn3
 have HMU : Hid (Moved w (slV x.row) (slV u)) := fun k hk => (hmu k hk).imp id (fun h => by have := HBW.out.size; have h2 : W.heap.size ≤ k := h; omega)
 have HMV : Hid (Moved w (slV x.now) (slV v)) := fun k hk => (hmv k hk).imp id (fun h => by have := HBW.out.size; have h2 : W.heap.size ≤ k := h; omega)
 have HAP := Lib.hid hap3
 have HT3 := Lib.hid hTW3
 obtain ⟨w4, hup, hm4, hg4⟩ := (HMP.out W3 hTW3).upd (by have := HAC.out; simp only [maxLen]; omega) HNI.out (⟨x.sure, u, v⟩ : RawX)
 change (Instr.mapUpdate 66 (.map (some bf)) (.int .i64 (n : Nat)) (xV ⟨x.sure, u, v⟩)).run Tryz.prog W3 = .ok () w4 at hup
 obtain ⟨D, hDD⟩ : ∃ D, xV ⟨x.sure, u, v⟩ = D := ⟨_, rfl⟩
 rw [hDD] at hup
 rw [hDD]
 have HM4 := Lib.hid hm4
 have HG4 := Lib.hid hg4
 refine hK.out _ _ (.inr hTW3) ?_
 clear hK K hr3 hn3 hT3 hmu hmv hap3 hTW3 hm4 hg4 CC hDD
 try simp only [Act.put, zA, zB, zC, zD, zE, zF]
 refine wpAnyM_next (i := 13) (by kernel_rfl) rfl (fun K hK => ?_)
 go_simp
 refine hK.out _ _ (.inl (Nat.le_refl _)) ?_
 clear hK K hup
 try simp only [Act.put, zA, zB, zC, zD, zE, zF]
 refine wpAnyM_done (by kernel_rfl) ?_ _
 -- the roles
 have HT4 : Hid (Turned (fun k => F k ∨ k = bf) w w4) := ((((Turned.of_below HBW.out).mono (G := fun k => F k ∨ k = bf) (fun k hk h => absurd hk (by omega))).trans HT3.out (fun _ _ h => .inl h))).trans (Turned.of_grown HG4.out) (fun k _ h => .inr (Option.some.inj h).symm)
 have hw1 : ∃ who1 : Who, More who who1 ∧ (0 < m.length → Bears who1 (.slice Ac nc cc) .bytes) ∧ (∀ k, (who1 k).isSome → (who k).isSome ∨ (B0 ≤ k ∧ k < w.heap.size)) ∧ ∀ k, (who k ≠ none ∨ w.heap.size ≤ k) → who1 k = who k := by
  by_cases h0 : 0 < m.length
  ·refine ⟨lab who (.slice Ac nc cc) .bytes, lab_more (fun k hk => .inl (HNEW.out h0 k hk).1), fun _ => lab_bears _ _ _, fun k hk => (lab_some hk).imp id (fun h => ⟨(HNEW.out h0 k h).2.2, (HNEW.out h0 k h).2.1⟩), fun k hk => lab_old fun h => ?_⟩
   obtain ⟨e1, e2, _⟩ := HNEW.out h0 k h
   rcases hk with hk | hk
   ·exact hk e1
   ·omega
  ·exact ⟨who, More.refl _, fun h => absurd h h0, fun k hk => .inl hk, fun _ _ => rfl⟩
 obtain ⟨who1, q1, q2, q3, q4⟩ := hw1
 have r1 : More who1 (lab who1 (slV u) (.frow n)) := lab_more fun k hk => by
  rcases HMU.out k hk with h | h
  ·have h2 := HX.out.rowW k h
   rw [q4 k (.inl (by rw [h2]; simp))]
   exact .inr h2
  ·rw [q4 k (.inr h)]
   exact .inl (HH.out.new h)
 have r2 : More (lab who1 (slV u) (.frow n)) (lab (lab who1 (slV u) (.frow n)) (slV v) (.fnow n)) := lab_more fun k hk => by
  have hne : (slV u).ownBlock ≠ some k := fun h => HAP.out k h hk
  rw [lab_old hne]
  rcases HMV.out k hk with h | h
  ·have h2 := HX.out.nowW k h
   rw [q4 k (.inl (by rw [h2]; simp))]
   exact .inr h2
  ·rw [q4 k (.inr h)]
   exact .inl (HH.out.new h)
 obtain ⟨who', hwho⟩ : ∃ who', lab (lab who1 (slV u) (.frow n)) (slV v) (.fnow n) = who' := ⟨_, rfl⟩
 have hmore : More who who' := by rw [← hwho]; exact (q1.trans r1).trans r2
 have hsm : ∀ k, (who' k).isSome → (who k).isSome ∨ (B0 ≤ k ∧ k < w4.heap.size) := fun k hk => by
  have hs4 := HT4.out.size
  have hs34 := HG4.out.size
  rw [← hwho] at hk
  rcases lab_some hk with hk | hk
  ·rcases lab_some hk with hk | hk
   ·exact (q3 k hk).imp id (fun h => ⟨h.1, by omega⟩)
   ·have h3 := (HR3.out.lt_ k hk).2
    rcases HMU.out k hk with h | h
    ·exact .inl (by rw [HX.out.rowW k h]; rfl)
    ·exact .inr ⟨by have := HAC.out; omega, by omega⟩
  ·have h3 := (HN3.out.lt_ k hk).2
   rcases HMV.out k hk with h | h
   ·exact .inl (by rw [HX.out.nowW k h]; rfl)
   ·exact .inr ⟨by have := HAC.out; omega, by omega⟩
 have hu4 : OwnL cK w4 0 (slV u) (rc ++ [⟨at_, ⟨Ac, nc, cc⟩, cut⟩]) := HR3.out.turned_ (Turned.of_grown HG4.out) (fun k hk e => by
  obtain rfl : bf = k := Option.some.inj e
  have h1 := r1 bf .files (q1 _ _ HH.out.body.filesW)
  rw [lab_bears _ _ _ bf hk] at h1
  cases h1)
 have hv4 : OwnL yK w4 0 (slV v) (Sf.done (Sf.now f) ⟨cut, at_, m⟩) := HN3.out.turned_ (Turned.of_grown HG4.out) (fun k hk e => by
  obtain rfl : bf = k := Option.some.inj e
  have h1 := r2 bf .files (r1 bf .files (q1 _ _ HH.out.body.filesW))
  rw [lab_bears _ _ _ bf hk] at h1
  cases h1)
 have noF : ∀ k r, who k = some r → r ≠ .frow n → r ≠ .fnow n → r ≠ .files → ¬ (F k ∨ k = bf) := fun k r hk h1 h2 h3 hf => hf.elim (HFN.out k r hk h1 h2) (fun e => by rw [e, HH.out.body.filesW] at hk; exact h3 (Option.some.inj hk).symm)
 have noF2 : ∀ r, r ≠ .frow n → r ≠ .fnow n → r ≠ .files → ∀ k, (F k ∨ k = bf) → who k ≠ some r := fun r h1 h2 h3 k hf hk => noF k r hk h1 h2 h3 hf
 have hbl4 : bl ≤ w4.heap.size := by have := HT4.out.size; omega
 have hX4 : HasX w4 who' n ⟨x.sure, u, v⟩ ⟨f.sure, f.row ++ [⟨cut, at_, m⟩]⟩ := by
  refine ⟨HX.out.sure.turned_ HT4.out (HX.out.sureW.off (noF2 _ (by simp) (by simp) (by simp))), HX.out.sureW.more hmore, by rw [Sf.now_add]; exact hv4, by rw [← hwho]; exact lab_bears _ _ _, ⟨rc ++ [⟨at_, ⟨Ac, nc, cc⟩, cut⟩], by have := HAC.out; simp; omega, hu4, fun j r a hr ha => ?_⟩, ?_, fun h => by simp at h, ?_⟩
  ·by_cases hj : j < rc.length
   ·rw [List.getElem?_append_left hj] at hr
    have hjf : j < f.row.length := by have := HAC.out; omega
    rw [List.getElem?_append_left hjf] at ha
    exact ((HACTS.out j r a hr ha).turned HT4.out (noF2 _ (by simp) (by simp) (by simp))).more hmore
   ·have hlen : rc.length = f.row.length := HAC.out.2.2.2.2.2
    have hj2 : j = rc.length := by
     have := (List.getElem?_eq_some_iff.1 hr).1
     simp at this
     omega
    subst hj2
    simp only [List.getElem?_append_right (Nat.le_refl _), Nat.sub_self, List.getElem?_cons_zero, Option.some.injEq] at hr
    subst hr
    rw [hlen] at ha
    simp only [List.getElem?_append_right (Nat.le_refl _), Nat.sub_self, List.getElem?_cons_zero, Option.some.injEq] at ha
    subst ha
    refine ⟨rfl, rfl, ((HM0.out.turnedB_ HT4.out (fun hp k hk hf => ?_)).mono_ hbl4), fun hp => ((q2 hp).more r1).more (by rw [← hwho]; exact r2)⟩
    have e1 := (HNEW.out hp k hk).1
    rcases hf with hf | hf
    ·rcases HFW.out k hf with h | h <;> rw [e1] at h <;> cases h
    ·rw [hf, HH.out.body.filesW] at e1; cases e1
  ·rw [← hwho]; exact (lab_bears who1 (slV u) (.frow n)).more r2
  ·exact HX.out.ok.more ⟨HAT.out, HML.out, HCUT.out⟩ HDL.out (by have := HAC.out; omega)
 have hP4 : PHas w4 (fpOf who') 1 { t with files := t.files.set n ⟨f.sure, f.row ++ [⟨cut, at_, m⟩]⟩ } b who' bf bs bn vr (fun k => if k = (n : Int) then some ⟨x.sure, u, v⟩ else ff k) rn := by
  refine ⟨?_, HH.out.body.set_file (q := 1) HAC.out.2.1 HXE.out _ _ hmore HT4.out (fun k hk => ?_) HM4.out hX4 (Nat.zero_le _), HH.out.good.set_file (by have := HAC.out; simp; omega) (Nat.zero_le _), hmore _ _ HH.out.mine, fun k => Iff.rfl, fun k h => h, fun k hk => ?_⟩
  ·rw [head_set_file]
   exact (HT4.out.block b (HH.out.lt b (by rw [HH.out.mine]; rfl)) (noF b _ HH.out.mine (by simp) (by simp) (by simp))).trans HH.out.head
  ·rcases hk with hk | hk
   ·exact (HFW.out k hk).elim (fun h => .inr (.inr (.inr (.inr (.inl h))))) (fun h => .inr (.inr (.inr (.inr (.inr h)))))
   ·rw [hk]; exact .inr (.inr (.inl HH.out.body.filesW))
  ·rcases hsm k hk with h | h
   ·exact Nat.lt_of_lt_of_le (HH.out.lt k h) HT4.out.size
   ·exact h.2
 have HP4 := Lib.hid hP4
 have HE : Hid (Sf.add t n ⟨cut, at_, m⟩ = Sf.blown { t with files := t.files.set n ⟨f.sure, f.row ++ [⟨cut, at_, m⟩]⟩ }) := by unfold Hid Sf.add; rw [HFE.out]
 have HNX : Hid (fp.Next (fpOf who') B0) := ⟨fun k hk => (hsm k hk).elim (fun h => .inl ((HH.out.m k).2 h)) (fun h => .inr h.1), fun k hk => hk.elim⟩
 have HTM : Hid (Turned fp.M w w4) := HT4.out.mono fun k _ hk => (HH.out.m k).2 (by
  rcases hk with hk | hk
  ·rcases HFW.out k hk with h | h <;> rw [h] <;> rfl
  ·rw [hk, HH.out.body.filesW]; rfl)
 obtain ⟨t4, ht4⟩ : ∃ u : Sf.St, { t with files := t.files.set n ⟨f.sure, f.row ++ [⟨cut, at_, m⟩]⟩ } = u := ⟨_, rfl⟩
 have HA4 : Hid (t4.acts < 1099511627776) := by rw [← ht4]; exact HFEW.out
 rw [ht4] at HP4 HE
 have CA := Lib.hid (pact_disk HP4.out HA4.out)
 clear q1 q2 q3 q4 r1 r2 hmore hsm hu4 hv4 noF noF2 hX4 hP4 ht4 hwho
 go_wp2_with fail
 refine CA.out.mono ?_
 rintro e6 w6 ⟨rfl, hD, hT⟩
 have HD6 := Lib.hid hD
 have HT6 := Lib.hid hT
 clear CA hD hT
 go_wp2
 go_ret
 rw [HE.out]
 refine ⟨rfl, fpOf who', ⟨_, _, _, _, _, _, _, HD6.out⟩, HNX.out, HTM.out.trans HT6.out (fun k hk e => ?_)⟩
 rw [e]
 exact (HH.out.m b).2 (by rw [HH.out.mine]; rfl)
end
end Go.Proofs.YtiafeniflkikeaaGreat
namespace Go.Proofs.YtiafeniflkikeaaGreat
open Go.RowKit
set_option linter.unusedVariables false
def Sf.layOf (t : Sf.St) (n a : Nat) (l : List Nat) : Nat × Sf.St := if Sf.len t n < a + l.length ∧ t.room < Sf.used t + (a + l.length - Sf.len t n) then (9, t) else Sf.add t n ⟨false, a, l⟩
section
variable {w : World} {fp : Fp} {t : Sf.St} {b : Nat} {who : Who} {bf bs bn : Nat} {vr : Sl} {ff : Int → Option RawX} {rn : List RawN}
theorem PHas.used_le (h : PHas w fp 0 t b who bf bs bn vr ff rn) : Sf.used t ≤ 67108864 := by
 unfold Sf.used
 split
 ·omega
 ·have h1 := Sf.lens_bound (t := t) (m := 1048576) t.seen (fun e he => by
   obtain ⟨x, _, _, h3⟩ := h.file_at (n := e.2) ⟨t.seen, .inr (.inl rfl), e, he, rfl⟩
   exact h3.len_le)
  have h2 := (h.good.lens t.seen (.inr (.inl rfl))).1
  have h4 : t.seen.length * 1048576 ≤ 64 * 1048576 := Nat.mul_le_mul_right _ h2
  omega
set_option maxHeartbeats 4000000 in
set_option maxRecDepth 100000 in
theorem play_disk (h : PHas w fp 0 t b who bf bs bn vr ff rn) (hf : Sf.Few t) {u : ByteArray} {n : Nat} (hg : Sf.get t u = (n, 0)) (a : Nat) (ha : a ≤ Sf.len t n) (v : Value) (B : Nat) (l : List Nat) (hv : Lv yK w B v l) (hB : B ≤ w.heap.size) :
  Calls Tryz.prog 84 #[.pointer (some ⟨b, 0, none⟩), .int .i64 (n : Nat), .int .i64 (a : Nat), v] w (IsDeed PDisk fp b (Sf.layOf t n a l) w) := by
 have HH := Lib.hid h
 have HFEW := Lib.hid hf
 have CU := Lib.hid (pused_disk h (Nat.zero_le _))
 have hul := h.used_le
 have hlu := Sf.len_used_p hg
 have hroom := h.good.room
 obtain ⟨x, hx, hn, hX, hxn, hl20, hxc, hxm, hlk⟩ := h.look (Nat.zero_le _) hg
 have c1 : w.cell? ⟨b, 1, none⟩ = some (.map (some bf)) := h.cell rfl
 have c0 : w.cell? ⟨b, 0, none⟩ = some (.int .i64 (t.room : Nat)) := h.cell rfl
 have hbl : b < w.heap.size := h.lt b (by rw [h.mine]; rfl)
 have HX := Lib.hid hx
 have HXX := Lib.hid hX
 have HN := Lib.hid hn
 obtain ⟨⟨a1, a2, a3⟩, ⟨a4, a5, a6⟩, ⟨a7, a8, a9⟩⟩ := x
 simp only [slV] at hxn hlk hxc
 have hfd := fun w => file_now (.slice a1 a2 a3) (.slice a4 a5 a6) (.slice a7 a8 a9) w
 have HV := Lib.hid hv
 have HBB := Lib.hid hB
 obtain ⟨A0, c0', ev, hc1, hc2, _, _⟩ := hv
 have hll : l.length ≤ 9223372036854775807 := by simp only [maxLen] at hc2; omega
 have HE0 : Hid (Sf.layOf t n a l = if Sf.len t n < a + l.length ∧ t.room < Sf.used t + (a + l.length - Sf.len t n) then (9, t) else Sf.add t n ⟨false, a, l⟩) := rfl
 have HLEN : Hid (Sf.len t n = (Sf.now (Sf.fileAt t n)).length) := rfl
 obtain ⟨m, hm⟩ : ∃ m, Sf.len t n = m := ⟨_, rfl⟩
 obtain ⟨U, hU⟩ : ∃ U, Sf.used t = U := ⟨_, rfl⟩
 rw [hm] at HE0 hxn hl20 hxc hlu ha HLEN
 rw [hU] at HE0 hul hlu CU
 subst hxn
 have HDO : Hid (∀ w2 : World, Below w.heap.size w w2 → ∀ (A : Option Addr) (c : Nat), OwnL yK w2 w.heap.size (.slice A l.length c) l → l.length ≤ 1048576 → (Sf.done (Sf.now (Sf.fileAt t n)) ⟨false, a, l⟩).length ≤ 1048576 →
   Calls Tryz.prog 113 #[.pointer (some ⟨b, 0, none⟩), .int .i64 (n : Nat), .agg #[.int .i64 (a : Nat), .slice A l.length c, .bool false]] w2 (fun e w' => e = .returned (.int .i64 ((Sf.add t n ⟨false, a, l⟩).1 : Nat)) ∧ ∃ f', PDisk w' f' (Sf.add t n ⟨false, a, l⟩).2 b ∧ fp.Next f' w.heap.size ∧ Turned fp.M w2 w')) := fun w2 hb A c ho hd1 hd2 => by
  have h2 := HH.out.below hb
  obtain ⟨x', q1, q2, q3⟩ := h2.file_of hg
  exact pdoToFile_disk h2 HFEW.out q2 q1 q3 ⟨a, ⟨A, l.length, c⟩, false⟩ l ho.form_ (Nat.le_refl _) w.heap.size hb.size (fun hp k hk => ⟨HH.out.new (ho.lt_ k hk).1, (ho.lt_ k hk).2, (ho.lt_ k hk).1⟩) (by rw [← HLEN.out]; exact ha) hd1 (fun h => by cases h) hd2
 have HDN : Hid ((Sf.done (Sf.now (Sf.fileAt t n)) ⟨false, a, l⟩).length = max a8 (a + l.length)) := by unfold Hid; rw [Sf.done_len_put (by rw [← HLEN.out]; exact ha), ← HLEN.out]
 have HCL : Hid (∀ w2, Below w.heap.size w w2 → l.length ≤ 1048576 → Calls Tryz.prog 58 #[.slice A0 l.length c0'] w2 (IsL1 yK l w2)) := fun w2 hb h20 => by
  have hv2 := HV.out.below_ hb HBB.out
  rw [ev] at hv2
  exact pbclone_any _ l B w2 hv2 (Nat.le_trans HBB.out hb.size) (by omega)
 have HNX : Hid (∀ w2, Below w.heap.size w w2 → Turned fp.M w w2) := fun w2 hb => (Turned.of_below hb).mono fun k hk h => absurd hk (by omega)
 have HC : Hid (∀ w', Below w.heap.size w w' → w'.cell? ⟨b, 0, none⟩ = some (.int .i64 (t.room : Nat))) := fun w' hb' => (hb'.cell (p := ⟨b, 0, none⟩) hbl).trans c0
 have wr1 : IntKind.i64.wrap ((a : Int) - (a8 : Int)) = (a : Int) - (a8 : Int) := by rw [IntKind.wrap_i64]; omega
 have wr2 : IntKind.i64.wrap ((a : Int) - (a8 : Int) + (l.length : Int)) = (a : Int) - (a8 : Int) + (l.length : Int) := by rw [IntKind.wrap_i64]; omega
 have ws : IntKind.i64.wrap ((t.room : Int) - (U : Int)) = (t.room : Int) - (U : Int) := by rw [IntKind.wrap_i64]; omega
 have HD0 := Lib.hid (show PDisk w fp t b from ⟨_, _, _, _, _, _, _, h⟩)
 subst ev
 obtain ⟨Z, hZ⟩ : ∃ Z, Sf.add t n ⟨false, a, l⟩ = Z := ⟨_, rfl⟩
 rw [hZ] at HDO HE0
 obtain ⟨g, hg0⟩ : ∃ g : Int, (a : Int) - (a8 : Int) + (l.length : Int) = g := ⟨_, rfl⟩
 rw [hg0] at wr2
 have HCU2 : Hid (∀ w', Below w.heap.size w w' → Calls Tryz.prog 14 #[.pointer (some ⟨b, 0, none⟩)] w' (IsNum U w')) := fun w' hb => by
  rw [← hU]; exact pused_disk (HH.out.below hb) (Nat.zero_le _)
 clear h hf hx hX hB hc1 hc2 hxm hm hU hZ hg hn hxc hbl CU
 by_cases hgt : 0 < g
 ·have hd0 : decide (0 < g) = true := decide_eq_true hgt
  by_cases hfull : (t.room : Int) - (U : Int) < g
  ·have HE : Hid (Sf.layOf t n a l = (9, t)) := HE0.out.trans (if_pos (by omega))
   clear HE0 HDO HDN HCL
   go_enter Tryz.func84, Tryz.ntmps84
   have s0 := HC.out w.drew (Below.refl _ _).drew
   have CU2 := Lib.hid (HCU2.out w.drew (Below.refl _ _).drew)
   go_wp2
   try rw [hg0]
   go_region_held3 (fun w' => w'.cell? ⟨b, 0, none⟩ = some (.int .i64 (t.room : Nat)))
    (first | exact s0 | exact s1)
    (first | (go_at_call 14; (with_reducible refine CU2.out.mono ?_); rintro en w9 ⟨rfl, hb9⟩; have HB9 := Lib.hid ((Below.refl w.heap.size w).drew.trans hb9); have s1 := HC.out w9 ((Below.refl w.heap.size w).drew.trans hb9); clear hb9))
   clear s0 s1 CU2
   go_wp2
   go_ret
   rw [HE.out]
   exact ⟨rfl, fp, pdisk_law.below HD0.out HB9.out, Fp.Next.refl _ _, HNX.out _ HB9.out⟩
  ·have HE : Hid (Sf.layOf t n a l = Z) := HE0.out.trans (if_neg (by omega))
   have HL20 : Hid (l.length ≤ 1048576) := by unfold Hid; omega
   have HDL : Hid ((Sf.done (Sf.now (Sf.fileAt t n)) ⟨false, a, l⟩).length ≤ 1048576) := by unfold Hid; rw [HDN.out]; omega
   clear HE0 HDN
   go_enter Tryz.func84, Tryz.ntmps84
   have s0 := HC.out w.drew (Below.refl _ _).drew
   have CU2 := Lib.hid (HCU2.out w.drew (Below.refl _ _).drew)
   go_wp2
   try rw [hg0]
   go_region_held3 (fun w' => w'.cell? ⟨b, 0, none⟩ = some (.int .i64 (t.room : Nat)))
    (first | exact s0 | exact s1)
    (first | (go_at_call 14; (with_reducible refine CU2.out.mono ?_); rintro en w9 ⟨rfl, hb9⟩; have HB9 := Lib.hid ((Below.refl w.heap.size w).drew.trans hb9); have s1 := HC.out w9 ((Below.refl w.heap.size w).drew.trans hb9); clear hb9))
   clear s0 s1 CU2
   have CC := Lib.hid (HCL.out w9 HB9.out HL20.out)
   go_wp2_with fail
   refine CC.out.mono ?_
   rintro e4 w4 ⟨A4, c4, rfl, ho4, hb4⟩
   have hB4 := HB9.out.trans (hb4.mono HB9.out.size)
   have CD := Lib.hid (HDO.out w4 hB4 A4 c4 (ho4.mono_ HB9.out.size) HL20.out HDL.out)
   have HB4 := Lib.hid hB4
   clear CC ho4 hb4 hB4 HDO HCL
   go_wp2_with fail
   refine CD.out.mono ?_
   rintro e6 w6 ⟨rfl, f', hD, hN, hT⟩
   have H1 := Lib.hid hD
   have H2 := Lib.hid hN
   have H3 := Lib.hid hT
   clear CD hD hN hT
   go_wp2
   go_ret
   rw [HE.out]
   exact ⟨rfl, f', H1.out, H2.out, (HNX.out _ HB4.out).trans H3.out (fun k _ h => h)⟩
 ·have hd0 : decide (0 < g) = false := decide_eq_false hgt
  have HE : Hid (Sf.layOf t n a l = Z) := HE0.out.trans (if_neg (by omega))
  have HL20 : Hid (l.length ≤ 1048576) := by unfold Hid; omega
  have HDL : Hid ((Sf.done (Sf.now (Sf.fileAt t n)) ⟨false, a, l⟩).length ≤ 1048576) := by unfold Hid; rw [HDN.out]; omega
  clear HE0 HDN
  go_enter Tryz.func84, Tryz.ntmps84
  have s0 := HC.out w.drew (Below.refl _ _).drew
  go_wp2
  try rw [hg0]
  go_quiet (fail)
  clear s0
  generalize hW9 : w.drewN _ = w9
  have HB9 : Hid (Below w.heap.size w w9) := by unfold Hid; rw [← hW9]; exact below_drewN (Below.refl _ _) _
  clear hW9
  have CC := Lib.hid (HCL.out w9 HB9.out HL20.out)
  go_wp2_with fail
  refine CC.out.mono ?_
  rintro e4 w4 ⟨A4, c4, rfl, ho4, hb4⟩
  have hB4 := HB9.out.trans (hb4.mono HB9.out.size)
  have CD := Lib.hid (HDO.out w4 hB4 A4 c4 (ho4.mono_ HB9.out.size) HL20.out HDL.out)
  have HB4 := Lib.hid hB4
  clear CC ho4 hb4 hB4 HDO HCL
  go_wp2_with fail
  refine CD.out.mono ?_
  rintro e6 w6 ⟨rfl, f', hD, hN, hT⟩
  have H1 := Lib.hid hD
  have H2 := Lib.hid hN
  have H3 := Lib.hid hT
  clear CD hD hN hT
  go_wp2
  go_ret
  rw [HE.out]
  exact ⟨rfl, f', H1.out, H2.out, (HNX.out _ HB4.out).trans H3.out (fun k _ h => h)⟩
end
end Go.Proofs.YtiafeniflkikeaaGreat
namespace Go.Proofs.YtiafeniflkikeaaGreat
open Go.RowKit
set_option linter.unusedVariables false
section
variable {w : World} {fp : Fp} {t : Sf.St} {b : Nat}
set_option maxHeartbeats 2000000 in
set_option maxRecDepth 100000 in
theorem pappend_any (h : PDisk w fp t b) (hf : Sf.Few t) (s : ByteArray) (hs : s.size ≤ maxLen) (v : Value) (B : Nat) (l : List Nat) (hv : Lv yK w B v l) (hB : B ≤ w.heap.size) (hM : 0 < l.length → ∀ k, v.ownBlock = some k → ¬ fp.M k) :
  Calls Tryz.prog 42 #[.pointer (some ⟨b, 0, none⟩), .string s, v] w (IsDeed PDisk fp b (Sf.append t s l) w) := by
 have HD := Lib.hid h
 obtain ⟨who, bf, bs, bn, vr, ff, rn, h⟩ := h
 have CF := Lib.hid (pfind_disk h s hs)
 have c1 : w.cell? ⟨b, 1, none⟩ = some (.map (some bf)) := h.cell rfl
 obtain ⟨k, er, hge⟩ : ∃ k er, Sf.get t s = (k, er) := ⟨_, _, rfl⟩
 have HE0 : Hid (Sf.append t s l = if er ≠ 0 then (er, t) else if 0 < l.length ∧ t.room < Sf.used t + l.length then (9, t) else Sf.add t k ⟨false, Sf.len t k, l⟩) := by unfold Hid Sf.append; rw [hge]
 rw [hge] at CF
 obtain ⟨A0, c0, ev, _, _, _, _⟩ := id hv
 by_cases he : er = 0
 ·subst he
  have HE : Hid (Sf.append t s l = Sf.layOf t k (Sf.len t k) l) := by
   unfold Hid
   rw [HE0.out, if_neg (by simp)]
   unfold Sf.layOf
   by_cases hc : 0 < l.length ∧ t.room < Sf.used t + l.length
   ·rw [if_pos hc, if_pos (by omega)]
   ·rw [if_neg hc, if_neg (by omega)]
  obtain ⟨x, _, _, _, hn, _, _, _, hlk⟩ := h.look (Nat.zero_le _) hge
  have CL := Lib.hid (play_disk h hf hge (Sf.len t k) (Nat.le_refl _) v B l hv hB)
  obtain ⟨⟨a1, a2, a3⟩, ⟨a4, a5, a6⟩, ⟨a7, a8, a9⟩⟩ := x
  simp only [slV] at hn hlk
  have hfd := fun w => file_now (.slice a1 a2 a3) (.slice a4 a5 a6) (.slice a7 a8 a9) w
  obtain ⟨m, hm⟩ : ∃ m, Sf.len t k = m := ⟨_, rfl⟩
  rw [hm] at hn HE CL
  subst hn
  subst ev
  clear h hge hm HE0 hv
  go_enter Tryz.func42, Tryz.ntmps42
  go_wp2_with fail
  refine CF.out.mono ?_
  rintro e1 w1 ⟨rfl, rfl⟩
  clear CF
  go_wp2_with fail
  refine CL.out.mono ?_
  rintro e6 w6 ⟨rfl, f', hD, hN, hT⟩
  have H1 := Lib.hid hD
  have H2 := Lib.hid hN
  have H3 := Lib.hid hT
  clear CL hD hN hT
  go_wp2
  go_ret
  rw [HE.out]
  exact ⟨rfl, f', H1.out, H2.out, H3.out⟩
 ·have hq : ((er : Int) != 0) = true := by rw [bne_iff_ne]; omega
  have HE : Hid (Sf.append t s l = (er, t)) := HE0.out.trans (if_pos he)
  subst ev
  clear h hge HE0 he c1 hf hv
  go_enter Tryz.func42, Tryz.ntmps42
  go_wp2_with fail
  refine CF.out.mono ?_
  rintro e1 w1 ⟨rfl, rfl⟩
  clear CF
  go_wp2
  go_ret
  rw [HE.out]
  exact ⟨rfl, fp, HD.out, Fp.Next.refl _ _, Turned.refl _ _⟩
set_option maxHeartbeats 2000000 in
set_option maxRecDepth 100000 in
theorem pwrite_any (h : PDisk w fp t b) (hf : Sf.Few t) (s : ByteArray) (hs : s.size ≤ maxLen) (a : Int) (ha : I64 a) (v : Value) (B : Nat) (l : List Nat) (hv : Lv yK w B v l) (hB : B ≤ w.heap.size) (hM : 0 < l.length → ∀ k, v.ownBlock = some k → ¬ fp.M k) :
  Calls Tryz.prog 95 #[.pointer (some ⟨b, 0, none⟩), .string s, .int .i64 a, v] w (IsDeed PDisk fp b (Sf.write t s a l) w) := by
 have HD := Lib.hid h
 obtain ⟨who, bf, bs, bn, vr, ff, rn, h⟩ := h
 have CF := Lib.hid (pfindPlace_disk h (Nat.zero_le _) s hs a)
 obtain ⟨k, er, hge⟩ : ∃ k er, Sf.get t s = (k, er) := ⟨_, _, rfl⟩
 have HE0 : Hid (Sf.write t s a l = if er ≠ 0 then (er, t) else if a < 0 ∨ (Sf.len t k : Int) < a then (2, t) else Sf.layOf t k a.toNat l) := by unfold Hid Sf.write; rw [hge]; rfl
 have HP0 : Hid (Sf.placeOf t s a = if er ≠ 0 then (0, er) else if a < 0 ∨ (Sf.len t k : Int) < a then (0, 2) else (k, 0)) := by unfold Hid Sf.placeOf; rw [hge]
 obtain ⟨A0, c0, ev, _, _, _, _⟩ := id hv
 by_cases hgood : er = 0 ∧ ¬ (a < 0 ∨ (Sf.len t k : Int) < a)
 ·obtain ⟨he, hno⟩ := hgood
  subst he
  have HE : Hid (Sf.write t s a l = Sf.layOf t k a.toNat l) := HE0.out.trans ((if_neg (by simp)).trans (if_neg hno))
  have hP : Sf.placeOf t s a = (k, 0) := HP0.out.trans ((if_neg (by simp)).trans (if_neg hno))
  rw [hP] at CF
  obtain ⟨p, rfl⟩ : ∃ p : Nat, (p : Int) = a := ⟨a.toNat, by omega⟩
  rw [Int.toNat_natCast] at HE
  have CL := Lib.hid (play_disk h hf hge p (by omega) v B l hv hB)
  subst ev
  clear h hge HE0 hv HP0 hP hno
  go_enter Tryz.func95, Tryz.ntmps95
  go_wp2_with fail
  refine CF.out.mono ?_
  rintro e1 w1 ⟨rfl, rfl⟩
  clear CF
  go_wp2_with fail
  refine CL.out.mono ?_
  rintro e6 w6 ⟨rfl, f', hD, hN, hT⟩
  have H1 := Lib.hid hD
  have H2 := Lib.hid hN
  have H3 := Lib.hid hT
  clear CL hD hN hT
  go_wp2
  go_ret
  rw [HE.out]
  exact ⟨rfl, f', H1.out, H2.out, H3.out⟩
 ·obtain ⟨q, hq0, hP, hE⟩ : ∃ q : Nat, q ≠ 0 ∧ Sf.placeOf t s a = (0, q) ∧ Sf.write t s a l = (q, t) := by
   by_cases he : er = 0
   ·have hor : a < 0 ∨ (Sf.len t k : Int) < a := Classical.byContradiction fun h => hgood ⟨he, h⟩
    exact ⟨2, by decide, HP0.out.trans ((if_neg (by simp [he])).trans (if_pos hor)), HE0.out.trans ((if_neg (by simp [he])).trans (if_pos hor))⟩
   ·exact ⟨er, he, HP0.out.trans (if_pos he), HE0.out.trans (if_pos he)⟩
  have hq : ((q : Int) != 0) = true := by rw [bne_iff_ne]; omega
  rw [hP] at CF
  have HE := Lib.hid hE
  subst ev
  clear h hge HE0 hf hv HP0 hP hE hgood hq0
  go_enter Tryz.func95, Tryz.ntmps95
  go_wp2_with fail
  refine CF.out.mono ?_
  rintro e1 w1 ⟨rfl, rfl⟩
  clear CF
  go_wp2
  go_ret
  rw [HE.out]
  exact ⟨rfl, fp, HD.out, Fp.Next.refl _ _, Turned.refl _ _⟩
set_option maxHeartbeats 2000000 in
set_option maxRecDepth 100000 in
theorem pcut_any (h : PDisk w fp t b) (hf : Sf.Few t) (s : ByteArray) (hs : s.size ≤ maxLen) (a : Int) (ha : I64 a) :
  Calls Tryz.prog 93 #[.pointer (some ⟨b, 0, none⟩), .string s, .int .i64 a] w (IsDeed PDisk fp b (Sf.cut t s a) w) := by
 have HD := Lib.hid h
 obtain ⟨who, bf, bs, bn, vr, ff, rn, h⟩ := h
 have CF := Lib.hid (pfindPlace_disk h (Nat.zero_le _) s hs a)
 obtain ⟨k, er, hge⟩ : ∃ k er, Sf.get t s = (k, er) := ⟨_, _, rfl⟩
 have HE0 : Hid (Sf.cut t s a = if er ≠ 0 then (er, t) else if a < 0 ∨ (Sf.len t k : Int) < a then (2, t) else Sf.add t k ⟨true, a.toNat, []⟩) := by unfold Hid Sf.cut; rw [hge]
 have HP0 : Hid (Sf.placeOf t s a = if er ≠ 0 then (0, er) else if a < 0 ∨ (Sf.len t k : Int) < a then (0, 2) else (k, 0)) := by unfold Hid Sf.placeOf; rw [hge]
 by_cases hgood : er = 0 ∧ ¬ (a < 0 ∨ (Sf.len t k : Int) < a)
 ·obtain ⟨he, hno⟩ := hgood
  subst he
  have HE : Hid (Sf.cut t s a = Sf.add t k ⟨true, a.toNat, []⟩) := HE0.out.trans ((if_neg (by simp)).trans (if_neg hno))
  have hP : Sf.placeOf t s a = (k, 0) := HP0.out.trans ((if_neg (by simp)).trans (if_neg hno))
  rw [hP] at CF
  obtain ⟨p, rfl⟩ : ∃ p : Nat, (p : Int) = a := ⟨a.toNat, by omega⟩
  rw [Int.toNat_natCast] at HE
  obtain ⟨x, q1, q2, q3⟩ := h.file_of hge
  have hpl : p ≤ (Sf.now (Sf.fileAt t k)).length := by have : Sf.len t k = (Sf.now (Sf.fileAt t k)).length := rfl; omega
  have CL := Lib.hid (pdoToFile_disk h hf q2 q1 q3 ⟨p, ⟨none, 0, 0⟩, true⟩ [] (bl := w.heap.size) (Lv.nil_ _ _ _) (Nat.le_refl _) w.heap.size (Nat.le_refl _) (fun h => by simp at h) hpl (by simp) (fun _ => rfl) (by
   show (Sf.done _ ⟨true, p, []⟩).length ≤ _
   rw [Sf.done_len_cut hpl]
   have := q3.len_le
   omega))
  change Hid (Calls _ _ #[.pointer (some ⟨b, 0, none⟩), .int .i64 (k : Nat), .agg #[.int .i64 (p : Nat), .slice none 0 0, .bool true]] w _) at CL
  clear h hge HE0 HP0 hP hno q1 q2 q3
  go_enter Tryz.func93, Tryz.ntmps93
  go_wp2_with fail
  refine CF.out.mono ?_
  rintro e1 w1 ⟨rfl, rfl⟩
  clear CF
  go_wp2_with fail
  refine CL.out.mono ?_
  rintro e6 w6 ⟨rfl, f', hD, hN, hT⟩
  have H1 := Lib.hid hD
  have H2 := Lib.hid hN
  have H3 := Lib.hid hT
  clear CL hD hN hT
  go_wp2
  go_ret
  rw [HE.out]
  exact ⟨rfl, f', H1.out, H2.out, H3.out⟩
 ·obtain ⟨q, hq0, hP, hE⟩ : ∃ q : Nat, q ≠ 0 ∧ Sf.placeOf t s a = (0, q) ∧ Sf.cut t s a = (q, t) := by
   by_cases he : er = 0
   ·have hor : a < 0 ∨ (Sf.len t k : Int) < a := Classical.byContradiction fun h => hgood ⟨he, h⟩
    exact ⟨2, by decide, HP0.out.trans ((if_neg (by simp [he])).trans (if_pos hor)), HE0.out.trans ((if_neg (by simp [he])).trans (if_pos hor))⟩
   ·exact ⟨er, he, HP0.out.trans (if_pos he), HE0.out.trans (if_pos he)⟩
  have hq : ((q : Int) != 0) = true := by rw [bne_iff_ne]; omega
  rw [hP] at CF
  have HE := Lib.hid hE
  clear h hge HE0 hf HP0 hP hE hgood hq0
  go_enter Tryz.func93, Tryz.ntmps93
  go_wp2_with fail
  refine CF.out.mono ?_
  rintro e1 w1 ⟨rfl, rfl⟩
  clear CF
  go_wp2
  go_ret
  rw [HE.out]
  exact ⟨rfl, fp, HD.out, Fp.Next.refl _ _, Turned.refl _ _⟩
end
end Go.Proofs.YtiafeniflkikeaaGreat
