/-
  PfCh: simfs.file.changed.
  PfLayK: maps.Keys, slices.Sorted over a directory, as they stand in this program (the text of the layings comes of the kit's own lay-plain).
  PfKeys: simfs: rising, Names.
-/
import Derived.Test.YtmcbjcbnckpfkaaGreatPt15
import Derived.Test.YtmcbjcbnckpfkaaGreatPt02
import Derived.Deep.RegionHeld3
import Derived.Shelf.SlIter.Nil
import Derived.Shelf.SortM.Plain
import Derived.Shelf.SortM.SortNone
import Derived.Test.YtmcbjcbnckpfkaaGreatRows
import Derived.Test.YtmcbjcbnckpfkaaGreatChecked
import Derived.Test.YtmcbjcbnckpfkaaGreatPt14
import Derived.Test.YtmcbjcbnckpfkaaGreatPt10
namespace Go.Proofs.YtmcbjcbnckpfkaaGreat
open Go.RowKit
set_option linter.unusedVariables false
set_option maxHeartbeats 4000000 in
set_option maxRecDepth 100000 in
theorem pchanged_any (c : RawC) (x : RawX) (l m : List Nat) (rc : List RawC) (w : World) (B : Nat) (hrow : OwnL cK w 0 (slV x.row) rc) (hnow : OwnL yK w 0 (slV x.now) l) (hm : Lv yK w B (slV c.sl) m) (hB : B ≤ w.heap.size)
    (hap1 : Apart (slV x.row) (slV x.now)) (hap2 : 0 < m.length → Apart (slV c.sl) (slV x.now)) (hap3 : 0 < m.length → Apart (slV c.sl) (slV x.row)) (ha : c.at_ ≤ l.length) (hl : l.length ≤ 1099511627776) (hml : m.length ≤ 1099511627776) (hc : c.at_ ≤ 1048576) (hrl : rc.length ≤ 2199023255552) :
    Calls Tryz.prog 95 #[xV x, cV c] w (fun e w' => ∃ u v : Sl, e = .returned (xV ⟨x.sure, u, v⟩) ∧ OwnL cK w' 0 (slV u) (rc ++ [c]) ∧ OwnL yK w' 0 (slV v) (Sf.done l ⟨c.cut, c.at_, m⟩) ∧
      Turned (fun k => (slV x.row).ownBlock = some k ∨ (slV x.now).ownBlock = some k) w w' ∧ Moved w (slV x.row) (slV u) ∧ Moved w (slV x.now) (slV v) ∧ Apart (slV u) (slV v)) := by
  obtain ⟨at_, ⟨Ac, nc, cc⟩, cut⟩ := c
  obtain ⟨⟨A1, n1, c1⟩, ⟨A2, n2, c2⟩, ⟨A3, n3, c3⟩⟩ := x
  simp only [slV] at hrow hnow hm hap1 hap2 hap3 ⊢
  simp only at ha hc
  change Calls _ _ #[.agg #[.slice A1 n1 c1, .slice A2 n2 c2, .slice A3 n3 c3], .agg #[.int .i64 (at_ : Nat), .slice Ac nc cc, .bool cut]] w _
  obtain ⟨W, hW⟩ : ∃ W, ((w.alloc (.cells #[.slice A1 n1 c1, .slice A2 n2 c2, .slice A3 n3 c3] 87)).alloc (.cells #[.int .i64 (at_ : Nat), .slice Ac nc cc, .bool cut] 113)).alloc (.cells #[.slice none 0 0, .slice none 0 0, .slice none 0 0] 87) = W := ⟨_, rfl⟩
  have hWs : W.heap.size = w.heap.size + 3 := by rw [← hW]; simp
  have hW0 : W.heap[w.heap.size]? = some (.cells #[.slice A1 n1 c1, .slice A2 n2 c2, .slice A3 n3 c3] 87 (0, 0)) := by
    rw [← hW, heap_alloc_old _ _ (by simp; omega), heap_alloc_old _ _ (by simp)]; exact heap_alloc_new _ _
  have hW1 : W.heap[w.heap.size + 1]? = some (.cells #[.int .i64 (at_ : Nat), .slice Ac nc cc, .bool cut] 113 (0, 0)) := by
    rw [← hW, heap_alloc_old _ _ (by simp)]
    have := heap_alloc_new (w.alloc (.cells #[.slice A1 n1 c1, .slice A2 n2 c2, .slice A3 n3 c3] 87)) (.cells #[.int .i64 (at_ : Nat), .slice Ac nc cc, .bool cut] 113)
    simpa using this
  have hW2 : W.heap[w.heap.size + 2]? = some (.cells #[.slice none 0 0, .slice none 0 0, .slice none 0 0] 87 (0, 0)) := by
    rw [← hW]
    have := heap_alloc_new ((w.alloc (.cells #[.slice A1 n1 c1, .slice A2 n2 c2, .slice A3 n3 c3] 87)).alloc (.cells #[.int .i64 (at_ : Nat), .slice Ac nc cc, .bool cut] 113)) (.cells #[.slice none 0 0, .slice none 0 0, .slice none 0 0] 87)
    simpa using this
  have hb : Below w.heap.size w W := by rw [← hW]; exact (((Below.refl _ _).alloc (Nat.le_refl _) _).alloc (by simp) _).alloc (by simp; omega) _
  -- what stays
  have HF : Hid (∀ k, (Value.slice A2 n2 c2).ownBlock = some k ∨ (Value.slice A3 n3 c3).ownBlock = some k → k < w.heap.size) := fun k hk => hk.elim (fun h => (hrow.lt_ k h).2) (fun h => (hnow.lt_ k h).2)
  obtain ⟨F, hF⟩ : ∃ F : Nat → Prop, (fun k => (Value.slice A2 n2 c2).ownBlock = some k ∨ (Value.slice A3 n3 c3).ownBlock = some k) = F := ⟨_, rfl⟩
  have HF2 : Hid (∀ k, (Value.slice A2 n2 c2).ownBlock = some k → F k) := fun k hk => by rw [← hF]; exact .inl hk
  have HF3 : Hid (∀ k, (Value.slice A3 n3 c3).ownBlock = some k → F k) := fun k hk => by rw [← hF]; exact .inr hk
  have HFL : Hid (∀ k, F k → k < w.heap.size) := fun k hk => by rw [← hF] at hk; exact HF.out k hk
  obtain ⟨G, hG⟩ : ∃ G : Nat → Prop, (fun k => F k ∨ k = w.heap.size + 2) = G := ⟨_, rfl⟩
  have HGF : Hid (∀ k, F k → G k) := fun k hk => by rw [← hG]; exact .inl hk
  have HG2 : Hid (G (w.heap.size + 2)) := by rw [← hG]; exact .inr rfl
  have HGL : Hid (∀ k, G k → k < w.heap.size ∨ k = w.heap.size + 2) := fun k hk => by rw [← hG] at hk; exact hk.imp (HFL.out k) id
  have hcell : ∀ (p : Nat) (cs : Array Value) (T : TypeId), w.heap.size ≤ p → p < w.heap.size + 2 → W.heap[p]? = some (.cells cs T (0, 0)) → ∀ w', Turned G W w' → w'.heap[p]? = some (.cells cs T (0, 0)) := fun p cs T hp hp2 hh w' ht => by
    refine (ht.block p (Array.getElem?_eq_some_iff.1 hh).1 (fun hf => ?_)).trans hh
    have := HGL.out p hf
    omega
  have HX : Hid (∀ w', Turned G W w' → w'.cell? ⟨w.heap.size, 0, none⟩ = some (.slice A1 n1 c1) ∧ w'.cell? ⟨w.heap.size, 1, none⟩ = some (.slice A2 n2 c2) ∧ w'.cell? ⟨w.heap.size, 2, none⟩ = some (.slice A3 n3 c3)) := fun w' ht => by
    have h := hcell _ _ _ (Nat.le_refl _) (by omega) hW0 w' ht
    exact ⟨by rw [cell_of_row _ _ 0 _ _ _ h]; rfl, by rw [cell_of_row _ _ 1 _ _ _ h]; rfl, by rw [cell_of_row _ _ 2 _ _ _ h]; rfl⟩
  have HY : Hid (∀ w', Turned G W w' → w'.cell? ⟨w.heap.size + 1, 0, none⟩ = some (.int .i64 (at_ : Nat)) ∧ w'.cell? ⟨w.heap.size + 1, 1, none⟩ = some (.slice Ac nc cc) ∧ w'.cell? ⟨w.heap.size + 1, 2, none⟩ = some (.bool cut)) := fun w' ht => by
    have h := hcell _ _ _ (by omega) (by omega) hW1 w' ht
    exact ⟨by rw [cell_of_row _ _ 0 _ _ _ h]; rfl, by rw [cell_of_row _ _ 1 _ _ _ h]; rfl, by rw [cell_of_row _ _ 2 _ _ _ h]; rfl⟩
  have HZ : Hid (∀ w', Turned F W w' → w'.heap[w.heap.size + 2]? = some (.cells #[.slice none 0 0, .slice none 0 0, .slice none 0 0] 87 (0, 0))) := fun w' ht => (ht.block _ (by omega) (fun hf => by have := HFL.out _ hf; omega)).trans hW2
  -- the append
  have hrow1 : OwnL cK W.drew 0 (.slice A2 n2 c2) rc := (hrow.below_ hb (Nat.le_refl _)).drew_
  have hnow1 : OwnL yK W.drew 0 (.slice A3 n3 c3) l := (hnow.below_ hb (Nat.le_refl _)).drew_
  have hm1 : Lv yK W.drew B (.slice Ac nc cc) m := (hm.below_ hb hB).drew_
  have hok : cK.ok ⟨at_, ⟨Ac, nc, cc⟩, cut⟩ := hc
  obtain ⟨W1, hW1e⟩ : ∃ W1, W.drew.alloc (.cells #[.int .i64 (at_ : Nat), .slice Ac nc cc, .bool cut] 113) = W1 := ⟨_, rfl⟩
  have hlit := Lv.lit_ (K := cK) W.drew hok
  change Lv cK (W.drew.alloc (.cells #[.int .i64 (at_ : Nat), .slice Ac nc cc, .bool cut] 113)) _ _ _ at hlit
  have hT0 : Turned (fun _ => False) W.drew W1 := by rw [← hW1e]; exact (Turned.refl _ _).alloc _
  have hT1 : Turned F W.drew W1 := hT0.mono fun _ _ h => h.elim
  rw [hW1e] at hlit
  have hrow2 : OwnL cK W1 0 (.slice A2 n2 c2) rc := by rw [← hW1e]; exact hrow1.alloc_ _
  have hnow2 : OwnL yK W1 0 (.slice A3 n3 c3) l := hnow1.turned_ hT0 (fun k hk hf => hf)
  have hm2 : Lv yK W1 B (.slice Ac nc cc) m := hm1.turnedB_ hT0 (fun hp k hk hf => hf)
  obtain ⟨at1, hat1⟩ : ∃ D, Sf.done l ⟨cut, at_, m⟩ = D := ⟨_, rfl⟩
  have HDO : Hid (∀ W2, OwnL yK W2 0 (.slice A3 n3 c3) l → Lv yK W2 B (.slice Ac nc cc) m → B ≤ W2.heap.size → Calls Tryz.prog 90 #[.agg #[.int .i64 (at_ : Nat), .slice Ac nc cc, .bool cut], .slice A3 n3 c3] W2 (IsDone (.slice A3 n3 c3) 0 at1 W2)) := fun W2 h1 h2 h3 => by
    rw [← hat1]
    exact pcdo_any ⟨at_, ⟨Ac, nc, cc⟩, cut⟩ (.slice A3 n3 c3) l 0 B m W2 h1 h2 hap2 ha hl hml (Nat.zero_le _) h3
  rw [hat1]
  have HLIT := Lib.hid hlit
  have HROW := Lib.hid hrow2
  have HNOW := Lib.hid hnow2
  have HMM := Lib.hid hm2
  have HAP := Lib.hid hap1
  have HAP3 := Lib.hid hap3
  have HWS := Lib.hid hWs
  have HBW := Lib.hid hb
  have HRL := Lib.hid hrl
  have HS0 : Hid (Turned F W W.drew) := (Turned.refl F W).drew
  have HSL : Hid (Turned F W W1) := ((Turned.refl F W).drew).trans hT1 (fun _ _ h => h)
  clear hrow hnow hm hap1 hap2 hap3 hcell hrow1 hnow1 hm1 hlit hT1 hT0 hrow2 hnow2 hm2 hb hWs hW0 hW1 hW2 hok hat1
  go_enter Tryz.func95, Tryz.ntmps95
  go_wp2
  refine wp_region_held_drew (S := fun w' => Turned G W w') (by kernel_rfl) (HS0.out.mono fun k _ hk => HGF.out k hk) (fun hH => ?_)
  refine wpAnyH_take (i := 0) (v := ?_) rfl (by kernel_rfl) (by kernel_rfl) (by kernel_rfl) (fun _ _ _ h => h) (Or.inl ⟨by rfl, (by intro w' hSw; go_simp; first | done | with_reducible rfl)⟩) hH ?_
  try simp only [Act.put, List.getElem_toArray, List.getElem_cons_zero, List.setIfInBounds_toArray, List.set_cons_zero, List.set_cons_succ]
  refine wpAnyH_take (i := 1) (v := ?_) rfl (by kernel_rfl) (by kernel_rfl) (by kernel_rfl) (fun _ _ _ h => h) (Or.inl ⟨by rfl, (by intro w' hSw; obtain ⟨s0, s1, s2⟩ := HX.out w' hSw; go_simp; first | done | with_reducible rfl)⟩) hH ?_
  try simp only [Act.put, List.getElem_toArray, List.getElem_cons_succ, List.getElem_cons_zero, List.setIfInBounds_toArray, List.set_cons_zero, List.set_cons_succ]
  refine wpAnyH_take (i := 2) (v := ?_) rfl (by kernel_rfl) (by kernel_rfl) (by kernel_rfl) (fun _ _ _ h => h) (Or.inl ⟨by rfl, (by intro w' hSw; go_simp; first | done | with_reducible rfl)⟩) hH ?_
  try simp only [Act.put, List.getElem_toArray, List.getElem_cons_succ, List.getElem_cons_zero, List.setIfInBounds_toArray, List.set_cons_zero, List.set_cons_succ]
  refine wpAnyH_take (i := 3) (v := ?_) rfl (by kernel_rfl) (by kernel_rfl) (by kernel_rfl) (fun _ _ _ h => h) (Or.inl ⟨by rfl, (by intro w' hSw; obtain ⟨s0, s1, s2⟩ := HX.out w' hSw; go_simp; first | done | with_reducible rfl)⟩) hH ?_
  try simp only [Act.put, List.getElem_toArray, List.getElem_cons_succ, List.getElem_cons_zero, List.setIfInBounds_toArray, List.set_cons_zero, List.set_cons_succ]
  refine wpAnyH_take (i := 4) (v := ?_) rfl (by kernel_rfl) (by kernel_rfl) (by kernel_rfl) (fun _ _ _ h => h) (Or.inl ⟨by rfl, (by intro w' hSw; obtain ⟨s0, s1, s2⟩ := HY.out w' hSw; go_simp; first | done | with_reducible rfl)⟩) hH ?_
  try simp only [Act.put, List.getElem_toArray, List.getElem_cons_succ, List.getElem_cons_zero, List.setIfInBounds_toArray, List.set_cons_zero, List.set_cons_succ]
  refine wpAnyH_take (i := 7) (v := ?_) rfl (by kernel_rfl) (by kernel_rfl) (by kernel_rfl) (fun _ _ _ h => h) (Or.inl ⟨by rfl, (by intro w' hSw; obtain ⟨s0, s1, s2⟩ := HY.out w' hSw; go_simp; first | done | with_reducible rfl)⟩) hH ?_
  try simp only [Act.put, List.getElem_toArray, List.getElem_cons_succ, List.getElem_cons_zero, List.setIfInBounds_toArray, List.set_cons_zero, List.set_cons_succ]
  refine wpAnyH_take (i := 8) (v := ?_) rfl (by kernel_rfl) (by kernel_rfl) (by kernel_rfl) (fun _ _ _ h => h) (Or.inl ⟨by rfl, (by intro w' hSw; go_simp; first | done | with_reducible rfl)⟩) hH ?_
  try simp only [Act.put, List.getElem_toArray, List.getElem_cons_succ, List.getElem_cons_zero, List.setIfInBounds_toArray, List.set_cons_zero, List.set_cons_succ]
  refine wpAnyH_take (i := 9) (v := ?_) rfl (by kernel_rfl) (by kernel_rfl) (by kernel_rfl) (fun _ _ _ h => h) (Or.inl ⟨by rfl, (by intro w' hSw; obtain ⟨s0, s1, s2⟩ := HX.out w' hSw; go_simp; first | done | with_reducible rfl)⟩) hH ?_
  try simp only [Act.put, List.getElem_toArray, List.getElem_cons_succ, List.getElem_cons_zero, List.setIfInBounds_toArray, List.set_cons_zero, List.set_cons_succ]
  refine wpAnyH_ready (rs := [5]) (by kernel_rfl) (by simp) ?_
  refine AllReadyH.cons rfl (fun K hK => ?_) AllReadyH.nil
  go_simp
  refine hK.out _ _ (HSL.out.mono fun k _ hk => HGF.out k hk) (fun hH => ?_)
  clear hK K
  try simp only [Act.put, List.getElem_toArray, List.getElem_cons_succ, List.getElem_cons_zero, List.setIfInBounds_toArray, List.set_cons_zero, List.set_cons_succ]
  refine wpAnyH_ready (rs := [6]) (by kernel_rfl) (by simp) ?_
  refine AllReadyH.cons rfl (fun K hK => ?_) AllReadyH.nil
  refine step_append_m W1 cK rfl _ _ rfl 0 _ rfl rc HROW.out _ rfl _ _ HLIT.out (by show _ * 40 ≤ _; have := HRL.out; simp; omega) (by have := HRL.out; simp only [maxLen, List.length_singleton]; omega) (Nat.zero_le _) ?_
  intro Au cu W2 hown hg2 hmv2
  have hT2 : Turned F W1 W2 := (Turned.of_grown hg2).mono fun k _ hk => HF2.out k hk
  have hT12 : Turned F W W2 := HSL.out.trans hT2 (fun _ _ h => h)
  have hnow2 : OwnL yK W2 0 (.slice A3 n3 c3) l := HNOW.out.turned_ (Turned.of_grown hg2) (fun k hk e => HAP.out k e hk)
  have hm2 : Lv yK W2 B (.slice Ac nc cc) m := HMM.out.turnedB_ (Turned.of_grown hg2) (fun hp k hk e => HAP3.out hp k hk e)
  have CD := Lib.hid (HDO.out W2 hnow2 hm2 (by have := hT12.size; have := HWS.out; omega))
  have HT12 := Lib.hid hT12
  have HOW := Lib.hid hown
  have HMV : Hid (Moved w (.slice A2 n2 c2) (.slice Au (rc ++ [(⟨at_, ⟨Ac, nc, cc⟩, cut⟩ : RawC)]).length cu)) := fun k hk => (hmv2 k hk).imp id (fun h => by have := HSL.out.size; have := HWS.out; omega)
  have HN2 := Lib.hid hnow2
  refine hK.out _ _ (HT12.out.mono fun k _ hk => HGF.out k hk) (fun hH => ?_)
  clear hK K hW1e hown hg2 hmv2 hT2 hT12 hnow2 hm2 HDO HLIT HROW HNOW HMM
  try simp only [Act.put, List.getElem_toArray, List.getElem_cons_succ, List.getElem_cons_zero, List.setIfInBounds_toArray, List.set_cons_zero, List.set_cons_succ]
  refine wpAnyH_ready (rs := [10]) (by kernel_rfl) (by simp) ?_
  refine AllReadyH.cons rfl (fun K hK => ?_) AllReadyH.nil
  go_simp
  refine CD.out.mono ?_
  rintro e W3 ⟨Av, cv, rfl, hd, hg3, hmv3⟩
  have hT3 : Turned F W2 W3 := (Turned.of_grown hg3).mono fun k _ hk => HF3.out k hk
  have HT3 := Lib.hid (HT12.out.trans hT3 (fun _ _ h => h))
  have HOW3 : Hid (OwnL cK W3 0 (.slice Au (rc ++ [(⟨at_, ⟨Ac, nc, cc⟩, cut⟩ : RawC)]).length cu) (rc ++ [⟨at_, ⟨Ac, nc, cc⟩, cut⟩])) := HOW.out.turned_ (Turned.of_grown hg3) (fun k hk e => by
    rcases HMV.out k hk with h | h
    · exact HAP.out k h e
    · have h3 := HFL.out k (HF3.out k e)
      omega)
  have HD3 := Lib.hid hd
  have HM3 : Hid (Moved w (.slice A3 n3 c3) (.slice Av at1.length cv)) := fun k hk => (hmv3 k hk).imp id (fun h => by have := HT12.out.size; have := HWS.out; omega)
  have HA3 : Hid (Apart (.slice Au (rc ++ [(⟨at_, ⟨Ac, nc, cc⟩, cut⟩ : RawC)]).length cu) (.slice Av at1.length cv)) := fun k hk hk2 => by
    rcases hmv3 k hk2 with h | h
    · rcases HMV.out k hk with h2 | h2
      · exact HAP.out k h2 h
      · have h3 := HFL.out k (HF3.out k h)
        omega
    · have := (HOW.out.lt_ k hk).2
      omega
  have HZ3 : Hid (Rw W3 (w.heap.size + 2) 87 #[.slice none 0 0, .slice none 0 0, .slice none 0 0]) := HZ.out W3 HT3.out
  refine hK.out _ _ (HT3.out.mono fun k _ hk => HGF.out k hk) (fun hH => ?_)
  clear hK K CD hd hg3 hmv3 hT3
  have hnu : (rc ++ [(⟨at_, ⟨Ac, nc, cc⟩, cut⟩ : RawC)]).length = rc.length + 1 := by simp
  rw [hnu] at HOW3 HMV HA3
  clear hnu
  try simp only [Act.put, List.getElem_toArray, List.getElem_cons_succ, List.getElem_cons_zero, List.setIfInBounds_toArray, List.set_cons_zero, List.set_cons_succ]
  refine wpAnyH_take (i := 11) (v := ?_) rfl (by kernel_rfl) (by kernel_rfl) (by kernel_rfl) (fun _ _ _ h => h) (Or.inl ⟨by rfl, (by intro w' hSw; go_simp; first | done | with_reducible rfl)⟩) hH ?_
  try simp only [Act.put, List.getElem_toArray, List.getElem_cons_succ, List.getElem_cons_zero, List.setIfInBounds_toArray, List.set_cons_zero, List.set_cons_succ]
  refine wpAnyH_ready (rs := [12]) (by kernel_rfl) (by simp) ?_
  refine AllReadyH.cons rfl (fun K hK => ?_) AllReadyH.nil
  rw [if_pos (by rfl)]
  refine wp_store_row 87 (.tmp 4) (.tmp 16) rfl (w.heap.size + 2) #[.slice A1 n1 c1, .slice Au (rc.length + 1) cu, .slice Av at1.length cv] rfl rfl 87 _ HZ3.out (by kernel_rfl) rfl (by simp [Value.oneCell']) ?_
  have HT4 : Hid (Turned G W (W3.setRow (w.heap.size + 2) #[.slice A1 n1 c1, .slice Au (rc.length + 1) cu, .slice Av at1.length cv])) := (HT3.out.mono fun k _ hk => HGF.out k hk).setRow (fun _ => HG2.out) _
  have HRZ := Lib.hid (HZ3.out.row #[.slice A1 n1 c1, .slice Au (rc.length + 1) cu, .slice Av at1.length cv])
  refine hK.out _ _ HT4.out (fun hH => ?_)
  clear hK K
  refine wpAnyH_done (by kernel_rfl) ?_ _
  clear hH
  go_wp2
  try simp only [Act.put, List.getElem_toArray, List.getElem_cons_succ, List.getElem_cons_zero]
  have hoff : ∀ k, k ≠ w.heap.size + 2 → (W3.setRow (w.heap.size + 2) #[.slice A1 n1 c1, .slice Au (rc.length + 1) cu, .slice Av at1.length cv]).heap[k]? = W3.heap[k]? := fun k hk => setRow_other _ _ _ _ hk
  refine bodyPost_ret (v := .agg #[.slice A1 n1 c1, .slice Au (rc.length + 1) cu, .slice Av at1.length cv]) (results_cell_row rfl _ _ (w.heap.size + 2) 87 #[.slice A1 n1 c1, .slice Au (rc.length + 1) cu, .slice Av at1.length cv] (0, 0) _ rfl HRZ.out Tryz.underlying87 rfl (by kernel_rfl)) rfl
    ⟨⟨Au, rc.length + 1, cu⟩, ⟨Av, at1.length, cv⟩, rfl, HOW3.out.of_block fun k hk => hoff k ?_, HD3.out.of_block fun k hk => hoff k ?_, ?_, HMV.out, HM3.out, HA3.out⟩
  · rintro rfl
    exact own_ne HOW3.out HZ3.out (by decide) hk
  · rintro rfl
    exact own_ne HD3.out HZ3.out (by decide) hk
  · rw [hF]
    exact (((Turned.of_below HBW.out).mono (G := F) (fun k hk h => absurd hk (by omega))).trans HT3.out (fun _ _ h => h)).setRow (fun h => by omega) _
end Go.Proofs.YtmcbjcbnckpfkaaGreat
namespace Go.Proofs.YtmcbjcbnckpfkaaGreat
open Go.Shelf Go.Proofs
def keysM_ren : Go.Shelf.Ren := ⟨fun | 7 => 89 | 10 => 98 | n => n, fun | 23 => 75 | 26 => 9 | 3 => 3 | 28 => 125 | 0 => 0 | 27 => 124 | 33 => 105 | 4 => 4 | n => n, fun | n => n⟩
theorem keysM : Go.Proofs.SlLaysZ.n7 Tryz.prog keysM_ren := {
  mixed := by kernel_rfl
  f7 := ⟨Tryz.f89.name, by decide, Tryz.func89.trans (congrArg some (by kernel_rfl))⟩
  f10 := ⟨Tryz.f98.name, by decide, Tryz.func98.trans (congrArg some (by kernel_rfl))⟩
  t0 := Tryz.underlying0
  a0 := Tryz.isAgg0
  z0 := Tryz.sizeOf0
  v0 := Tryz.zeroValue0
  t4 := Tryz.underlying4
  a4 := Tryz.isAgg4
  z4 := Tryz.sizeOf4
  v4 := Tryz.zeroValue4
  t23 := Tryz.underlying75
  a23 := Tryz.isAgg75
  z23 := Tryz.sizeOf75
  v23 := Tryz.zeroValue75
  t26 := Tryz.underlying9
  a26 := Tryz.isAgg9
  z26 := Tryz.sizeOf9
  v26 := Tryz.zeroValue9
  t27 := Tryz.underlying124
  a27 := Tryz.isAgg124
  z27 := Tryz.sizeOf124
  v27 := Tryz.zeroValue124
  t28 := Tryz.underlying125
  a28 := Tryz.isAgg125
  z28 := Tryz.sizeOf125
  v28 := Tryz.zeroValue125
  t33 := Tryz.underlying105
  a33 := Tryz.isAgg105
  z33 := Tryz.sizeOf105
  v33 := Tryz.zeroValue105 }
def sortedS_ren : Go.Shelf.Ren := ⟨fun | 6 => 88 | 8 => 96 | 9 => 97 | 11 => 100 | 13 => 102 | 12 => 101 | 23 => 112 | 24 => 113 | 14 => 103 | 15 => 104 | 16 => 105 | 17 => 106 | 18 => 107 | 19 => 108 | 20 => 109 | 21 => 110 | 22 => 111 | 25 => 114 | 26 => 115 | 27 => 116 | 28 => 117 | 29 => 118 | 30 => 119 | 31 => 120 | n => n, fun | 26 => 9 | 28 => 125 | 24 => 63 | 0 => 0 | 3 => 3 | 37 => 136 | 48 => 147 | 50 => 122 | 4 => 4 | 40 => 140 | 39 => 139 | 45 => 106 | 5 => 5 | 9 => 9 | 51 => 149 | 55 => 153 | 57 => 155 | 58 => 156 | 33 => 105 | n => n, fun | n => n⟩
theorem sortedS : Go.Proofs.SlLaysZ.n6 Tryz.prog sortedS_ren := {
  mixed := by kernel_rfl
  f6 := ⟨Tryz.f88.name, by decide, Tryz.func88.trans (congrArg some (by kernel_rfl))⟩
  f8 := ⟨Tryz.f96.name, by decide, Tryz.func96.trans (congrArg some (by kernel_rfl))⟩
  f11 := ⟨Tryz.f100.name, by decide, Tryz.func100.trans (congrArg some (by kernel_rfl))⟩
  t0 := Tryz.underlying0
  a0 := Tryz.isAgg0
  z0 := Tryz.sizeOf0
  v0 := Tryz.zeroValue0
  t24 := Tryz.underlying63
  a24 := Tryz.isAgg63
  z24 := Tryz.sizeOf63
  v24 := Tryz.zeroValue63
  t26 := Tryz.underlying9
  a26 := Tryz.isAgg9
  z26 := Tryz.sizeOf9
  v26 := Tryz.zeroValue9
  t28 := Tryz.underlying125
  a28 := Tryz.isAgg125
  z28 := Tryz.sizeOf125
  v28 := Tryz.zeroValue125
  i26 := by kernel_rfl }
def sortS_ren : Go.Shelf.Ren := ⟨fun | 6 => 97 | 8 => 102 | 9 => 101 | 19 => 112 | 20 => 113 | 21 => 103 | 22 => 104 | 23 => 105 | 24 => 106 | 25 => 107 | 26 => 108 | 27 => 109 | 28 => 110 | 29 => 111 | 36 => 114 | 31 => 115 | 32 => 116 | 37 => 117 | 38 => 118 | 39 => 119 | 41 => 120 | n => n, fun | 27 => 63 | 29 => 9 | 3 => 3 | 32 => 136 | 26 => 63 | 0 => 0 | 44 => 147 | 46 => 122 | 4 => 4 | 36 => 140 | 35 => 139 | 41 => 106 | 5 => 5 | 9 => 9 | 53 => 149 | 57 => 153 | 63 => 155 | 64 => 156 | n => n, fun | n => n⟩
theorem sortS : Go.Proofs.SlLaysM.n6 Tryz.prog sortS_ren := {
  mixed := by kernel_rfl
  f6 := ⟨Tryz.f97.name, by decide, Tryz.func97.trans (congrArg some (by kernel_rfl))⟩
  f8 := Tryz.func102.trans (congrArg some (by kernel_rfl))
  f9 := ⟨Tryz.f101.name, by decide, Tryz.func101.trans (congrArg some (by kernel_rfl))⟩
  f19 := Tryz.func112.trans (congrArg some (by kernel_rfl))
  f20 := Tryz.func113.trans (congrArg some (by kernel_rfl))
  f21 := ⟨Tryz.f103.name, by decide, Tryz.func103.trans (congrArg some (by kernel_rfl))⟩
  f22 := ⟨Tryz.f104.name, by decide, Tryz.func104.trans (congrArg some (by kernel_rfl))⟩
  f23 := ⟨Tryz.f105.name, by decide, Tryz.func105.trans (congrArg some (by kernel_rfl))⟩
  f24 := ⟨Tryz.f106.name, by decide, Tryz.func106.trans (congrArg some (by kernel_rfl))⟩
  f25 := ⟨Tryz.f107.name, by decide, Tryz.func107.trans (congrArg some (by kernel_rfl))⟩
  f26 := ⟨Tryz.f108.name, by decide, Tryz.func108.trans (congrArg some (by kernel_rfl))⟩
  f27 := ⟨Tryz.f109.name, by decide, Tryz.func109.trans (congrArg some (by kernel_rfl))⟩
  f28 := ⟨Tryz.f110.name, by decide, Tryz.func110.trans (congrArg some (by kernel_rfl))⟩
  f29 := ⟨Tryz.f111.name, by decide, Tryz.func111.trans (congrArg some (by kernel_rfl))⟩
  f31 := Tryz.func115.trans (congrArg some (by kernel_rfl))
  f32 := Tryz.func116.trans (congrArg some (by kernel_rfl))
  f36 := ⟨Tryz.f114.name, by decide, Tryz.func114.trans (congrArg some (by kernel_rfl))⟩
  f37 := ⟨Tryz.f117.name, by decide, Tryz.func117.trans (congrArg some (by kernel_rfl))⟩
  f38 := ⟨Tryz.f118.name, by decide, Tryz.func118.trans (congrArg some (by kernel_rfl))⟩
  f39 := ⟨Tryz.f119.name, by decide, Tryz.func119.trans (congrArg some (by kernel_rfl))⟩
  f41 := ⟨Tryz.f120.name, by decide, Tryz.func120.trans (congrArg some (by kernel_rfl))⟩
  t0 := Tryz.underlying0
  a0 := Tryz.isAgg0
  z0 := Tryz.sizeOf0
  v0 := Tryz.zeroValue0
  t3 := Tryz.underlying3
  a3 := Tryz.isAgg3
  z3 := Tryz.sizeOf3
  v3 := Tryz.zeroValue3
  t4 := Tryz.underlying4
  a4 := Tryz.isAgg4
  z4 := Tryz.sizeOf4
  v4 := Tryz.zeroValue4
  t5 := Tryz.underlying5
  a5 := Tryz.isAgg5
  z5 := Tryz.sizeOf5
  v5 := Tryz.zeroValue5
  t9 := Tryz.underlying9
  a9 := Tryz.isAgg9
  z9 := Tryz.sizeOf9
  v9 := Tryz.zeroValue9
  t26 := Tryz.underlying63
  a26 := Tryz.isAgg63
  z26 := Tryz.sizeOf63
  v26 := Tryz.zeroValue63
  t27 := Tryz.underlying63
  a27 := Tryz.isAgg63
  z27 := Tryz.sizeOf63
  v27 := Tryz.zeroValue63
  t29 := Tryz.underlying9
  a29 := Tryz.isAgg9
  z29 := Tryz.sizeOf9
  v29 := Tryz.zeroValue9
  t32 := Tryz.underlying136
  a32 := Tryz.isAgg136
  z32 := Tryz.sizeOf136
  v32 := Tryz.zeroValue136
  t35 := Tryz.underlying139
  a35 := Tryz.isAgg139
  z35 := Tryz.sizeOf139
  v35 := Tryz.zeroValue139
  t36 := Tryz.underlying140
  a36 := Tryz.isAgg140
  z36 := Tryz.sizeOf140
  v36 := Tryz.zeroValue140
  t41 := Tryz.underlying106
  a41 := Tryz.isAgg106
  z41 := Tryz.sizeOf106
  v41 := Tryz.zeroValue106
  t44 := Tryz.underlying147
  a44 := Tryz.isAgg147
  z44 := Tryz.sizeOf147
  v44 := Tryz.zeroValue147
  t46 := Tryz.underlying122
  a46 := Tryz.isAgg122
  z46 := Tryz.sizeOf122
  v46 := Tryz.zeroValue122
  t53 := Tryz.underlying149
  a53 := Tryz.isAgg149
  z53 := Tryz.sizeOf149
  v53 := Tryz.zeroValue149
  t57 := Tryz.underlying153
  a57 := Tryz.isAgg153
  z57 := Tryz.sizeOf153
  v57 := Tryz.zeroValue153
  t63 := Tryz.underlying155
  a63 := Tryz.isAgg155
  z63 := Tryz.sizeOf155
  v63 := Tryz.zeroValue155
  t64 := Tryz.underlying156
  a64 := Tryz.isAgg156
  z64 := Tryz.sizeOf156
  v64 := Tryz.zeroValue156 }

end Go.Proofs.YtmcbjcbnckpfkaaGreat
namespace Go.Proofs.YtmcbjcbnckpfkaaGreat
open Go.RowKit Go.Maps Go.Sort Go.Shelf Go.Proofs
set_option linter.unusedVariables false
theorem sortsS (m : Nat) : AnyZ.SortsIn Tryz.prog sortedS_ren Fence.wide m :=
  ⟨fun blk off cap ss W hH hblk hsz => callsIn_wide.2 (AnyM.slices_Sort_string sortS blk off cap ss W hH hblk hsz),
   fun p cap W => callsIn_wide.2 (AnyM.slices_Sort_string_none sortS p cap W)⟩
theorem keys_dir (mb : Option Nat) (W : World) : CallsIn Fence.wide 5 Tryz.prog 89 #[.map mb] W fun e w' => e = .returned (.func (.func 98) #[] #[.pointer (some ⟨W.heap.size, 0, none⟩)]) ∧ w' = W.alloc (.cells #[.map mb] 75) :=
  AnyZ.keys_in keysM Fence.wide 5 trivial rfl mb W
set_option maxHeartbeats 1000000 in
theorem sorted_dir (b nn : Nat) (D0 : DataW Unit) (R : Value → Option (DataW Unit × List MemPlace)) (w : World) (hown : w.ownsMap Tryz.prog 9 R b nn D0) (hmax : Maps.size D0 ≤ maxLen) (hbytes : Maps.size D0 * 16 ≤ 140737488355328) :
    CallsIn Fence.wide 5 Tryz.prog 88 #[.func (.func 98) #[] #[.pointer (some ⟨w.heap.size, 0, none⟩)]] (w.alloc (.cells #[.map (some b)] 75)) fun e w' => ∃ (v : Value) (ss : List (List UInt8)), e = .returned v ∧ ss.Perm (strKeys D0) ∧
      w'.ownsRow (w.alloc (.cells #[.map (some b)] 75)).heap.size 9 1 v ss.length ((ss.mergeSort (fun x y => decide (x ≤ y))).map encStr) ∧ Below (w.alloc (.cells #[.map (some b)] 75)).heap.size (w.alloc (.cells #[.map (some b)] 75)) w' := by
  have hbl := hown.lt
  have hseq : SeqGives Fence.wide 2 Tryz.prog 98 #[.pointer (some ⟨w.heap.size, 0, none⟩)] encStr (fun ss => ss.Perm (strKeys D0)) (Maps.size D0) (w.alloc (.cells #[.map (some b)] 75)) :=
    AnyZ.keys_gives (ρ := keysM_ren) { keysM with } Fence.wide _ trivial rfl (by omega) w.heap.size b nn D0 _ (by simp) (by simp) (by
      obtain ⟨es, clock, hb, Ft, hs, hD⟩ := hown
      exact ⟨es, clock, (Below.heap_alloc _ _ b hbl).trans hb, Ft, hs, hD⟩)
  refine (AnyZ.sorted_in sortedS Fence.wide 5 trivial trivial trivial trivial rfl (by omega) (sortsS _) (enters_of Tryz.func97 (by kernel_rfl) rfl) 98 #[.pointer (some ⟨w.heap.size, 0, none⟩)] trivial (enters_of Tryz.func98 (by kernel_rfl) rfl) _ _ hmax hbytes _ hseq).mono ?_
  rintro e w' ⟨v, ss, h1, h2, h3, _, h4⟩
  exact ⟨v, ss, h1, h2, h3, h4⟩
/-- Sorted keys are the names, as they rise. -/
theorem keys_sorted {d : Sf.Dir} (hd : Sf.OkDir d) {ss : List (List UInt8)} (h : ss.Perm (d.map fun e => e.1.data.toList)) : ss.mergeSort (fun x y => decide (x ≤ y)) = d.map fun e => e.1.data.toList := by
  have hr : (d.map fun e => e.1.data.toList).Pairwise (fun x y => x ≤ y) := by
    rw [List.pairwise_map]
    refine List.Pairwise.imp (fun {a b} hab => ?_) hd.rise
    rw [ByteArray.toList_eq, ByteArray.toList_eq] at hab
    exact List.le_of_lt hab
  refine List.Perm.eq_of_pairwise (le := fun x y => x ≤ y) (fun a b _ _ h1 h2 => List.le_antisymm h1 h2) ?_ hr ((List.mergeSort_perm ss _).trans h)
  have := List.pairwise_mergeSort (le := fun x y : List UInt8 => decide (x ≤ y)) (fun a b c h1 h2 => by
    simp only [decide_eq_true_eq] at h1 h2 ⊢
    exact List.le_trans h1 h2) (fun a b => by
    simp only [Bool.or_eq_true, decide_eq_true_eq]
    exact List.le_total a b) ss
  exact List.Pairwise.imp (fun {a b} h => by simpa using h) this
set_option maxHeartbeats 1000000 in
set_option maxRecDepth 100000 in
theorem prising_any (b n : Nat) (d : Sf.Dir) (w : World) (h : IsMp dM w b n (Sf.dirF d)) (hd : Sf.OkDir d) (hl : d.length ≤ 64) : Calls Tryz.prog 59 #[.map (some b)] w (IsQ1 sK (d.map (·.1)) w) := by
  obtain ⟨D, h1, h2⟩ := h
  have hp := Tells.perm (K := dM) dM_ok h1 h2 (Sf.dirL d) (by rw [Sf.dirL_keys]; exact hd.nodup) (fun e he => by
    obtain ⟨x, hx, rfl⟩ := List.mem_map.1 he
    exact Sf.name_max (hd.name x hx)) (fun x _ y => Sf.dirF_iff hd x y)
  obtain ⟨es, rfl, hp⟩ := hp
  have hsz : Maps.size (DataW.map es : DataW Unit) = d.length := by rw [Maps.size_eq, hp.length_eq, List.length_map, Sf.dirL, List.length_map]
  have hkeys : (strKeys (DataW.map es : DataW Unit)).Perm (d.map fun e => e.1.data.toList) := by
    have := hp.map fun p : Lit × DataW Unit => strOf p.1
    rw [List.map_map, Sf.dirL, List.map_map] at this
    exact this
  have CS := Lib.hid (sorted_dir b n (DataW.map es) dM.read w h1 (by rw [hsz]; simp only [maxLen]; omega) (by rw [hsz]; omega))
  have CK := Lib.hid (keys_dir (some b) w)
  have HK := Lib.hid hkeys
  have HD := Lib.hid hd
  clear h1 h2 hp hsz hkeys hd
  refine (callsIn_wide (n := 6)).1 ?_
  have hfK : Fence.wide.fn 89 := trivial
  have hfS : Fence.wide.fn 88 := trivial
  refine callsIn_of_wp Tryz.func59 rfl trivial ?_ rfl
  simp only [Tryz.ntmps59, List.size_toArray, List.length_cons, List.length_nil, Nat.reduceAdd, Nat.reduceSub, Array.replicate_succ, Array.replicate_zero, List.push_toArray, List.append_toArray, List.nil_append, List.cons_append]
  gi_wp2_with (first
    | (gi_at_call 89; refine CK.out.mono ?_; rintro e w1 ⟨rfl, rfl⟩)
    | (gi_at_call 88; refine CS.out.mono ?_; rintro e w2 ⟨v, ss, rfl, hS, hrow, hb⟩))
  go_ret
  have hm := keys_sorted HD.out (hS.trans HK.out)
  rw [hm] at hrow
  have hlen : ss.length = (d.map (·.1)).length := by rw [(hS.trans HK.out).length_eq, List.length_map, List.length_map]
  have hflat : (d.map fun e => e.1.data.toList).map encStr = sK.flat (d.map (·.1)) := by
    clear hrow hlen hm CS CK HK hS HD
    induction d with
    | nil => rfl
    | cons e d ih =>
      rw [List.map_cons, List.map_cons, List.map_cons, flat_cons, ih (by simp at hl ⊢; omega)]
      rfl
  rw [hflat, hlen] at hrow
  have hb2 : Below w.heap.size w w2 := ((Below.refl _ w).alloc (Nat.le_refl _) _).trans (hb.mono (by simp))
  have hok : ∀ x ∈ d.map (·.1), sK.ok x := fun x hx => by
    obtain ⟨e, he, rfl⟩ := List.mem_map.1 hx
    exact Sf.name_max (HD.out.name e he)
  have hO := (OwnQ.of_row (K := sK) hok hrow).mono_ (base' := w.heap.size) (by simp)
  obtain ⟨A, c, e, _⟩ := hO.form_
  subst e
  exact ⟨A, c, rfl, hO, hb2⟩
end Go.Proofs.YtmcbjcbnckpfkaaGreat
