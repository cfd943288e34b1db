/-
  PfCh: simfs.file.changed.
  PfS: simfs: a disk of which one file becomes another one.
  PfStr: strings.Clone: the same bytes; a row of them is laid, and frozen.
-/
import Derived.Test.YtmcbjcbnckpfkaaPn12
import Derived.Test.YtmcbjcbnckpfkaaPn13
import Derived.Deep.RegionHeld3
import Derived.Test.YtmcbjcbnckpfkaaPn11
import Derived.Lib.UnsafeStr
import Derived.Lib.BufferWrite
namespace Go.Proofs.Ytmcbjcbnckpfkaa
open Go.RowKit
set_option linter.unusedVariables false
set_option maxHeartbeats 4000000 in
set_option maxRecDepth 100000 in
theorem pchanged_any (c : RawC) (x : RawX) (l m : List Nat) (rc : List RawC) (w : World) (B : Nat) (hrow : OwnL cK w 0 (slV x.row) rc) (hnow : OwnL yK w 0 (slV x.now) l) (hm : Lv yK w B (slV c.sl) m) (hB : B ≤ w.heap.size)
    (hap1 : Apart (slV x.row) (slV x.now)) (hap2 : 0 < m.length → Apart (slV c.sl) (slV x.now)) (hap3 : 0 < m.length → Apart (slV c.sl) (slV x.row)) (ha : c.at_ ≤ l.length) (hl : l.length ≤ 1099511627776) (hml : m.length ≤ 1099511627776) (hc : c.at_ ≤ 1048576) (hrl : rc.length ≤ 2199023255552) :
    Calls Try.prog 69 #[xV x, cV c] w (fun e w' => ∃ u v : Sl, e = .returned (xV ⟨x.sure, u, v⟩) ∧ OwnL cK w' 0 (slV u) (rc ++ [c]) ∧ OwnL yK w' 0 (slV v) (Sf.done l ⟨c.cut, c.at_, m⟩) ∧
      Turned (fun k => (slV x.row).ownBlock = some k ∨ (slV x.now).ownBlock = some k) w w' ∧ Moved w (slV x.row) (slV u) ∧ Moved w (slV x.now) (slV v) ∧ Apart (slV u) (slV v)) := by
  obtain ⟨at_, ⟨Ac, nc, cc⟩, cut⟩ := c
  obtain ⟨⟨A1, n1, c1⟩, ⟨A2, n2, c2⟩, ⟨A3, n3, c3⟩⟩ := x
  simp only [slV] at hrow hnow hm hap1 hap2 hap3 ⊢
  simp only at ha hc
  change Calls _ _ #[.agg #[.slice A1 n1 c1, .slice A2 n2 c2, .slice A3 n3 c3], .agg #[.int .i64 (at_ : Nat), .slice Ac nc cc, .bool cut]] w _
  obtain ⟨W, hW⟩ : ∃ W, ((w.alloc (.cells #[.slice A1 n1 c1, .slice A2 n2 c2, .slice A3 n3 c3] 75)).alloc (.cells #[.int .i64 (at_ : Nat), .slice Ac nc cc, .bool cut] 96)).alloc (.cells #[.slice none 0 0, .slice none 0 0, .slice none 0 0] 75) = W := ⟨_, rfl⟩
  have hWs : W.heap.size = w.heap.size + 3 := by rw [← hW]; simp
  have hW0 : W.heap[w.heap.size]? = some (.cells #[.slice A1 n1 c1, .slice A2 n2 c2, .slice A3 n3 c3] 75 (0, 0)) := by
    rw [← hW, heap_alloc_old _ _ (by simp; omega), heap_alloc_old _ _ (by simp)]; exact heap_alloc_new _ _
  have hW1 : W.heap[w.heap.size + 1]? = some (.cells #[.int .i64 (at_ : Nat), .slice Ac nc cc, .bool cut] 96 (0, 0)) := by
    rw [← hW, heap_alloc_old _ _ (by simp)]
    have := heap_alloc_new (w.alloc (.cells #[.slice A1 n1 c1, .slice A2 n2 c2, .slice A3 n3 c3] 75)) (.cells #[.int .i64 (at_ : Nat), .slice Ac nc cc, .bool cut] 96)
    simpa using this
  have hW2 : W.heap[w.heap.size + 2]? = some (.cells #[.slice none 0 0, .slice none 0 0, .slice none 0 0] 75 (0, 0)) := by
    rw [← hW]
    have := heap_alloc_new ((w.alloc (.cells #[.slice A1 n1 c1, .slice A2 n2 c2, .slice A3 n3 c3] 75)).alloc (.cells #[.int .i64 (at_ : Nat), .slice Ac nc cc, .bool cut] 96)) (.cells #[.slice none 0 0, .slice none 0 0, .slice none 0 0] 75)
    simpa using this
  have hb : Below w.heap.size w W := by rw [← hW]; exact (((Below.refl _ _).alloc (Nat.le_refl _) _).alloc (by simp) _).alloc (by simp; omega) _
  -- what stays
  have HF : Hid (∀ k, (Value.slice A2 n2 c2).ownBlock = some k ∨ (Value.slice A3 n3 c3).ownBlock = some k → k < w.heap.size) := fun k hk => hk.elim (fun h => (hrow.lt_ k h).2) (fun h => (hnow.lt_ k h).2)
  obtain ⟨F, hF⟩ : ∃ F : Nat → Prop, (fun k => (Value.slice A2 n2 c2).ownBlock = some k ∨ (Value.slice A3 n3 c3).ownBlock = some k) = F := ⟨_, rfl⟩
  have HF2 : Hid (∀ k, (Value.slice A2 n2 c2).ownBlock = some k → F k) := fun k hk => by rw [← hF]; exact .inl hk
  have HF3 : Hid (∀ k, (Value.slice A3 n3 c3).ownBlock = some k → F k) := fun k hk => by rw [← hF]; exact .inr hk
  have HFL : Hid (∀ k, F k → k < w.heap.size) := fun k hk => by rw [← hF] at hk; exact HF.out k hk
  obtain ⟨G, hG⟩ : ∃ G : Nat → Prop, (fun k => F k ∨ k = w.heap.size + 2) = G := ⟨_, rfl⟩
  have HGF : Hid (∀ k, F k → G k) := fun k hk => by rw [← hG]; exact .inl hk
  have HG2 : Hid (G (w.heap.size + 2)) := by rw [← hG]; exact .inr rfl
  have HGL : Hid (∀ k, G k → k < w.heap.size ∨ k = w.heap.size + 2) := fun k hk => by rw [← hG] at hk; exact hk.imp (HFL.out k) id
  have hcell : ∀ (p : Nat) (cs : Array Value) (T : TypeId), w.heap.size ≤ p → p < w.heap.size + 2 → W.heap[p]? = some (.cells cs T (0, 0)) → ∀ w', Turned G W w' → w'.heap[p]? = some (.cells cs T (0, 0)) := fun p cs T hp hp2 hh w' ht => by
    refine (ht.block p (Array.getElem?_eq_some_iff.1 hh).1 (fun hf => ?_)).trans hh
    have := HGL.out p hf
    omega
  have HX : Hid (∀ w', Turned G W w' → w'.cell? ⟨w.heap.size, 0, none⟩ = some (.slice A1 n1 c1) ∧ w'.cell? ⟨w.heap.size, 1, none⟩ = some (.slice A2 n2 c2) ∧ w'.cell? ⟨w.heap.size, 2, none⟩ = some (.slice A3 n3 c3)) := fun w' ht => by
    have h := hcell _ _ _ (Nat.le_refl _) (by omega) hW0 w' ht
    exact ⟨by rw [cell_of_row _ _ 0 _ _ _ h]; rfl, by rw [cell_of_row _ _ 1 _ _ _ h]; rfl, by rw [cell_of_row _ _ 2 _ _ _ h]; rfl⟩
  have HY : Hid (∀ w', Turned G W w' → w'.cell? ⟨w.heap.size + 1, 0, none⟩ = some (.int .i64 (at_ : Nat)) ∧ w'.cell? ⟨w.heap.size + 1, 1, none⟩ = some (.slice Ac nc cc) ∧ w'.cell? ⟨w.heap.size + 1, 2, none⟩ = some (.bool cut)) := fun w' ht => by
    have h := hcell _ _ _ (by omega) (by omega) hW1 w' ht
    exact ⟨by rw [cell_of_row _ _ 0 _ _ _ h]; rfl, by rw [cell_of_row _ _ 1 _ _ _ h]; rfl, by rw [cell_of_row _ _ 2 _ _ _ h]; rfl⟩
  have HZ : Hid (∀ w', Turned F W w' → w'.heap[w.heap.size + 2]? = some (.cells #[.slice none 0 0, .slice none 0 0, .slice none 0 0] 75 (0, 0))) := fun w' ht => (ht.block _ (by omega) (fun hf => by have := HFL.out _ hf; omega)).trans hW2
  -- the append
  have hrow1 : OwnL cK W.drew 0 (.slice A2 n2 c2) rc := (hrow.below_ hb (Nat.le_refl _)).drew_
  have hnow1 : OwnL yK W.drew 0 (.slice A3 n3 c3) l := (hnow.below_ hb (Nat.le_refl _)).drew_
  have hm1 : Lv yK W.drew B (.slice Ac nc cc) m := (hm.below_ hb hB).drew_
  have hok : cK.ok ⟨at_, ⟨Ac, nc, cc⟩, cut⟩ := hc
  obtain ⟨W1, hW1e⟩ : ∃ W1, W.drew.alloc (.cells #[.int .i64 (at_ : Nat), .slice Ac nc cc, .bool cut] 96) = W1 := ⟨_, rfl⟩
  have hlit := Lv.lit_ (K := cK) W.drew hok
  change Lv cK (W.drew.alloc (.cells #[.int .i64 (at_ : Nat), .slice Ac nc cc, .bool cut] 96)) _ _ _ at hlit
  have hT0 : Turned (fun _ => False) W.drew W1 := by rw [← hW1e]; exact (Turned.refl _ _).alloc _
  have hT1 : Turned F W.drew W1 := hT0.mono fun _ _ h => h.elim
  rw [hW1e] at hlit
  have hrow2 : OwnL cK W1 0 (.slice A2 n2 c2) rc := by rw [← hW1e]; exact hrow1.alloc_ _
  have hnow2 : OwnL yK W1 0 (.slice A3 n3 c3) l := hnow1.turned_ hT0 (fun k hk hf => hf)
  have hm2 : Lv yK W1 B (.slice Ac nc cc) m := hm1.turnedB_ hT0 (fun hp k hk hf => hf)
  obtain ⟨at1, hat1⟩ : ∃ D, Sf.done l ⟨cut, at_, m⟩ = D := ⟨_, rfl⟩
  have HDO : Hid (∀ W2, OwnL yK W2 0 (.slice A3 n3 c3) l → Lv yK W2 B (.slice Ac nc cc) m → B ≤ W2.heap.size → Calls Try.prog 62 #[.agg #[.int .i64 (at_ : Nat), .slice Ac nc cc, .bool cut], .slice A3 n3 c3] W2 (IsDone (.slice A3 n3 c3) 0 at1 W2)) := fun W2 h1 h2 h3 => by
    rw [← hat1]
    exact pcdo_any ⟨at_, ⟨Ac, nc, cc⟩, cut⟩ (.slice A3 n3 c3) l 0 B m W2 h1 h2 hap2 ha hl hml (Nat.zero_le _) h3
  rw [hat1]
  have HLIT := Lib.hid hlit
  have HROW := Lib.hid hrow2
  have HNOW := Lib.hid hnow2
  have HMM := Lib.hid hm2
  have HAP := Lib.hid hap1
  have HAP3 := Lib.hid hap3
  have HWS := Lib.hid hWs
  have HBW := Lib.hid hb
  have HRL := Lib.hid hrl
  have HS0 : Hid (Turned F W W.drew) := (Turned.refl F W).drew
  have HSL : Hid (Turned F W W1) := ((Turned.refl F W).drew).trans hT1 (fun _ _ h => h)
  clear hrow hnow hm hap1 hap2 hap3 hcell hrow1 hnow1 hm1 hlit hT1 hT0 hrow2 hnow2 hm2 hb hWs hW0 hW1 hW2 hok hat1
  go_enter Try.func69, Try.ntmps69
  go_wp2
  refine wp_region_held_drew (S := fun w' => Turned G W w') (by kernel_rfl) (HS0.out.mono fun k _ hk => HGF.out k hk) (fun hH => ?_)
  refine wpAnyH_take (i := 0) (v := ?_) rfl (by kernel_rfl) (by kernel_rfl) (by kernel_rfl) (fun _ _ _ h => h) (Or.inl ⟨by rfl, (by intro w' hSw; go_simp; first | done | with_reducible rfl)⟩) hH ?_
  try simp only [Act.put, List.getElem_toArray, List.getElem_cons_zero, List.setIfInBounds_toArray, List.set_cons_zero, List.set_cons_succ]
  refine wpAnyH_take (i := 1) (v := ?_) rfl (by kernel_rfl) (by kernel_rfl) (by kernel_rfl) (fun _ _ _ h => h) (Or.inl ⟨by rfl, (by intro w' hSw; obtain ⟨s0, s1, s2⟩ := HX.out w' hSw; go_simp; first | done | with_reducible rfl)⟩) hH ?_
  try simp only [Act.put, List.getElem_toArray, List.getElem_cons_succ, List.getElem_cons_zero, List.setIfInBounds_toArray, List.set_cons_zero, List.set_cons_succ]
  refine wpAnyH_take (i := 2) (v := ?_) rfl (by kernel_rfl) (by kernel_rfl) (by kernel_rfl) (fun _ _ _ h => h) (Or.inl ⟨by rfl, (by intro w' hSw; go_simp; first | done | with_reducible rfl)⟩) hH ?_
  try simp only [Act.put, List.getElem_toArray, List.getElem_cons_succ, List.getElem_cons_zero, List.setIfInBounds_toArray, List.set_cons_zero, List.set_cons_succ]
  refine wpAnyH_take (i := 3) (v := ?_) rfl (by kernel_rfl) (by kernel_rfl) (by kernel_rfl) (fun _ _ _ h => h) (Or.inl ⟨by rfl, (by intro w' hSw; obtain ⟨s0, s1, s2⟩ := HX.out w' hSw; go_simp; first | done | with_reducible rfl)⟩) hH ?_
  try simp only [Act.put, List.getElem_toArray, List.getElem_cons_succ, List.getElem_cons_zero, List.setIfInBounds_toArray, List.set_cons_zero, List.set_cons_succ]
  refine wpAnyH_take (i := 4) (v := ?_) rfl (by kernel_rfl) (by kernel_rfl) (by kernel_rfl) (fun _ _ _ h => h) (Or.inl ⟨by rfl, (by intro w' hSw; obtain ⟨s0, s1, s2⟩ := HY.out w' hSw; go_simp; first | done | with_reducible rfl)⟩) hH ?_
  try simp only [Act.put, List.getElem_toArray, List.getElem_cons_succ, List.getElem_cons_zero, List.setIfInBounds_toArray, List.set_cons_zero, List.set_cons_succ]
  refine wpAnyH_take (i := 7) (v := ?_) rfl (by kernel_rfl) (by kernel_rfl) (by kernel_rfl) (fun _ _ _ h => h) (Or.inl ⟨by rfl, (by intro w' hSw; obtain ⟨s0, s1, s2⟩ := HY.out w' hSw; go_simp; first | done | with_reducible rfl)⟩) hH ?_
  try simp only [Act.put, List.getElem_toArray, List.getElem_cons_succ, List.getElem_cons_zero, List.setIfInBounds_toArray, List.set_cons_zero, List.set_cons_succ]
  refine wpAnyH_take (i := 8) (v := ?_) rfl (by kernel_rfl) (by kernel_rfl) (by kernel_rfl) (fun _ _ _ h => h) (Or.inl ⟨by rfl, (by intro w' hSw; go_simp; first | done | with_reducible rfl)⟩) hH ?_
  try simp only [Act.put, List.getElem_toArray, List.getElem_cons_succ, List.getElem_cons_zero, List.setIfInBounds_toArray, List.set_cons_zero, List.set_cons_succ]
  refine wpAnyH_take (i := 9) (v := ?_) rfl (by kernel_rfl) (by kernel_rfl) (by kernel_rfl) (fun _ _ _ h => h) (Or.inl ⟨by rfl, (by intro w' hSw; obtain ⟨s0, s1, s2⟩ := HX.out w' hSw; go_simp; first | done | with_reducible rfl)⟩) hH ?_
  try simp only [Act.put, List.getElem_toArray, List.getElem_cons_succ, List.getElem_cons_zero, List.setIfInBounds_toArray, List.set_cons_zero, List.set_cons_succ]
  refine wpAnyH_ready (rs := [5]) (by kernel_rfl) (by simp) ?_
  refine AllReadyH.cons rfl (fun K hK => ?_) AllReadyH.nil
  go_simp
  refine hK.out _ _ (HSL.out.mono fun k _ hk => HGF.out k hk) (fun hH => ?_)
  clear hK K
  try simp only [Act.put, List.getElem_toArray, List.getElem_cons_succ, List.getElem_cons_zero, List.setIfInBounds_toArray, List.set_cons_zero, List.set_cons_succ]
  refine wpAnyH_ready (rs := [6]) (by kernel_rfl) (by simp) ?_
  refine AllReadyH.cons rfl (fun K hK => ?_) AllReadyH.nil
  refine step_append_m W1 cK rfl _ _ rfl 0 _ rfl rc HROW.out _ rfl _ _ HLIT.out (by show _ * 40 ≤ _; have := HRL.out; simp; omega) (by have := HRL.out; simp only [maxLen, List.length_singleton]; omega) (Nat.zero_le _) ?_
  intro Au cu W2 hown hg2 hmv2
  have hT2 : Turned F W1 W2 := (Turned.of_grown hg2).mono fun k _ hk => HF2.out k hk
  have hT12 : Turned F W W2 := HSL.out.trans hT2 (fun _ _ h => h)
  have hnow2 : OwnL yK W2 0 (.slice A3 n3 c3) l := HNOW.out.turned_ (Turned.of_grown hg2) (fun k hk e => HAP.out k e hk)
  have hm2 : Lv yK W2 B (.slice Ac nc cc) m := HMM.out.turnedB_ (Turned.of_grown hg2) (fun hp k hk e => HAP3.out hp k hk e)
  have CD := Lib.hid (HDO.out W2 hnow2 hm2 (by have := hT12.size; have := HWS.out; omega))
  have HT12 := Lib.hid hT12
  have HOW := Lib.hid hown
  have HMV : Hid (Moved w (.slice A2 n2 c2) (.slice Au (rc ++ [(⟨at_, ⟨Ac, nc, cc⟩, cut⟩ : RawC)]).length cu)) := fun k hk => (hmv2 k hk).imp id (fun h => by have := HSL.out.size; have := HWS.out; omega)
  have HN2 := Lib.hid hnow2
  refine hK.out _ _ (HT12.out.mono fun k _ hk => HGF.out k hk) (fun hH => ?_)
  clear hK K hW1e hown hg2 hmv2 hT2 hT12 hnow2 hm2 HDO HLIT HROW HNOW HMM
  try simp only [Act.put, List.getElem_toArray, List.getElem_cons_succ, List.getElem_cons_zero, List.setIfInBounds_toArray, List.set_cons_zero, List.set_cons_succ]
  refine wpAnyH_ready (rs := [10]) (by kernel_rfl) (by simp) ?_
  refine AllReadyH.cons rfl (fun K hK => ?_) AllReadyH.nil
  go_simp
  refine CD.out.mono ?_
  rintro e W3 ⟨Av, cv, rfl, hd, hg3, hmv3⟩
  have hT3 : Turned F W2 W3 := (Turned.of_grown hg3).mono fun k _ hk => HF3.out k hk
  have HT3 := Lib.hid (HT12.out.trans hT3 (fun _ _ h => h))
  have HOW3 : Hid (OwnL cK W3 0 (.slice Au (rc ++ [(⟨at_, ⟨Ac, nc, cc⟩, cut⟩ : RawC)]).length cu) (rc ++ [⟨at_, ⟨Ac, nc, cc⟩, cut⟩])) := HOW.out.turned_ (Turned.of_grown hg3) (fun k hk e => by
    rcases HMV.out k hk with h | h
    · exact HAP.out k h e
    · have h3 := HFL.out k (HF3.out k e)
      omega)
  have HD3 := Lib.hid hd
  have HM3 : Hid (Moved w (.slice A3 n3 c3) (.slice Av at1.length cv)) := fun k hk => (hmv3 k hk).imp id (fun h => by have := HT12.out.size; have := HWS.out; omega)
  have HA3 : Hid (Apart (.slice Au (rc ++ [(⟨at_, ⟨Ac, nc, cc⟩, cut⟩ : RawC)]).length cu) (.slice Av at1.length cv)) := fun k hk hk2 => by
    rcases hmv3 k hk2 with h | h
    · rcases HMV.out k hk with h2 | h2
      · exact HAP.out k h2 h
      · have h3 := HFL.out k (HF3.out k h)
        omega
    · have := (HOW.out.lt_ k hk).2
      omega
  have HZ3 : Hid (Rw W3 (w.heap.size + 2) 75 #[.slice none 0 0, .slice none 0 0, .slice none 0 0]) := HZ.out W3 HT3.out
  refine hK.out _ _ (HT3.out.mono fun k _ hk => HGF.out k hk) (fun hH => ?_)
  clear hK K CD hd hg3 hmv3 hT3
  have hnu : (rc ++ [(⟨at_, ⟨Ac, nc, cc⟩, cut⟩ : RawC)]).length = rc.length + 1 := by simp
  rw [hnu] at HOW3 HMV HA3
  clear hnu
  try simp only [Act.put, List.getElem_toArray, List.getElem_cons_succ, List.getElem_cons_zero, List.setIfInBounds_toArray, List.set_cons_zero, List.set_cons_succ]
  refine wpAnyH_take (i := 11) (v := ?_) rfl (by kernel_rfl) (by kernel_rfl) (by kernel_rfl) (fun _ _ _ h => h) (Or.inl ⟨by rfl, (by intro w' hSw; go_simp; first | done | with_reducible rfl)⟩) hH ?_
  try simp only [Act.put, List.getElem_toArray, List.getElem_cons_succ, List.getElem_cons_zero, List.setIfInBounds_toArray, List.set_cons_zero, List.set_cons_succ]
  refine wpAnyH_ready (rs := [12]) (by kernel_rfl) (by simp) ?_
  refine AllReadyH.cons rfl (fun K hK => ?_) AllReadyH.nil
  rw [if_pos (by rfl)]
  refine wp_store_row 75 (.tmp 4) (.tmp 16) rfl (w.heap.size + 2) #[.slice A1 n1 c1, .slice Au (rc.length + 1) cu, .slice Av at1.length cv] rfl rfl 75 _ HZ3.out (by kernel_rfl) rfl (by simp [Value.oneCell']) ?_
  have HT4 : Hid (Turned G W (W3.setRow (w.heap.size + 2) #[.slice A1 n1 c1, .slice Au (rc.length + 1) cu, .slice Av at1.length cv])) := (HT3.out.mono fun k _ hk => HGF.out k hk).setRow (fun _ => HG2.out) _
  have HRZ := Lib.hid (HZ3.out.row #[.slice A1 n1 c1, .slice Au (rc.length + 1) cu, .slice Av at1.length cv])
  refine hK.out _ _ HT4.out (fun hH => ?_)
  clear hK K
  refine wpAnyH_done (by kernel_rfl) ?_ _
  clear hH
  go_wp2
  try simp only [Act.put, List.getElem_toArray, List.getElem_cons_succ, List.getElem_cons_zero]
  have hoff : ∀ k, k ≠ w.heap.size + 2 → (W3.setRow (w.heap.size + 2) #[.slice A1 n1 c1, .slice Au (rc.length + 1) cu, .slice Av at1.length cv]).heap[k]? = W3.heap[k]? := fun k hk => setRow_other _ _ _ _ hk
  refine bodyPost_ret (v := .agg #[.slice A1 n1 c1, .slice Au (rc.length + 1) cu, .slice Av at1.length cv]) (results_cell_row rfl _ _ (w.heap.size + 2) 75 #[.slice A1 n1 c1, .slice Au (rc.length + 1) cu, .slice Av at1.length cv] (0, 0) _ rfl HRZ.out Try.underlying75 rfl (by kernel_rfl)) rfl
    ⟨⟨Au, rc.length + 1, cu⟩, ⟨Av, at1.length, cv⟩, rfl, HOW3.out.of_block fun k hk => hoff k ?_, HD3.out.of_block fun k hk => hoff k ?_, ?_, HMV.out, HM3.out, HA3.out⟩
  · rintro rfl
    exact own_ne HOW3.out HZ3.out (by decide) hk
  · rintro rfl
    exact own_ne HD3.out HZ3.out (by decide) hk
  · rw [hF]
    exact (((Turned.of_below HBW.out).mono (G := F) (fun k hk h => absurd hk (by omega))).trans HT3.out (fun _ _ h => h)).setRow (fun h => by omega) _
end Go.Proofs.Ytmcbjcbnckpfkaa
namespace Go.Proofs.Ytmcbjcbnckpfkaa
open Go.RowKit
set_option linter.unusedVariables false
section
variable {w w' : World} {fp : Fp} {s q : Nat} {t : Sf.St} {b : Nat} {who who' : Who} {bf bs bn : Nat} {vr : Sl} {ff : Int → Option RawX} {rn : List RawN} {F : Nat → Prop}
theorem PBody.set_file (h : PBody w who s t bf bs bn vr ff rn) {n : Nat} (hn : n < t.files.length) {x : RawX} (hx : ff (n : Int) = some x) (x' : RawX) (f' : Sf.File) (hm : More who who') (hT : Turned F w w')
    (hF : ∀ k, F k → who k = none ∨ who k = some .head ∨ who k = some .files ∨ who k = some (.fsure n) ∨ who k = some (.frow n) ∨ who k = some (.fnow n)) (hmap : IsMp fM w' bf (64 + t.acts + q) (fun k => if k = (n : Int) then some x' else ff k)) (hX : HasX w' who' n x' f') (hq : s ≤ q) :
    PBody w' who' q { t with files := t.files.set n f' } bf bs bn vr (fun k => if k = (n : Int) then some x' else ff k) rn := by
  have no : ∀ r, r ≠ Role.head → r ≠ Role.files → r ≠ Role.fsure n → r ≠ Role.frow n → r ≠ Role.fnow n → ∀ k, F k → who k ≠ some r := fun r h1 h2 h3 h4 h5 k hf hk => by
    rcases hF k hf with h6 | h6 | h6 | h6 | h6 | h6 <;> rw [h6] at hk
    · cases hk
    · exact h1 (Option.some.inj hk).symm
    · exact h2 (Option.some.inj hk).symm
    · exact h3 (Option.some.inj hk).symm
    · exact h4 (Option.some.inj hk).symm
    · exact h5 (Option.some.inj hk).symm
  have no1 : ∀ r k, who k = some r → r ≠ Role.head → r ≠ Role.files → r ≠ Role.fsure n → r ≠ Role.frow n → r ≠ Role.fnow n → ¬ F k := fun r k hk h1 h2 h3 h4 h5 hf => no r h1 h2 h3 h4 h5 k hf hk
  refine ⟨hmap, (h.names.turned_ hT (no1 _ _ h.namesW (by simp) (by simp) (by simp) (by simp) (by simp))).mono_ (by show _ ≤ 64 + t.acts + q; omega), (h.sure.turned_ hT (no1 _ _ h.sureW (by simp) (by simp) (by simp) (by simp) (by simp))).mono_ (by show _ ≤ 64 + t.acts + q; omega),
    h.row.turned_ hT (h.rowW.off (no _ (by simp) (by simp) (by simp) (by simp) (by simp))), h.hrow, h.hseen, h.nil, fun i y hy => ?_, fun m hmr => ?_, hm _ _ h.filesW, hm _ _ h.namesW, hm _ _ h.sureW, h.rowW.more hm⟩
  · by_cases e : i = (n : Int)
    · rw [if_pos e] at hy
      obtain rfl := Option.some.inj hy
      exact ⟨n, f', e, by show (t.files.set n f')[n]? = _; rw [List.getElem?_set_self hn], hX⟩
    · rw [if_neg e] at hy
      obtain ⟨m, f, h1, h2, h3⟩ := h.file i y hy
      have hne : n ≠ m := fun e2 => e (by rw [h1, e2])
      refine ⟨m, f, h1, by show (t.files.set n f')[m]? = _; rw [List.getElem?_set_ne hne]; exact h2, (h3.turned hT fun k hk => ⟨no _ (by simp) (by simp) (by simp) (by simp) (by simp) k hk, ?_, ?_, ?_⟩).more hm⟩
      · exact no _ (by simp) (by simp) (by simpa using Ne.symm hne) (by simp) (by simp) k hk
      · exact no _ (by simp) (by simp) (by simp) (by simpa using Ne.symm hne) (by simp) k hk
      · exact no _ (by simp) (by simp) (by simp) (by simp) (by simpa using Ne.symm hne) k hk
  · by_cases e : (m : Int) = (n : Int)
    · rw [if_pos e]; rfl
    · rw [if_neg e]; exact h.there m hmr
theorem GoodS.set_file (h : GoodS s t) {n : Nat} {f' : Sf.File} (hf : f'.row.length ≤ t.acts + q) (hq : s ≤ q) : GoodS q { t with files := t.files.set n f' } := by
  refine ⟨h.room, by show (t.files.set n f').length ≤ 64 + t.acts + q; rw [List.length_set]; have := h.files; omega, by have := h.rows; show t.row.length ≤ t.acts + q; omega, h.acts, h.fuse, h.sure, h.seen, h.row, fun d hd => ⟨(h.lens d hd).1, fun e he => by show _ < (t.files.set n f').length; rw [List.length_set]; exact (h.lens d hd).2 e he⟩, h.nums, fun f hfm => ?_⟩
  rcases List.mem_or_eq_of_mem_set hfm with h1 | rfl
  · have := h.frow f h1; show f.row.length ≤ t.acts + q; omega
  · exact hf
/-- The footprint of a disk whose blocks have these roles. -/
def fpOf (who : Who) : Fp := ⟨fun k => (who k).isSome, fun _ => False⟩
theorem PHas.next_ (h : PHas w fp s t b who bf bs bn vr ff rn) (hn : ∀ k, (who' k).isSome → (who k).isSome ∨ w.heap.size ≤ k) : fp.Next (fpOf who') w.heap.size := ⟨fun k hk => (hn k hk).imp (fun h1 => (h.m k).2 h1) id, fun k hk => hk.elim⟩
theorem head_set_file (t : Sf.St) (n : Nat) (f' : Sf.File) : headP { t with files := t.files.set n f' } bf bs bn vr = headP t bf bs bn vr := by
  unfold headP
  simp only [List.length_set]
/-- An act more of a file. -/
theorem FileOk.more {f : Sf.File} (h : FileOk f) {a : Sf.Act} (ha : a.at_ ≤ (Sf.now f).length ∧ a.b.length ≤ 1048576 ∧ (a.cut = true → a.b = [])) (hl : (Sf.done (Sf.now f) a).length ≤ 1048576) (hr : f.row.length + 1 ≤ 2199023255552) : FileOk ⟨f.sure, f.row ++ [a]⟩ where
  len := fun k hk => by
    rw [List.length_append, List.length_singleton] at hk
    by_cases e : k = f.row.length + 1
    · subst e
      have e2 : Sf.bytes ⟨f.sure, f.row ++ [a]⟩ (f.row.length + 1) = Sf.now ⟨f.sure, f.row ++ [a]⟩ := by rw [← Sf.bytes_all, List.length_append, List.length_singleton]
      rw [e2, Sf.now_add]
      exact hl
    · have e2 : Sf.bytes ⟨f.sure, f.row ++ [a]⟩ k = Sf.bytes f k := by
        unfold Sf.bytes
        rw [List.take_append_of_le_length (by omega)]
      rw [e2]
      exact h.len k (by omega)
  at_ := fun k c hk => by
    by_cases e : k = f.row.length
    · subst e
      simp only [List.getElem?_append_right (Nat.le_refl _), Nat.sub_self, List.getElem?_cons_zero, Option.some.injEq] at hk
      subst hk
      have e2 : Sf.bytes ⟨f.sure, f.row ++ [a]⟩ f.row.length = Sf.now f := by
        rw [← Sf.bytes_all]
        unfold Sf.bytes
        rw [List.take_append_of_le_length (Nat.le_refl _)]
      rw [e2]
      exact ha
    · have hk' : k < f.row.length := by
        have := (List.getElem?_eq_some_iff.1 hk).1
        simp at this
        omega
      have e2 : Sf.bytes ⟨f.sure, f.row ++ [a]⟩ k = Sf.bytes f k := by
        unfold Sf.bytes
        rw [List.take_append_of_le_length (by omega)]
      rw [e2]
      exact h.at_ k c (by rwa [List.getElem?_append_left hk'] at hk)
  row := by rw [List.length_append, List.length_singleton]; exact hr
end
end Go.Proofs.Ytmcbjcbnckpfkaa
namespace Go.Proofs.Ytmcbjcbnckpfkaa
open Go.RowKit
set_option linter.unusedVariables false
theorem cellsY : Try.prog.cellsOf 5 = 1 := by kernel_rfl
theorem infoY : (Try.prog.info? 5).map (·.size) = some 1 := by kernel_rfl
set_option maxHeartbeats 2000000 in
set_option maxRecDepth 100000 in
theorem plite_any (s : ByteArray) (w : World) (hs : s.size ≤ 4096) : Calls Try.prog 68 #[.string s] w (fun e w' => e = .returned (.string s) ∧ Below w.heap.size w w') := by
  by_cases h0 : s.size = 0
  · have he : s = ⟨#[]⟩ := ByteArray.ext (Array.eq_empty_of_size_eq_zero h0)
    subst he
    go_enter Try.func68, Try.ntmps68
    go_wp2
    go_ret
    exact ⟨rfl, Below.refl _ _⟩
  · obtain ⟨W1, hmk, hown, hg1⟩ := run_make_l yK w w.heap.size .i64 .i64 s.size s.size (Nat.le_refl _) (by show 1 * _ ≤ _; omega) (by simp only [maxLen]; omega) (Nat.le_refl _)
    change (Instr.makeSlice 22 (.int .i64 (s.size : Nat)) (.int .i64 (s.size : Nat))).run Try.prog w = _ at hmk
    have hh : ∃ cs : Array Value, cs.size = s.size ∧ W1.heap[w.heap.size]? = some (.cells cs 5 (0, 0)) := by
      rcases hown.2 with ⟨e, _⟩ | ⟨g, sp, e, _, _, _, hh⟩
      · cases e
      · injection e with e1 e2 e3
        injection e1 with e1
        injection e1 with e1
        subst e1
        rw [List.length_replicate] at e2 e3
        exact ⟨_, by rw [List.size_toArray, flat_len, List.length_append, List.length_replicate]; show (s.size + sp.length) * 1 = _; omega, hh⟩
    obtain ⟨cs, hcs, hh⟩ := hh
    have hcp := Lib.run_copy_row_string (P := Try.prog) W1 22 9 3 5 w.heap.size 0 s.size s.size s cs 5 Try.underlying22 infoY hh (Nat.le_refl _) (by omega)
    have hY : (cs.toList.take 0 ++ Lib.byteCells s.data.toList ++ cs.toList.drop (0 + s.size)).toArray = (Lib.byteCells s.data.toList).toArray := by
      rw [List.take_zero, List.nil_append, List.drop_of_length_le (by rw [Array.length_toList]; omega), List.append_nil]
    rw [hY] at hcp
    have hg2 : W1.heap[w.heap.size]? = some (.cells cs 5 (0, 0)) := hh
    have hr := setRow_heap W1 w.heap.size cs (Lib.byteCells s.data.toList).toArray 5 (0, 0) hh
    obtain ⟨W2, hW2⟩ : ∃ W2, W1.setRow w.heap.size (Lib.byteCells s.data.toList).toArray = W2 := ⟨_, rfl⟩
    rw [hW2] at hcp hr
    have hb2 : Below w.heap.size w W2 := by
      rw [← hW2]
      have hbb := (Below.refl w.heap.size w).grown hg1 (Nat.le_refl _) (by intro k hk; cases hk)
      exact ⟨hbb.os, hbb.tape, hbb.output, by simpa using hbb.size, fun k hk => (setRow_other _ _ _ _ (by omega)).trans (hbb.block k hk)⟩
    have hsl : s.data.toList.length = s.size := by rw [Array.length_toList]; rfl
    have hUS := Lib.run_unsafeString_row (P := Try.prog) (w := W2) 107 3 9 5 Try.underlying107 cellsY w.heap.size (Lib.byteCells s.data.toList).toArray.size (by unfold World.shape?; rw [hr]) s.data.toList (fun e => h0 (by rw [← hsl, e]; rfl)) (by rw [List.size_toArray, Lib.byteCells_length]; exact Nat.le_refl _) (by omega)
      (fun j x hx => Lib.cells_of_row hr (Lib.byteCells s.data.toList).toArray.size j _ (by rw [List.take_of_length_le (by simp), List.toList_toArray]; simp [Lib.byteCells, hx]))
    rw [hsl] at hUS
    have HB := Lib.hid hb2
    have hne : ((s.size : Int) == 0) = false := by rw [beq_eq_false_iff_ne]; omega
    have hst : (⟨s.data.toList.toArray⟩ : ByteArray) = s := by rw [Array.toArray_toList]
    rw [hst] at hUS
    clear hown hg1 hh hcs hY hg2 hW2 hb2 hst hsl
    go_enter Try.func68, Try.ntmps68
    go_wp2
    go_ret
    exact ⟨rfl, Lib.below_freeze HB.out (p := ⟨w.heap.size, 0, none⟩) (Nat.le_refl _) _⟩
set_option maxHeartbeats 1000000 in
set_option maxRecDepth 100000 in
theorem pstrclone_any (s : ByteArray) (w : World) (hs : s.size ≤ 4096) : Calls Try.prog 60 #[.string s] w (fun e w' => e = .returned (.string s) ∧ Below w.heap.size w w') := by
  have C := Lib.hid (plite_any s w hs)
  go_enter Try.func60, Try.ntmps60
  go_wp2_with fail
  refine C.out.mono ?_
  rintro e w1 ⟨rfl, hb⟩
  have HB := Lib.hid hb
  clear C hb
  go_wp2
  go_ret
  exact ⟨rfl, HB.out⟩
end Go.Proofs.Ytmcbjcbnckpfkaa
