/- Parts of the proof. -/
import Derived.Test.YtiafeniflkikeaaGreatPm24
import Derived.Test.YtiafeniflkikeaaGreatPm12
import Derived.Deep.RegionHeld3
import Derived.Test.YtiafeniflkikeaaGreatPm13
import Derived.Test.YtiafeniflkikeaaGreatPm22
import Derived.JoinedCond
import Derived.BigRegion
namespace Go.Proofs.YtiafeniflkikeaaGreat
open Go.RowKit
set_option linter.unusedVariables false
section
variable {w w' : World} {fp : Fp} {s : Nat} {t : Sf.St} {b : Nat} {who who' : Who} {bf bs bn : Nat} {vr : Sl} {ff : Int → Option RawX} {rn : List RawN} {F : Nat → Prop}
theorem PBody.turn_dir (h : PBody w who 1 t bf bs bn vr ff rn) (a : RawN) {vr' : Sl} (hm : More who who') (hT : Turned F w w') (hF : ∀ k, F k → who k = none ∨ who k = some .head ∨ who k = some .names ∨ who k = some .row)
  (hN : IsMp dM w' bn (64 + t.acts + 1) (Sf.dirF (Sf.doN t.seen a))) (hR : OwnL nK w' 0 (slV vr') (rn ++ [a])) (hW : Bears who' (slV vr') .row) (hth : a.come ≠ ByteArray.empty → (ff (a.num : Int)).isSome) :
  PBody w' who' 1 { t with seen := Sf.doN t.seen a, row := t.row ++ [Sf.doN t.seen a] } bf bs bn vr' ff (rn ++ [a]) := by
 have no : ∀ r, r ≠ Role.head → r ≠ Role.names → r ≠ Role.row → ∀ k, F k → who k ≠ some r := fun r h1 h2 h3 k hf hk => by
  rcases hF k hf with h6 | h6 | h6 | h6 <;> rw [h6] at hk
  ·cases hk
  ·exact h1 (Option.some.inj hk).symm
  ·exact h2 (Option.some.inj hk).symm
  ·exact h3 (Option.some.inj hk).symm
 have no1 : ∀ r k, who k = some r → r ≠ Role.head → r ≠ Role.names → r ≠ Role.row → ¬ F k := fun r k hk h1 h2 h3 hf => no r h1 h2 h3 k hf hk
 refine ⟨h.files.turned_ hT (no1 _ _ h.filesW (by simp) (by simp) (by simp)), hN, h.sure.turned_ hT (no1 _ _ h.sureW (by simp) (by simp) (by simp)), hR, ?_, ?_, fun h => by simp at h, fun i y hy => ?_, fun m hmr => ?_, hm _ _ h.filesW, hm _ _ h.namesW, hm _ _ h.sureW, hW⟩
 ·show t.row ++ [_] = Sf.dirs t.sure (rn ++ [a])
  rw [Sf.dirs_snoc, ← h.hrow, ← h.hseen]
 ·show Sf.doN t.seen a = (rn ++ [a]).foldl Sf.doN t.sure
  rw [List.foldl_append, ← h.hseen]
  rfl
 ·obtain ⟨m, f, h1, h2, h3⟩ := h.file i y hy
  exact ⟨m, f, h1, h2, (h3.turned hT fun k hk => ⟨no _ (by simp) (by simp) (by simp) k hk, no _ (by simp) (by simp) (by simp) k hk, no _ (by simp) (by simp) (by simp) k hk, no _ (by simp) (by simp) (by simp) k hk⟩).more hm⟩
 ·obtain ⟨d, hd, e, he, rfl⟩ := hmr
  have main : ∀ e ∈ Sf.doN t.seen a, (ff (e.2 : Int)).isSome := fun e he => by
   rcases Sf.mem_doN he with h1 | ⟨h1, h2⟩
   ·exact h.there _ ⟨t.seen, .inr (.inl rfl), e, h1, rfl⟩
   ·rw [h2]; exact hth h1
  rcases hd with hd | hd | hd
  ·exact h.there _ ⟨d, .inl hd, e, he, rfl⟩
  ·rw [hd] at he; exact main e he
  ·rcases List.mem_append.1 hd with hd | hd
   ·exact h.there _ ⟨d, .inr (.inr hd), e, he, rfl⟩
   ·rw [List.mem_singleton.1 hd] at he; exact main e he
theorem GoodS.turn_dir (h : GoodS 1 t) (hr : t.row.length ≤ t.acts) {a : RawN} (hc : a.come = ByteArray.empty ∨ Sf.isName a.come = true) (hn : a.num < t.files.length) (hl : (Sf.doN t.seen a).length ≤ 64) (hnd : ((Sf.doN t.seen a).map (·.2)).Nodup) :
  GoodS 1 { t with seen := Sf.doN t.seen a, row := t.row ++ [Sf.doN t.seen a] } := by
 have hok : Sf.OkDir (Sf.doN t.seen a) := h.seen.doN hc
 have hlt : ∀ e ∈ Sf.doN t.seen a, e.2 < t.files.length := fun e he => by
  rcases Sf.mem_doN he with h1 | ⟨_, h2⟩
  ·exact (h.lens t.seen (.inr (.inl rfl))).2 e h1
  ·rw [h2]; exact hn
 refine ⟨h.room, h.files, by show (t.row ++ [_]).length ≤ t.acts + 1; simp; omega, h.acts, h.fuse, h.sure, hok, fun d hd => ?_, fun d hd => ?_, hnd, h.frow⟩
 ·rcases List.mem_append.1 hd with hd | hd
  ·exact h.row d hd
  ·rw [List.mem_singleton.1 hd]; exact hok
 ·rcases hd with hd | hd | hd
  ·exact h.lens d (.inl hd)
  ·rw [hd]; exact ⟨hl, hlt⟩
  ·rcases List.mem_append.1 hd with hd | hd
   ·exact h.lens d (.inr (.inr hd))
   ·rw [List.mem_singleton.1 hd]; exact ⟨hl, hlt⟩
end
end Go.Proofs.YtiafeniflkikeaaGreat
namespace Go.Proofs.YtiafeniflkikeaaGreat
open Go.RowKit
set_option linter.unusedVariables false
theorem set_same_row {w : World} {p : Nat} {cs : Array Value} {T : TypeId} {j : Nat} {u : Value} (h : w.heap[p]? = some (.cells cs T (0, 0))) (hj : cs[j]? = some u) : (w.setCell ⟨p, j, none⟩ u).heap[p]? = some (.cells cs T (0, 0)) := by
 rw [heap_setCell_same w p j _ _ u h]
 congr 2
 apply Array.ext_getElem?
 intro i
 simp only [Array.getElem?_setIfInBounds]
 split
 ·rename_i e
  subst e
  rw [hj]
  simp [(Array.getElem?_eq_some_iff.1 hj).1]
 ·rfl
section
variable {w : World} {fp : Fp} {t : Sf.St} {b : Nat} {who : Who} {bf bs bn : Nat} {vr : Sl} {ff : Int → Option RawX} {rn : List RawN}
set_option maxHeartbeats 4000000 in
set_option maxRecDepth 100000 in
theorem pdoToNames_disk (h : PHas w fp 1 t b who bf bs bn vr ff rn) (hNm : IsMp dM w bn (64 + t.acts) (Sf.dirF t.seen)) (hr : t.row.length ≤ t.acts) (hf : Sf.Few t) (a : RawN) (hg : a.gone.size ≤ 4096) (hcs : a.come.size ≤ 4096) (hc : a.come = ByteArray.empty ∨ Sf.isName a.come = true) (hn : a.num < t.files.length)
  (hl : (Sf.doN t.seen a).length ≤ 64) (hnd : ((Sf.doN t.seen a).map (·.2)).Nodup) (hth : a.come ≠ ByteArray.empty → (ff (a.num : Int)).isSome) :
  Calls Tryz.prog 83 #[.pointer (some ⟨b, 0, none⟩), nV a] w (IsDeed PDisk fp b (Sf.turn t (Sf.doN t.seen a)) w) := by
 have HBN := Lib.hid h.body.namesW
 have hac := h.good.acts
 have hfl := h.good.files
 have hnum : a.num < 2199023255552 := by omega
 have HG1 := Lib.hid (h.good.turn_dir hr hc hn hl hnd)
 have HTH := Lib.hid hth
 have hrnl : rn.length = t.row.length := by rw [h.body.hrow, Sf.dirs_len]
 have hok : nK.ok a := ⟨by simp only [maxLen]; omega, by simp only [maxLen]; omega, hnum⟩
 obtain ⟨D, hD⟩ : ∃ D, Sf.doN t.seen a = D := ⟨_, rfl⟩
 have HDO : Hid (∀ w', IsMp dM w' bn (64 + t.acts) (Sf.dirF t.seen) → Calls Tryz.prog 71 #[.map (some bn), nV a] w' (fun e w'' => (∃ v, e = .returned v) ∧ IsMp dM w'' bn (64 + t.acts + 1) (Sf.dirF D) ∧ w'.grownBy w'' (some bn))) := fun w' hm => by
  rw [← hD]
  exact pdirdo_any t.seen a bn _ w' hm (by simp only [maxLen]; omega) (by simp only [maxLen]; omega) (by simp only [maxLen]; omega) hnum
 have HTD := Lib.hid (fun (w' : World) (who' : Who) (vr' : Sl) (F : Nat → Prop) (hm : More who who') (hT : Turned F w w') hF hN hR hW => h.body.turn_dir (w' := w') (who' := who') (vr' := vr') a hm hT hF hN hR hW hth)
 rw [hD] at HG1 HTD ⊢
 obtain ⟨gone, come, num⟩ := a
 simp only at hg hcs hnum
 change Calls _ _ #[.pointer (some ⟨b, 0, none⟩), .agg #[.string gone, .string come, .int .i64 (num : Nat)]] w _
 change Hid (∀ w', IsMp dM w' bn (64 + t.acts) (Sf.dirF t.seen) → Calls Tryz.prog 71 #[.map (some bn), .agg #[.string gone, .string come, .int .i64 (num : Nat)]] w' _) at HDO
 obtain ⟨Ar, nr, cr⟩ := vr
 obtain ⟨W, hW⟩ : ∃ W, w.alloc (.cells #[.string gone, .string come, .int .i64 (num : Nat)] 121) = W := ⟨_, rfl⟩
 have hWs : W.heap.size = w.heap.size + 1 := by rw [← hW]; simp
 have hW0 : W.heap[w.heap.size]? = some (.cells #[.string gone, .string come, .int .i64 (num : Nat)] 121 (0, 0)) := by rw [← hW]; exact heap_alloc_new _ _
 have hTW : Turned (fun _ => False) w W := by rw [← hW]; exact (Turned.refl _ _).alloc _
 have hbl : b < w.heap.size := h.lt b (by rw [h.mine]; rfl)
 have hrowW : OwnL nK w 0 (.slice Ar nr cr) rn := h.body.row
 obtain ⟨G, hG⟩ : ∃ G : Nat → Prop, (fun k => k = w.heap.size ∨ k = bn ∨ (Value.slice Ar nr cr).ownBlock = some k) = G := ⟨_, rfl⟩
 have HGP : Hid (G w.heap.size ∧ G bn ∧ ∀ k, (Value.slice Ar nr cr).ownBlock = some k → G k) := by rw [← hG]; exact ⟨.inl rfl, .inr (.inl rfl), fun k hk => .inr (.inr hk)⟩
 have HGW : Hid (∀ k, G k → k = w.heap.size ∨ who k = some .names ∨ who k = some .row) := fun k hk => by
  rw [← hG] at hk
  rcases hk with hk | hk | hk
  ·exact .inl hk
  ·exact .inr (.inl (by rw [hk]; exact h.body.namesW))
  ·exact .inr (.inr (h.body.rowW k hk))
 have hGb : ¬ G b := fun hk => by
  rcases HGW.out b hk with h1 | h1 | h1
  ·omega
  ·rw [h.mine] at h1; cases h1
  ·rw [h.mine] at h1; cases h1
 have HHC : Hid (∀ w', Turned G W w' → IsHead w' b (headP t bf bs bn ⟨Ar, nr, cr⟩)) := fun w' ht => (ht.block b (by omega) hGb).trans ((hTW.block b hbl (fun h => h)).trans h.head)
 obtain ⟨Bx, hBx⟩ : ∃ Bx : World → Prop, (fun w' : World => w'.heap[w.heap.size]? = some (.cells #[.string gone, .string come, .int .i64 (num : Nat)] 121 (0, 0))) = Bx := ⟨_, rfl⟩
 have HBX : Hid (∀ w' : World, Bx w' → w'.cell? ⟨w.heap.size, 0, none⟩ = some (.string gone) ∧ w'.cell? ⟨w.heap.size, 1, none⟩ = some (.string come) ∧ w'.cell? ⟨w.heap.size, 2, none⟩ = some (.int .i64 (num : Nat)) ∧ w'.frozen? ⟨w.heap.size, 0, none⟩ = false ∧ w'.frozen? ⟨w.heap.size, 1, none⟩ = false) := fun w' hh => by
  rw [← hBx] at hh
  exact ⟨by rw [cell_of_row _ _ 0 _ _ _ hh]; rfl, by rw [cell_of_row _ _ 1 _ _ _ hh]; rfl, by rw [cell_of_row _ _ 2 _ _ _ hh]; rfl, frozen_of_row _ _ _ _ _ hh, frozen_of_row _ _ _ _ _ hh⟩
 have HBP : Hid (∀ w' w'' : World, Bx w' → w''.heap[w.heap.size]? = w'.heap[w.heap.size]? → Bx w'') := fun w' w'' hh he => by
  rw [← hBx] at hh ⊢
  exact he.trans hh
 have HBS : Hid (∀ w' : World, Bx w' → Bx (w'.setCell ⟨w.heap.size, 0, none⟩ (.string gone)) ∧ Bx (w'.setCell ⟨w.heap.size, 1, none⟩ (.string come))) := fun w' hh => by
  rw [← hBx] at hh ⊢
  exact ⟨set_same_row hh rfl, set_same_row hh rfl⟩
 have HN0 : Hid (IsMp dM W bn (64 + t.acts) (Sf.dirF t.seen)) := hNm.turned_ hTW (fun h => h)
 have HR0 : Hid (OwnL nK W 0 (.slice Ar nr cr) rn) := hrowW.turned_ hTW (fun _ _ h => h)
 have HBNE : Hid (bn ≠ w.heap.size ∧ bn < w.heap.size) := by have := hNm.lt_; exact ⟨by omega, this⟩
 have HRNE : Hid (∀ k, (Value.slice Ar nr cr).ownBlock = some k → k < w.heap.size ∧ k ≠ bn) := fun k hk => ⟨(hrowW.lt_ k hk).2, fun e => by
  have h1 := h.body.rowW k hk
  rw [e, h.body.namesW] at h1
  cases h1⟩
 have HH := Lib.hid h
 have HFEW := Lib.hid hf
 have HSZ : Hid (W.heap.size = w.heap.size + 1 ∧ b < w.heap.size ∧ rn.length ≤ 1099511627776) := ⟨hWs, hbl, by omega⟩
 have HTW := Lib.hid hTW
 have HOK := Lib.hid hok
 have HNEW := Lib.hid (fun k (hk : w.heap.size ≤ k) => h.new hk)
 have CS1 := Lib.hid (fun w' => pstrclone_any gone w' hg)
 have CS2 := Lib.hid (fun w' => pstrclone_any come w' hcs)
 obtain ⟨G0, hG0⟩ : ∃ G0 : Nat → Prop, (fun k => k = w.heap.size) = G0 := ⟨_, rfl⟩
 have HG0 : Hid (G0 w.heap.size ∧ ∀ k, G0 k → k = w.heap.size) := by rw [← hG0]; exact ⟨rfl, fun k h => h⟩
 have hS0 : Turned G0 W W.drew ∧ Bx W.drew := ⟨(Turned.refl G0 W).drew, by rw [← hBx]; exact hW0⟩
 clear h hNm hf hc hn hl hnd hth hok hW0 hTW hGb hrowW hG hD hWs hr hbl hBx hG0 hrnl
 go_enter Tryz.func83, Tryz.ntmps83
 go_wp2
 refine wp_region_held_drew (S := fun w' => Turned G0 W w' ∧ Bx w') (by kernel_rfl) hS0 (fun hH => ?_)
 refine zH (i := 0) (v := ?_) rfl (by kernel_rfl) (fun _ _ _ h => h) (Or.inl ⟨by rfl, (by intro w' hSw; go_simp; first | done | with_reducible rfl)⟩) hH ?_
 try simp only [Act.put, zA, zC, zD, zE, zF]
 refine zH (i := 1) (v := ?_) rfl (by kernel_rfl) (fun _ _ _ h => h) (Or.inl ⟨by rfl, (by intro w' hSw; obtain ⟨s0, s1, s2⟩ := HBX.out w' hSw.2; go_simp; first | done | with_reducible rfl)⟩) hH ?_
 try simp only [Act.put, zA, zB, zC, zD, zE, zF]
 refine zH (i := 3) (v := ?_) rfl (by kernel_rfl) (fun _ _ _ h => h) (Or.inl ⟨by rfl, (by intro w' hSw; go_simp; first | done | with_reducible rfl)⟩) hH ?_
 try simp only [Act.put, zA, zB, zC, zD, zE, zF]
 refine zH (i := 4) (v := ?_) rfl (by kernel_rfl) (fun _ _ _ h => h) (Or.inl ⟨by rfl, (by intro w' hSw; obtain ⟨s0, s1, s2⟩ := HBX.out w' hSw.2; go_simp; first | done | with_reducible rfl)⟩) hH ?_
 try simp only [Act.put, zA, zB, zC, zD, zE, zF]
 refine wpAnyH_ready (rs := [2]) (by kernel_rfl) (by simp) ?_
 refine AllReadyH.cons rfl (fun K hK => ?_) AllReadyH.nil
 go_simp
 refine (CS1.out W.drew).mono ?_
 rintro e w2 ⟨rfl, hb2⟩
 have hS2 : Turned G0 W w2 ∧ Bx w2 := ⟨hS0.1.trans (Turned.of_below hb2) (fun k hk h => absurd h (by show ¬ W.heap.size ≤ k; omega)), HBP.out _ _ hS0.2 (hb2.block _ (by have := HSZ.out; show _ < W.heap.size; omega))⟩
 refine hK.out _ _ hS2 (fun hH => ?_)
 clear hK K hb2
 try simp only [Act.put, zA, zB, zC, zD, zE, zF]
 refine zH (i := 6) (v := ?_) rfl (by kernel_rfl) (fun _ _ _ h => h) (Or.inl ⟨by rfl, (by intro w' hSw; go_simp; first | done | with_reducible rfl)⟩) hH ?_
 try simp only [Act.put, zA, zB, zC, zD, zE, zF]
 refine wpAnyH_ready (rs := [5]) (by kernel_rfl) (by simp) ?_
 refine AllReadyH.cons rfl (fun K hK => ?_) AllReadyH.nil
 go_simp
 refine (CS2.out w2).mono ?_
 rintro e w3 ⟨rfl, hb3⟩
 have hS3 : Turned G0 W w3 ∧ Bx w3 := ⟨hS2.1.trans (Turned.of_below hb3) (fun k hk h => absurd h (by have := hS2.1.size; omega)), HBP.out _ _ hS2.2 (hb3.block _ (by have := HSZ.out; have := hS2.1.size; omega))⟩
 refine hK.out _ _ hS3 (fun hH => ?_)
 clear hK K hb3
 obtain ⟨s0, s1, s2, z0, z1⟩ := HBX.out w3 hS3.2
 have hS4 : Turned G0 W (w3.setCell ⟨w.heap.size, 0, none⟩ (.string gone)) ∧ Bx (w3.setCell ⟨w.heap.size, 0, none⟩ (.string gone)) := ⟨hS3.1.setCell (fun _ => HG0.out.1) _, (HBS.out w3 hS3.2).1⟩
 obtain ⟨w4, hw4⟩ : ∃ w4, w3.setCell ⟨w.heap.size, 0, none⟩ (.string gone) = w4 := ⟨_, rfl⟩
 rw [hw4] at hS4
 try simp only [Act.put, zA, zB, zC, zD, zE, zF]
 refine wpAnyH_ready (rs := [7]) (by kernel_rfl) (by simp) ?_
 refine AllReadyH.cons rfl (fun K hK => ?_) AllReadyH.nil
 go_simp
 refine hK.out _ _ hS4 (fun hH => ?_)
 clear hK K s0 s1 s2 z0 z1 hw4
 try simp only [Act.put, zA, zB, zC, zD, zE, zF]
 refine zH (i := 8) (v := ?_) rfl (by kernel_rfl) (fun _ _ _ h => h) (Or.inl ⟨by rfl, (by intro w' hSw; go_simp; first | done | with_reducible rfl)⟩) hH ?_
 try simp only [Act.put, zA, zB, zC, zD, zE, zF]
 obtain ⟨s0, s1, s2, z0, z1⟩ := HBX.out w4 hS4.2
 have hS5 : Turned G0 W (w4.setCell ⟨w.heap.size, 1, none⟩ (.string come)) ∧ Bx (w4.setCell ⟨w.heap.size, 1, none⟩ (.string come)) := ⟨hS4.1.setCell (fun _ => HG0.out.1) _, (HBS.out w4 hS4.2).2⟩
 obtain ⟨w5, hw5⟩ : ∃ w5, w4.setCell ⟨w.heap.size, 1, none⟩ (.string come) = w5 := ⟨_, rfl⟩
 rw [hw5] at hS5
 try simp only [Act.put, zA, zB, zC, zD, zE, zF]
 refine wpAnyH_ready (rs := [9]) (by kernel_rfl) (by simp) ?_
 refine AllReadyH.cons rfl (fun K hK => ?_) AllReadyH.nil
 go_simp
 refine hK.out _ _ hS5 (fun hH => ?_)
 clear hK K s0 s1 s2 z0 z1 hw5
 refine wpAnyH_done (by kernel_rfl) ?_ _
 clear hH
 have HS5 := Lib.hid hS5
 have hN5 : IsMp dM w5 bn (64 + t.acts) (Sf.dirF t.seen) := HN0.out.turned_ hS5.1 (fun h => HBNE.out.1 (HG0.out.2 _ h))
 have hR5 : OwnL nK w5 0 (.slice Ar nr cr) rn := HR0.out.turned_ hS5.1 (fun k hk h => by have h1 := HG0.out.2 _ h; have := (HRNE.out k hk).1; omega)
 have hT5 : Turned G W w5 := hS5.1.mono (fun k _ hk => by rw [HG0.out.2 k hk]; exact HGP.out.1)
 have HR5 := Lib.hid hR5
 have hS6 : Turned G W w5.drew ∧ Bx w5.drew := ⟨hT5.drew, HBP.out _ _ hS5.2 rfl⟩
 have CD := Lib.hid (HDO.out w5.drew hN5.drew_)
 have HC : Hid (∀ w', Turned G W w' ∧ Bx w' → w'.cell? ⟨b, 5, none⟩ = some (.map (some bn)) ∧ w'.cell? ⟨b, 4, none⟩ = some (.slice Ar nr cr) ∧ w'.frozen? ⟨b, 4, none⟩ = false ∧ w'.cell? ⟨w.heap.size, 0, none⟩ = some (.string gone) ∧ w'.cell? ⟨w.heap.size, 1, none⟩ = some (.string come) ∧ w'.cell? ⟨w.heap.size, 2, none⟩ = some (.int .i64 (num : Nat))) := fun w' hs => by
  obtain ⟨s0, s1, s2, _, _⟩ := HBX.out w' hs.2
  exact ⟨head_cellP (HHC.out w' hs.1) rfl, head_cellP (HHC.out w' hs.1) rfl, frozen_of_row _ _ _ _ _ (HHC.out w' hs.1), s0, s1, s2⟩
 clear hS0 hS2 hS3 hS4 hS5 CS1 CS2 hN5 hR5 hT5 HDO HN0 HR0 hH
 go_wp2
 refine wp_region_held_drew (S := fun w' => Turned G W w' ∧ Bx w') (by kernel_rfl) hS6 (fun hH => ?_)
 refine zH (i := 0) (v := ?_) rfl (by kernel_rfl) (fun _ _ _ h => h) (Or.inl ⟨by rfl, (by intro w' hSw; go_simp; first | done | with_reducible rfl)⟩) hH ?_
 try simp only [Act.put, zA, zC, zD, zE, zF]
 refine zH (i := 1) (v := ?_) rfl (by kernel_rfl) (fun _ _ _ h => h) (Or.inl ⟨by rfl, (by intro w' hSw; go_simp; first | done | with_reducible rfl)⟩) hH ?_
 try simp only [Act.put, zA, zB, zC, zD, zE, zF]
 refine zH (i := 2) (v := ?_) rfl (by kernel_rfl) (fun _ _ _ h => h) (Or.inl ⟨by rfl, (by intro w' hSw; go_simp; first | done | with_reducible rfl)⟩) hH ?_
 try simp only [Act.put, zA, zB, zC, zD, zE, zF]
 refine zH (i := 3) (v := ?_) rfl (by kernel_rfl) (fun _ _ _ h => h) (Or.inl ⟨by rfl, (by intro w' hSw; obtain ⟨q0, q1, q2, q3, q4, q5⟩ := HC.out w' hSw; go_simp; first | done | with_reducible rfl)⟩) hH ?_
 try simp only [Act.put, zA, zB, zC, zD, zE, zF]
 refine zH (i := 4) (v := ?_) rfl (by kernel_rfl) (fun _ _ _ h => h) (Or.inl ⟨by rfl, (by intro w' hSw; obtain ⟨q0, q1, q2, q3, q4, q5⟩ := HC.out w' hSw; go_simp; first | done | with_reducible rfl)⟩) hH ?_
 try simp only [Act.put, zA, zB, zC, zD, zE, zF]
 refine wpAnyH_ready (rs := [5]) (by kernel_rfl) (by simp) ?_
 refine AllReadyH.cons rfl (fun K hK => ?_) AllReadyH.nil
 go_simp
 refine CD.out.mono ?_
 rintro e w6 ⟨⟨v, rfl⟩, hm6, hg6⟩
 have hg6' : w5.grownBy w6 (some bn) := ⟨hg6.os, hg6.tape, hg6.output, hg6.size, hg6.block⟩
 have hS7 : Turned G W w6 ∧ Bx w6 := ⟨hS6.1.trans (Turned.of_grown hg6) (fun k _ h => by rw [← Option.some.inj h]; exact HGP.out.2.1), HBP.out _ _ hS6.2 (hg6.block _ (by have := hS6.1.size; have := HSZ.out; omega) (fun e => HBNE.out.1 (Option.some.inj e).symm))⟩
 have HM6 := Lib.hid hm6
 have HR6 : Hid (OwnL nK w6 0 (.slice Ar nr cr) rn) := HR5.out.turned_ (Turned.of_grown hg6') (fun k hk e => (HRNE.out k hk).2 (Option.some.inj e).symm)
 refine hK.out _ _ hS7 (fun hH => ?_)
 clear hK K hm6 hg6 hg6' CD
 try simp only [Act.put, zA, zB, zC, zD, zE, zF]
 refine wpAnyH_done (by kernel_rfl) ?_ _
 clear hH
 have hH : Turned G W w6.drew ∧ Bx w6.drew := ⟨hS7.1.drew, HBP.out _ _ hS7.2 rfl⟩
 have hlit := Lv.lit_ (K := nK) w6.drew HOK.out
 change Lv nK (w6.drew.alloc (.cells #[.string gone, .string come, .int .i64 (num : Nat)] 121)) _ _ _ at hlit
 obtain ⟨w7, hw7⟩ : ∃ w7, w6.drew.alloc (.cells #[.string gone, .string come, .int .i64 (num : Nat)] 121) = w7 := ⟨_, rfl⟩
 have hT7 : Turned (fun _ => False) w6.drew w7 := by rw [← hw7]; exact (Turned.refl _ _).alloc _
 rw [hw7] at hlit
 have hS8 : Turned G W w7 ∧ Bx w7 := ⟨hH.1.trans hT7 (fun _ _ h => h.elim), HBP.out _ _ hH.2 (hT7.block _ (by have := hH.1.size; have := HSZ.out; omega) (fun h => h))⟩
 have HM7 : Hid (IsMp dM w7 bn (64 + t.acts + 1) (Sf.dirF D)) := HM6.out.drew_.turned_ hT7 (fun h => h)
 have HR7 : Hid (OwnL nK w7 0 (.slice Ar nr cr) rn) := HR6.out.drew_.turned_ hT7 (fun _ _ h => h)
 have HLIT := Lib.hid hlit
 clear hlit hT7 hS6
 go_wp2
 refine wp_region_m (fun w' => Turned G W w' ∧ Bx w') 10 (by kernel_rfl) ?_
 refine zM (i := 0) (v := ?_) rfl (by kernel_rfl) (fun _ _ _ h => h) hH (Or.inl ⟨by rfl, (by intro w' hSw; go_simp; first | done | with_reducible rfl)⟩) ?_
 try simp only [Act.put, zA, zC, zD, zE, zF]
 refine zM (i := 1) (v := ?_) rfl (by kernel_rfl) (fun _ _ _ h => h) hH (Or.inl ⟨by rfl, (by intro w' hSw; go_simp; first | done | with_reducible rfl)⟩) ?_
 try simp only [Act.put, zA, zB, zC, zD, zE, zF]
 refine zM (i := 2) (v := ?_) rfl (by kernel_rfl) (fun _ _ _ h => h) hH (Or.inl ⟨by rfl, (by intro w' hSw; go_simp; first | done | with_reducible rfl)⟩) ?_
 try simp only [Act.put, zA, zB, zC, zD, zE, zF]
 refine zM (i := 3) (v := ?_) rfl (by kernel_rfl) (fun _ _ _ h => h) hH (Or.inl ⟨by rfl, (by intro w' hSw; go_simp; first | done | with_reducible rfl)⟩) ?_
 try simp only [Act.put, zA, zB, zC, zD, zE, zF]
 refine zM (i := 4) (v := ?_) rfl (by kernel_rfl) (fun _ _ _ h => h) hH (Or.inl ⟨by rfl, (by intro w' hSw; obtain ⟨q0, q1, q2, q3, q4, q5⟩ := HC.out w' hSw; go_simp; first | done | with_reducible rfl)⟩) ?_
 try simp only [Act.put, zA, zB, zC, zD, zE, zF]
 refine zM (i := 5) (v := ?_) rfl (by kernel_rfl) (fun _ _ _ h => h) hH (Or.inl ⟨by rfl, (by intro w' hSw; obtain ⟨q0, q1, q2, q3, q4, q5⟩ := HC.out w' hSw; go_simp; first | done | with_reducible rfl)⟩) ?_
 try simp only [Act.put, zA, zB, zC, zD, zE, zF]
 refine wpAnyM_next (i := 6) (by kernel_rfl) rfl (fun K hK => ?_)
 go_simp
 refine hK.out _ _ (.inr hS8) ?_
 clear hK K hw7
 try simp only [Act.put, zA, zB, zC, zD, zE, zF]
 refine wpAnyM_next (i := 7) (by kernel_rfl) rfl (fun K hK => ?_)
 refine step_append_m w7 nK rfl _ _ rfl 0 _ rfl rn HR7.out _ rfl _ _ HLIT.out (by show _ * 40 ≤ _; have := HSZ.out; simp; omega) (by have := HSZ.out; simp only [maxLen, List.length_singleton]; omega) (Nat.zero_le _) ?_
 intro Ay cy w8 hown hg8 hmv8
 have hlen : (rn ++ [(⟨gone, come, num⟩ : RawN)]).length = rn.length + 1 := by simp
 rw [hlen] at hown hmv8
 rw [hlen]
 have hS9 : Turned G W w8 ∧ Bx w8 := ⟨hS8.1.trans (Turned.of_grown hg8) (fun k _ h => HGP.out.2.2 k h), HBP.out _ _ hS8.2 (hg8.block _ (by have := hS8.1.size; have := HSZ.out; omega) (fun e => by have := (HRNE.out _ e.symm).1; omega))⟩
 have HO8 := Lib.hid hown
 have HMV : Hid (Moved w (.slice Ar nr cr) (.slice Ay (rn.length + 1) cy)) := fun k hk => (hmv8 k hk).imp id (fun h => by have := hS8.1.size; have := HSZ.out; omega)
 have HM8 : Hid (IsMp dM w8 bn (64 + t.acts + 1) (Sf.dirF D)) := HM7.out.turned_ (Turned.of_grown hg8) (fun e => (HRNE.out _ e).2 rfl)
 refine hK.out _ _ (.inr hS9) ?_
 clear hK K hown hg8 hmv8 hlen
 try simp only [Act.put, zA, zB, zC, zD, zE, zF]
 refine zM (i := 8) (v := ?_) rfl (by kernel_rfl) (fun _ _ _ h => h) hS9 (Or.inl ⟨by rfl, (by intro w' hSw; go_simp; first | done | with_reducible rfl)⟩) ?_
 try simp only [Act.put, zA, zB, zC, zD, zE, zF]
 refine zM (i := 9) (v := ?_) rfl (by kernel_rfl) (fun _ _ _ h => h) hS9 (Or.inl ⟨by rfl, (by intro w' hSw; go_simp; first | done | with_reducible rfl)⟩) ?_
 try simp only [Act.put, zA, zB, zC, zD, zE, zF]
 obtain ⟨q0, q1, q2, q3, q4, q5⟩ := HC.out w8 hS9
 have HHD : Hid (IsHead w8 b (headP t bf bs bn ⟨Ar, nr, cr⟩)) := HHC.out w8 hS9.1
 obtain ⟨w9, hw9⟩ : ∃ w9, w8.setCell ⟨b, 4, none⟩ (.slice Ay (rn.length + 1) cy) = w9 := ⟨_, rfl⟩
 have HT9 : Hid (Turned (fun k => k = b) w8 w9) := by rw [← hw9]; exact Turned.setCell (F := fun k => k = b) (Turned.refl (fun k => k = b) w8) (p := ⟨b, 4, none⟩) (fun _ => rfl) _
 have HH9 : Hid (IsHead w9 b (headP t bf bs bn ⟨Ay, rn.length + 1, cy⟩)) := by
  have := head_setP HHD.out 4 (.slice Ay (rn.length + 1) cy) (C' := headP t bf bs bn ⟨Ay, rn.length + 1, cy⟩) rfl
  rw [hw9] at this
  exact this
 have HS9 := Lib.hid hS9
 clear hS9 hS8 hS7 hH
 refine wpAnyM_next (i := 10) (by kernel_rfl) rfl (fun K hK => ?_)
 go_simp
 refine hK.out _ _ (.inl (Nat.le_refl _)) ?_
 clear hK K hw9 q0 q1 q2 q3 q4 q5
 try simp only [Act.put, zA, zB, zC, zD, zE, zF]
 refine wpAnyM_done (by kernel_rfl) ?_ _
 -- the roles
 have hz : W.heap.size = w.heap.size + 1 ∧ b < w.heap.size ∧ rn.length ≤ 1099511627776 := HSZ.out
 have hT8 : Turned G w w8 := (HTW.out.mono fun _ _ h => h.elim).trans HS9.out.1 (fun _ _ h => h)
 have hTm : Turned (fun k => G k ∨ k = b) w w9 := (hT8.mono fun k _ h => .inl h).trans HT9.out (fun k _ h => .inr h)
 have hFr : ∀ k, (G k ∨ k = b) → who k = none ∨ who k = some .head ∨ who k = some .names ∨ who k = some .row := fun k hk => by
  rcases hk with hk | hk
  ·rcases HGW.out k hk with h | h | h
   ·rw [h]; exact .inl (HNEW.out _ (Nat.le_refl _))
   ·exact .inr (.inr (.inl h))
   ·exact .inr (.inr (.inr h))
  ·rw [hk]; exact .inr (.inl HH.out.mine)
 obtain ⟨who', hwho⟩ : ∃ who', lab who (.slice Ay (rn.length + 1) cy) .row = who' := ⟨_, rfl⟩
 have hmore : More who who' := by
  rw [← hwho]
  refine lab_more fun k hk => ?_
  rcases HMV.out k hk with h | h
  ·exact .inr (HH.out.body.rowW k h)
  ·exact .inl (HNEW.out k h)
 have hsm : ∀ k, (who' k).isSome → (who k).isSome ∨ (w.heap.size ≤ k ∧ k < w9.heap.size) := fun k hk => by
  rw [← hwho] at hk
  rcases lab_some hk with h | h
  ·exact .inl h
  ·have h3 := (HO8.out.lt_ k h).2
   have h4 := HT9.out.size
   rcases HMV.out k h with h | h
   ·exact .inl (by rw [HH.out.body.rowW k h]; rfl)
   ·exact .inr ⟨h, by omega⟩
 have hO9 : OwnL nK w9 0 (.slice Ay (rn.length + 1) cy) (rn ++ [⟨gone, come, num⟩]) := HO8.out.turned_ HT9.out (fun k hk e => by
  rcases HMV.out k hk with h | h
  ·have := HH.out.body.rowW k h
   rw [e, HH.out.mine] at this
   cases this
  ·omega)
 have hM9 : IsMp dM w9 bn (64 + t.acts + 1) (Sf.dirF D) := HM8.out.turned_ HT9.out (fun e => by
  have := HH.out.mine
  rw [← e, HBN.out] at this
  cases this)
 have hW9 : Bears who' (.slice Ay (rn.length + 1) cy) .row := by rw [← hwho]; exact lab_bears _ _ _
 have hBody : PBody w9 who' 1 { t with seen := D, row := t.row ++ [D] } bf bs bn ⟨Ay, rn.length + 1, cy⟩ ff (rn ++ [⟨gone, come, num⟩]) := HTD.out w9 who' ⟨Ay, rn.length + 1, cy⟩ _ hmore hTm hFr hM9 hO9 hW9
 have hP : PHas w9 (fpOf who') 1 { t with seen := D, row := t.row ++ [D] } b who' bf bs bn ⟨Ay, rn.length + 1, cy⟩ ff (rn ++ [⟨gone, come, num⟩]) :=
  ⟨HH9.out, hBody, HG1.out, hmore _ _ HH.out.mine, fun k => Iff.rfl, fun k h => h, fun k hk => (hsm k hk).elim (fun h => Nat.lt_of_lt_of_le (HH.out.lt k h) hTm.size) (fun h => h.2)⟩
 have HNX : Hid (fp.Next (fpOf who') w.heap.size) := ⟨fun k hk => (hsm k hk).elim (fun h => .inl ((HH.out.m k).2 h)) (fun h => .inr h.1), fun k hk => hk.elim⟩
 have HTM : Hid (Turned fp.M w w9) := hTm.mono fun k hk h => (HH.out.m k).2 (by
  rcases hFr k h with h2 | h2 | h2 | h2
  ·rcases h with h | h
   ·rcases HGW.out k h with h3 | h3 | h3
    ·omega
    ·rw [h3]; rfl
    ·rw [h3]; rfl
   ·rw [h, HH.out.mine]; rfl
  ·rw [h2]; rfl
  ·rw [h2]; rfl
  ·rw [h2]; rfl)
 have HE : Hid (Sf.turn t D = Sf.blown { t with seen := D, row := t.row ++ [D] }) := rfl
 obtain ⟨t4, ht4⟩ : ∃ u : Sf.St, { t with seen := D, row := t.row ++ [D] } = u := ⟨_, rfl⟩
 have HA4 : Hid (t4.acts < 1099511627776) := by rw [← ht4]; exact HFEW.out
 rw [ht4] at hP HE
 have CA := Lib.hid (pact_disk hP HA4.out)
 clear hT8 hTm hFr hmore hsm hO9 hM9 hW9 hBody hP ht4 hwho hz
 go_wp2_with fail
 refine CA.out.mono ?_
 rintro e10 w10 ⟨rfl, hD10, hT10⟩
 have HD10 := Lib.hid hD10
 have HT10 := Lib.hid hT10
 clear CA hD10 hT10
 go_wp2
 go_ret
 rw [HE.out]
 refine ⟨rfl, fpOf who', ⟨_, _, _, _, _, _, _, HD10.out⟩, HNX.out, HTM.out.trans HT10.out (fun k hk e => ?_)⟩
 rw [e]
 exact (HH.out.m b).2 (by rw [HH.out.mine]; rfl)
end
end Go.Proofs.YtiafeniflkikeaaGreat
namespace Go.Proofs.YtiafeniflkikeaaGreat
open Go.RowKit
set_option linter.unusedVariables false
theorem nameBad {s : ByteArray} {k : Nat} {c : UInt8} (h : s.toList[k]? = some c) (hc : Sf.okChar c = false) : Sf.isName s = false := by
 unfold Sf.isName
 have : s.toList.all Sf.okChar = false := by
  rw [List.all_eq_false]
  exact ⟨c, List.mem_of_getElem? h, by simp [hc]⟩
 rw [this]; rfl
theorem nameSize (s : ByteArray) : s.toList.length = s.size := by rw [ByteArray.toList_eq]; rfl
theorem charIff (c : UInt8) : Sf.okChar c = true ↔ (97 ≤ c.toNat ∧ c.toNat ≤ 122) ∨ (48 ≤ c.toNat ∧ c.toNat ≤ 57) ∨ c.toNat = 46 ∨ c.toNat = 45 := by
 unfold Sf.okChar
 simp only [Bool.or_eq_true, Bool.and_eq_true, decide_eq_true_eq]
 omega
def IsNameB (x : Nat) (e : Ending) : Prop := ∃ r : Bool, (r = true ↔ (97 ≤ x ∧ x ≤ 122) ∨ (48 ≤ x ∧ x ≤ 57) ∨ x = 46 ∨ x = 45) ∧ e = .returned (.bool r)
set_option maxHeartbeats 4000000 in
set_option maxRecDepth 100000 in
theorem pnamebyte_any (x : Nat) (w : World) : Calls Tryz.prog 112 #[.int .u8 (x : Nat)] w (fun e w' => IsNameB x e ∧ w = w') := by
  by_cases a1 : (97 : Int) ≤ (x : Int) <;> by_cases a2 : (x : Int) ≤ 122 <;> by_cases a3 : (48 : Int) ≤ (x : Int) <;> by_cases a4 : (x : Int) ≤ 57 <;> rcases Bool.eq_false_or_eq_true ((x : Int) == 46) with a5 | a5 <;> rcases Bool.eq_false_or_eq_true ((x : Int) == 45) with a6 | a6 <;>
    (first
      | (exfalso; simp only [beq_iff_eq, beq_eq_false_iff_ne, ne_eq] at a5 a6; omega)
      | (go_enter Tryz.func112, Tryz.ntmps112
         go_wp2
         go_ret
         simp only [beq_iff_eq, beq_eq_false_iff_ne, ne_eq] at a5 a6
         refine ⟨⟨_, ?_, rfl⟩, rfl⟩
         simp
         try omega))
set_option maxHeartbeats 2000000 in
set_option maxRecDepth 100000 in
theorem pisname_any (s : ByteArray) (hs : s.size ≤ maxLen) (w : World) : Calls Tryz.prog 82 #[.string s] w (fun e w' => e = .returned (.bool (Sf.isName s)) ∧ w = w') := by
 have hl : s.size ≤ 9223372036854775807 := by simp only [maxLen] at hs; omega
 by_cases h1 : s.size < 1
 ·have h1i : (s.size : Int) < 1 := by omega
  have HE : Hid (Sf.isName s = false) := by unfold Hid Sf.isName; simp; intros; omega
  go_enter Tryz.func82, Tryz.ntmps82
  go_wp2
  go_ret
  exact ⟨by rw [HE.out]; rfl, rfl⟩
 ·have h1i : ¬ (s.size : Int) < 1 := by omega
  by_cases h2 : 32 < s.size
  ·have h2i : (32 : Int) < (s.size : Int) := by omega
   have HE : Hid (Sf.isName s = false) := by unfold Hid Sf.isName; simp; intros; omega
   go_enter Tryz.func82, Tryz.ntmps82
   go_wp2
   go_ret
   exact ⟨by rw [HE.out]; rfl, rfl⟩
  ·have h2i : ¬ (32 : Int) < (s.size : Int) := by omega
   go_enter Tryz.func82, Tryz.ntmps82
   go_wp2
   go_loop [14] (fun i => ∃ k : Nat, k ≤ s.size ∧ i = .int .i64 (k : Nat) ∧ Hid ((s.toList.take k).all Sf.okChar = true)) (fun i => s.size - (intOf i).toNat)
   case atStart => exact ⟨0, by omega, rfl, by simp [Hid]⟩
   case round =>
    obtain ⟨k, hk, rfl, HA⟩ := hrel
    by_cases hlt : k < s.size
    ·have hki : (k : Int) < (s.size : Int) := by omega
     have hk0 : (0 : Int) ≤ (k : Int) := by omega
     have wk : IntKind.i64.wrap ((k : Int) + 1) = (k : Int) + 1 := by rw [IntKind.wrap_i64]; omega
     have hkl : k < s.toList.length := by rw [nameSize]; exact hlt
     obtain ⟨c, hc⟩ : ∃ c, s.toList[k]? = some c := ⟨_, List.getElem?_eq_getElem hkl⟩
     have hix : (Instr.index 9 (.string s) (.int .i64 (k : Nat))).run Tryz.prog w = .ok (.int .u8 (c.toNat : Nat)) w := by
      rw [run_index_string (P := Tryz.prog) w 9 s .i64 (k : Nat) Tryz.underlying9]
      rw [ByteArray.toList_eq] at hc
      have hd : s.data[k]? = some c := by simpa using hc
      rw [dif_pos ⟨by omega, by omega⟩]
      have hk2 : k < s.data.size := hlt
      rw [Array.getElem?_eq_getElem hk2] at hd
      have he := Option.some.inj hd
      have h2 : (s[((k : Nat) : Int).toNat]'(by rw [Int.toNat_natCast]; exact hlt)) = c := he
      rw [h2]
     obtain ⟨x, hx⟩ : ∃ x : Nat, c.toNat = x := ⟨_, rfl⟩
     have HC := Lib.hid hc
     have HOK := Lib.hid (charIff c)
     rw [hx] at hix HOK
     have HA2 : Hid (Sf.okChar c = true → (s.toList.take (k + 1)).all Sf.okChar = true) := fun h => by
      rw [List.take_add_one, HC.out, List.all_append, HA.out]; simp [h]
     have HBAD : Hid (Sf.okChar c = false → Sf.isName s = false) := fun h => nameBad HC.out h
     have CB := Lib.hid (pnamebyte_any x w)
     clear hc hkl hx HA HC
     go_wp2_with fail
     refine CB.out.mono ?_
     rintro e w1 ⟨⟨r, hr, rfl⟩, rfl⟩
     have HR := Lib.hid hr
     clear CB hr
     cases r with
     | true =>
      have HG := Lib.hid (HA2.out (HOK.out.2 (HR.out.1 rfl)))
      clear HA2 HBAD HOK HR
      go_wp2
      go_round
      case rel => exact ⟨k + 1, by omega, by go_num, HG.out⟩
      case measure => simp [intOf]; omega
     | false =>
      have HE : Hid (Sf.isName s = false) := HBAD.out (by
       cases h : Sf.okChar c with
       | false => rfl
       | true => have := HR.out.2 (HOK.out.1 h); cases this)
      clear HA2 HBAD HOK HR
      go_wp2
      go_ret
      exact ⟨by rw [HE.out]; rfl, rfl⟩
    ·have hki : ¬ (k : Int) < (s.size : Int) := by omega
     have hks : k = s.size := by omega
     have HE : Hid (Sf.isName s = true) := by
      have h := HA.out
      rw [hks, List.take_of_length_le (by rw [nameSize]; exact Nat.le_refl _)] at h
      unfold Hid Sf.isName
      rw [h]
      simp
      omega
     clear HA hks
     go_wp2
     go_ret
     exact ⟨by rw [HE.out]; rfl, rfl⟩
end Go.Proofs.YtiafeniflkikeaaGreat
namespace Go.Proofs.YtiafeniflkikeaaGreat
open Go.RowKit
set_option linter.unusedVariables false
namespace Sf
end Sf
end Go.Proofs.YtiafeniflkikeaaGreat
