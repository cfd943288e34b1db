/-
  RcPut: record.Put.
  RcHead: record.cutHead.
  RcGet: record.Get.
  SpWords: The program's words: sha.constants, beginning, choice, majority, turning and what it answers.
-/
import Derived.Test.YtkialijipcbgkaaPk37
import Derived.Test.YtkialijipcbgkaaPk22
import Derived.Test.YtkialijipcbgkaaPk29
import Derived.Test.YtkialijipcbgkaaPk34
import Derived.Deep.RegionHeld3
import Derived.Deep.MidRow
import Derived.Test.YtkialijipcbgkaaPk23
import Derived.Test.YtkialijipcbgkaaPk31
import Derived.Test.YtkialijipcbgkaaPk27
import Derived.Test.YtkialijipcbgkaaPk33
namespace Go.Proofs.Ytkialijipcbgkaa
open Go.RowKit
set_option linter.unusedVariables false
/-- A literal of four rows. -/
theorem rv_four {w : World} {v0 v1 v2 v3 : Value} {l0 l1 l2 l3 : List Nat} (h0 : Bv w w.heap.size v0 l0) (h1 : Bv w w.heap.size v1 l1) (h2 : Bv w w.heap.size v2 l2) (h3 : Bv w w.heap.size v3 l3) :
    Rv (w.alloc (.cells #[v0, v1, v2, v3] 28)) (w.heap.size + 1) (.slice (some ⟨w.heap.size, 0, none⟩) 4 4) [l0, l1, l2, l3] := by
  have hb : Below w.heap.size w (w.alloc (.cells #[v0, v1, v2, v3] 28)) := (Below.refl _ _).alloc (Nat.le_refl _) _
  have g : Rw (w.alloc (.cells #[v0, v1, v2, v3] 28)) w.heap.size 28 #[v0, v1, v2, v3] := Rw.new w _ _
  refine ⟨some ⟨w.heap.size, 0, none⟩, 4, rfl, by simp, by simp [maxLen], by simp, fun _ => ⟨w.heap.size, 0, rfl, by omega, fun j l hj => ?_⟩⟩
  have up : ∀ {v : Value} {l : List Nat}, Bv w w.heap.size v l → Bv (w.alloc (.cells #[v0, v1, v2, v3] 28)) (w.heap.size + 1) v l := fun h => (h.below_ hb (Nat.le_refl _)).mono_ (by omega)
  rw [Nat.zero_add, g.cell]
  match j, hj with
  | 0, hj => exact ⟨v0, rfl, by simp only [List.getElem?_cons_zero, Option.some.injEq] at hj; subst hj; exact up h0⟩
  | 1, hj => exact ⟨v1, rfl, by simp only [List.getElem?_cons_succ, List.getElem?_cons_zero, Option.some.injEq] at hj; subst hj; exact up h1⟩
  | 2, hj => exact ⟨v2, rfl, by simp only [List.getElem?_cons_succ, List.getElem?_cons_zero, Option.some.injEq] at hj; subst hj; exact up h2⟩
  | 3, hj => exact ⟨v3, rfl, by simp only [List.getElem?_cons_succ, List.getElem?_cons_zero, Option.some.injEq] at hj; subst hj; exact up h3⟩
/-- An array of eight bytes, cut out of its box. -/
theorem num_src {w : World} {g : Nat} {l : List Nat} (hR : Rw w g 54 (bvs l)) (hl : l.length = 8) (h8 : ∀ x ∈ l, x < 256) {B : Nat} (hg : g < B) :
    Bv w B (.slice (some ⟨g, 0, none⟩) 8 8) l :=
  ⟨some ⟨g, 0, none⟩, 8, by rw [hl], by omega, by simp [maxLen], by simp, h8, fun _ => ⟨g, 0, rfl, hg, fun j x hj => by rw [Nat.zero_add]; exact (hR.cell j).trans (bvs_some hj)⟩⟩

set_option maxHeartbeats 2000000 in
set_option maxRecDepth 100000 in
theorem prcput_any (r : Rc.Rec) (t : Value) (B : Nat) (w : World) (hf : Rc.Fit r) (ht : Lv iK w B t r.toks) (hB : B ≤ w.heap.size) :
    Calls Try.prog 11 #[.agg (rcC r t)] w (IsLE yK (Rc.putE r) w) := by
  have hz8 := zero8V
  have HD : Hid (∀ k x : Nat, r.dig[k]? = some x → (rcC r t)[k]? = some (.int .u8 (x : Nat))) := fun k x h => rcC_dig hf h
  have HID : Hid ((rcC r t)[32]? = some (.int .u64 (r.id : Nat))) := rcC_id hf
  have HLN : Hid ((rcC r t)[33]? = some (.int .i64 r.len)) := rcC_len hf
  have HTK : Hid ((rcC r t)[34]? = some t) := rcC_toks hf
  obtain ⟨C, hC⟩ : ∃ C, rcC r t = C := ⟨_, rfl⟩
  rw [hC] at HD HID HLN HTK ⊢
  obtain ⟨W, hW⟩ : ∃ W, w.alloc (.cells C 27) = W := ⟨_, rfl⟩
  obtain ⟨hR, hsz, hb⟩ := rc_boxed hW
  have d32 : W.cell? ⟨w.heap.size, 32, none⟩ = some (.int .u64 (r.id : Nat)) := (hR.cell _).trans HID.out
  have d33 : W.cell? ⟨w.heap.size, 33, none⟩ = some (.int .i64 r.len) := (hR.cell _).trans HLN.out
  have d34 : W.cell? ⟨w.heap.size, 34, none⟩ = some t := (hR.cell _).trans HTK.out
  have HLEN := Lib.hid hf.len
  have HDL := Lib.hid hf.dl
  have HD8 := Lib.hid hf.d8
  have HIL := Lib.hid hf.id
  have HP := Lib.hid (ppput_any r.toks t B W (ht.below_ hb hB) (Nat.le_trans hB hb.size))
  have HR0 := Lib.hid hR
  have HWS : Hid (w.heap.size < W.heap.size) := by unfold Hid; omega
  have HB0 := Lib.hid hb
  obtain ⟨A, c, rfl, hc1, hc2, _, _⟩ := ht
  clear hf hB hb hR hC hsz hc1 hc2
  by_cases ha : r.len < 0 ∨ 4096 < r.len
  · have HE := Lib.hid (Rc.putE_arg ha)
    by_cases h0 : r.len < 0
    · clear ha HP
      go_enter Try.func11, Try.ntmps11
      go_wp2
      go_ret2
      exact IsLE.none_b HE.out rfl HB0.out
    · have h1 : 4096 < r.len := by omega
      clear ha HP
      go_enter Try.func11, Try.ntmps11
      go_wp2
      go_ret2
      exact IsLE.none_b HE.out rfl HB0.out
  · have h0 : ¬ r.len < 0 := by omega
    have h1 : ¬ 4096 < r.len := by omega
    obtain ⟨⟨y, e⟩, hy⟩ : ∃ x, Pk.putE r.toks = x := ⟨_, rfl⟩
    rw [hy] at HP
    by_cases he : e = 0
    · subst he
      have HE := Lib.hid (Rc.putE_ok ha hy)
      have HY := Lib.hid (Pk.putE_small hy)
      have HTL := Lib.hid (Pk.putE_len hy)
      clear ha hy
      go_enter Try.func11, Try.ntmps11
      go_wp2_with fail
      refine HP.out.mono ?_
      rintro e w1 ⟨A1, c1, rfl, ho, hb1⟩
      have HO1 : Hid (Lv yK w1 w1.heap.size (.slice A1 y.length c1) y) := ho.form_
      have HB1 := Lib.hid (HB0.out.trans (hb1.mono HB0.out.size))
      have HR1 := Lib.hid (HR0.out.below hb1 HR0.out.lt)
      have HZ1 : Hid (w.heap.size < w1.heap.size) := by have := hb1.size; have := HWS.out; unfold Hid; omega
      have e32 : w1.cell? ⟨w.heap.size, 32, none⟩ = some (.int .u64 (r.id : Nat)) := (HR1.out.cell _).trans HID.out
      have HNU := Lib.hid (pputnum_any r.id w1 HIL.out)
      clear ho hb1 HP d32 d33 d34 hW HB0 HR0 HWS
      go_wp2_with fail
      refine HNU.out.mono ?_
      rintro e w2 ⟨rfl, hb2⟩
      have HB2 := Lib.hid (HB1.out.trans (hb2.mono HB1.out.size))
      have HR2 := Lib.hid (HR1.out.below hb2 HR1.out.lt)
      have HO2 : Hid (Lv yK w2 w2.heap.size (.slice A1 y.length c1) y) := (HO1.out.below_ hb2 (Nat.le_refl _)).mono_ hb2.size
      have HL8 := Lib.hid (Rc.le_len r.id 8)
      have HLL := Lib.hid (Rc.le_lt r.id 8)
      have hs8 := size8l (Rc.le_len r.id 8)
      have ho8 := bvs_one (Rc.le r.id 8)
      have hn8 : none8.size = (bvs (Rc.le r.id 8)).size := by rw [bvs_size, Rc.le_len]; rfl
      obtain ⟨q, hq⟩ : ∃ q, Rc.le r.id 8 = q := ⟨_, rfl⟩
      rw [hq] at HL8 HLL hs8 ho8 hn8
      have HQ := Lib.hid hq
      obtain ⟨X, hX⟩ : ∃ X, (w2.alloc (.cells none8 54)).setRow w2.heap.size (bvs q) = X := ⟨_, rfl⟩
      have HQX : Hid (Rw X w2.heap.size 54 (bvs q)) := by unfold Hid; rw [← hX]; exact (Rw.new w2 _ _).row _
      have HBX0 : Below w2.heap.size w2 X := by rw [← hX]; exact below_setRow ((Below.refl _ _).alloc (Nat.le_refl _) _) (Nat.le_refl _) _
      have HBX := Lib.hid (HB2.out.trans (HBX0.mono HB2.out.size))
      have HRX := Lib.hid (HR2.out.below HBX0 HR2.out.lt)
      have HOX : Hid (Lv yK X X.heap.size (.slice A1 y.length c1) y) := (HO2.out.below_ HBX0 (Nat.le_refl _)).mono_ HBX0.size
      have HZX : Hid (w.heap.size < X.heap.size ∧ w2.heap.size < X.heap.size) := ⟨HRX.out.lt, HQX.out.lt⟩
      obtain ⟨D, hD⟩ : ∃ D, bvs q = D := ⟨_, rfl⟩
      rw [hq, hD]
      rw [hD] at hs8 ho8 hn8 hX
      have HDQ := Lib.hid hD
      obtain ⟨N, hN⟩ : ∃ D, none8 = D := ⟨_, rfl⟩
      rw [hN] at hz8 hn8 hX
      obtain ⟨z, hz⟩ : ∃ z, w2.heap.size = z := ⟨_, rfl⟩
      rw [hz] at HQX HZX
      have HZH := Lib.hid hz
      clear hz
      clear HNU hb2 e32 HB1 HR1 HO1 HZ1 HBX0 hq hD hN
      go_wp2_with (first
        | (refine wpList_store_row rfl _ _ _ rfl w2.heap.size D rfl rfl 54 N (Rw.new w2 _ _) hs8 hn8 ho8 ?_; rw [hX]))
      rw [HZH.out]
      clear hX HB2 HR2 HO2 HZH hs8 hn8 ho8
      obtain ⟨n, hn⟩ : ∃ n : Nat, r.len.toNat = n := ⟨_, rfl⟩
      have hrl : r.len = (n : Int) := by omega
      have wn : IntKind.u64.wrap (n : Int) = (n : Int) := by rw [IntKind.wrap_u64]; omega
      have HEE : Hid (Rc.putE r = (r.dig ++ q ++ Mt.put n ++ y, 0)) := by unfold Hid; rw [HE.out, ← hn, ← HQ.out]; rfl
      rw [hrl] at HLN
      have HC1 : Hid (∀ w', Below X.heap.size X w' → w'.cell? ⟨w.heap.size, 33, none⟩ = some (.int .i64 (n : Nat))) := fun w' hb' => ((HRX.out.below hb' HZX.out.1).cell 33).trans HLN.out
      have HPB := Lib.hid (fun w' => put_any n (show Mt.B64 n by unfold Mt.B64; omega) w')
      have HPL := Lib.hid (Mt.put_len_le n)
      have hS0 : Below X.heap.size X X.drew := (Below.refl _ _).drew
      clear hn hrl HE HLN h0 h1
      refine wp_region_held_drew (S := fun w' => Below X.heap.size X w') (by kernel_rfl) hS0 (fun hH => ?_)
      refine wpAnyH_take (i := 0) (v := ?_) rfl (by kernel_rfl) (by kernel_rfl) (by kernel_rfl) (fun _ _ _ h => h) (Or.inl ⟨by rfl, (by intro w' hSw; go_simp; first | done | with_reducible rfl)⟩) hH ?_
      try simp only [Act.put, List.getElem_toArray, List.getElem_cons_zero, List.setIfInBounds_toArray, List.set_cons_zero, List.set_cons_succ]
      refine wpAnyH_take (i := 1) (v := ?_) rfl (by kernel_rfl) (by kernel_rfl) (by kernel_rfl) (fun _ _ _ h => h) (Or.inl ⟨by rfl, (by intro w' hSw; go_simp; first | done | with_reducible rfl)⟩) hH ?_
      try simp only [Act.put, List.getElem_toArray, List.getElem_cons_succ, List.getElem_cons_zero, List.setIfInBounds_toArray, List.set_cons_zero, List.set_cons_succ]
      refine wpAnyH_take (i := 2) (v := ?_) rfl (by kernel_rfl) (by kernel_rfl) (by kernel_rfl) (fun _ _ _ h => h) (Or.inl ⟨by rfl, (by intro w' hSw; go_simp; first | done | with_reducible rfl)⟩) hH ?_
      try simp only [Act.put, List.getElem_toArray, List.getElem_cons_succ, List.getElem_cons_zero, List.setIfInBounds_toArray, List.set_cons_zero, List.set_cons_succ]
      refine wpAnyH_take (i := 3) (v := ?_) rfl (by kernel_rfl) (by kernel_rfl) (by kernel_rfl) (fun _ _ _ h => h) (Or.inl ⟨by rfl, (by intro w' hSw; go_simp; first | done | with_reducible rfl)⟩) hH ?_
      try simp only [Act.put, List.getElem_toArray, List.getElem_cons_succ, List.getElem_cons_zero, List.setIfInBounds_toArray, List.set_cons_zero, List.set_cons_succ]
      refine wpAnyH_take (i := 4) (v := ?_) rfl (by kernel_rfl) (by kernel_rfl) (by kernel_rfl) (fun _ _ _ h => h) (Or.inl ⟨by rfl, (by intro w' hSw; have h33 := HC1.out w' hSw; go_simp; first | done | with_reducible rfl)⟩) hH ?_
      try simp only [Act.put, List.getElem_toArray, List.getElem_cons_succ, List.getElem_cons_zero, List.setIfInBounds_toArray, List.set_cons_zero, List.set_cons_succ]
      refine wpAnyH_take (i := 5) (v := ?_) rfl (by kernel_rfl) (by kernel_rfl) (by kernel_rfl) (fun _ _ _ h => h) (Or.inl ⟨by rfl, (by intro w' hSw; go_simp; first | done | with_reducible rfl)⟩) hH ?_
      try simp only [Act.put, List.getElem_toArray, List.getElem_cons_succ, List.getElem_cons_zero, List.setIfInBounds_toArray, List.set_cons_zero, List.set_cons_succ]
      refine wpAnyH_take (i := 7) (v := ?_) rfl (by kernel_rfl) (by kernel_rfl) (by kernel_rfl) (fun _ _ _ h => h) (Or.inl ⟨by rfl, (by intro w' hSw; go_simp; first | done | with_reducible rfl)⟩) hH ?_
      try simp only [Act.put, List.getElem_toArray, List.getElem_cons_succ, List.getElem_cons_zero, List.setIfInBounds_toArray, List.set_cons_zero, List.set_cons_succ]
      refine wpAnyH_ready (rs := [6]) (by kernel_rfl) (by simp) ?_
      refine AllReadyH.cons rfl (fun K hK => ?_) AllReadyH.nil
      go_simp
      refine (HPB.out X.drew).mono ?_
      rintro e w4 ⟨A4, c4, rfl, ho4, hb4⟩
      have HB4 : Hid (Below X.heap.size X w4) := hS0.trans hb4
      have HS4 : Hid (Bv w4 w4.heap.size (.slice A4 (Mt.put n).length c4) (Mt.put n)) := ho4.form_
      have HD4 : Hid (Bv w4 w4.heap.size (.slice (some ⟨w.heap.size, 0, none⟩) 32 32) r.dig) := (rc_src (HRX.out.below HB4.out HZX.out.1) HD.out HDL.out HD8.out).mono_ (by have := HZX.out; have := HB4.out.size; omega)
      have HQ4 : Hid (Bv w4 w4.heap.size (.slice (some ⟨z, 0, none⟩) 8 8) q) := num_src (HQX.out.below HB4.out HZX.out.2) HL8.out HLL.out (by have := HZX.out; have := HB4.out.size; omega)
      have HY4 : Hid (Bv w4 w4.heap.size (.slice A1 y.length c1) y) := ((HOX.out.below_ HB4.out (Nat.le_refl _)).mono_ HB4.out.size).bv_
      refine hK.out _ _ HB4.out (fun hH => ?_)
      clear hK K hS0 ho4 hb4
      try simp only [Act.put, List.getElem_toArray, List.getElem_cons_succ, List.getElem_cons_zero, List.setIfInBounds_toArray, List.set_cons_zero, List.set_cons_succ]
      have HRV := Lib.hid (rv_four HD4.out HQ4.out HS4.out HY4.out)
      obtain ⟨V, hV⟩ : ∃ V, w4.alloc (.cells #[.slice (some ⟨w.heap.size, 0, none⟩) 32 32, .slice (some ⟨z, 0, none⟩) 8 8, .slice A4 (Mt.put n).length c4, .slice A1 y.length c1] 28) = V := ⟨_, rfl⟩
      have HBV : Hid (Below X.heap.size X V) := by unfold Hid; rw [← hV]; exact HB4.out.alloc HB4.out.size _
      have hVs : V.heap.size = w4.heap.size + 1 := by rw [← hV]; simp
      have hcat : cat [r.dig, q, Mt.put n, y] = r.dig ++ q ++ Mt.put n ++ y := by simp [cat]
      have HCN := Lib.hid (pconcat_any _ [r.dig, q, Mt.put n, y] (w4.heap.size + 1) V (by rw [← hV]; exact HRV.out) (by omega) (by rw [hcat]; have := HDL.out; have := HL8.out; have := HPL.out; have := HY.out; have := HTL.out; simp; omega))
      rw [hcat] at HCN
      obtain ⟨L, hL⟩ : ∃ L, r.dig ++ q ++ Mt.put n ++ y = L := ⟨_, rfl⟩
      rw [hL] at HCN HEE
      clear hL
      clear hVs hcat HRV HD4 HQ4 HS4 HY4
      refine wpAnyH_ready (rs := [8]) (by kernel_rfl) (by simp) ?_
      refine AllReadyH.cons rfl (fun K hK => ?_) AllReadyH.nil
      go_simp
      refine hK.out _ _ HBV.out (fun hH => ?_)
      clear hK K
      try simp only [Act.put, List.getElem_toArray, List.getElem_cons_succ, List.getElem_cons_zero, List.setIfInBounds_toArray, List.set_cons_zero, List.set_cons_succ]
      refine wpAnyH_ready (rs := [9]) (by kernel_rfl) (by simp) ?_
      refine AllReadyH.cons rfl (fun K hK => ?_) AllReadyH.nil
      go_simp
      refine HCN.out.mono ?_
      rintro e w6 ⟨A6, c6, rfl, ho6, hb6⟩
      have HB6 : Hid (Below w.heap.size w w6) := HBX.out.trans ((HBV.out.trans (hb6.mono HBV.out.size)).mono HBX.out.size)
      have HO6 : Hid (OwnL yK w6 w.heap.size (.slice A6 L.length c6) L) := ho6.mono_ (Nat.le_trans HBX.out.size HBV.out.size)
      refine hK.out _ _ (HBV.out.trans (hb6.mono HBV.out.size)) (fun hH => ?_)
      clear hK K HCN ho6 hb6
      try simp only [Act.put, List.getElem_toArray, List.getElem_cons_succ, List.getElem_cons_zero, List.setIfInBounds_toArray, List.set_cons_zero, List.set_cons_succ]
      refine wpAnyH_take (i := 10) (v := ?_) rfl (by kernel_rfl) (by kernel_rfl) (by kernel_rfl) (fun _ _ _ h => h) (Or.inl ⟨by rfl, (by intro w' hSw; go_simp; first | done | with_reducible rfl)⟩) hH ?_
      try simp only [Act.put, List.getElem_toArray, List.getElem_cons_succ, List.getElem_cons_zero, List.setIfInBounds_toArray, List.set_cons_zero, List.set_cons_succ]
      refine wpAnyH_take (i := 11) (v := ?_) rfl (by kernel_rfl) (by kernel_rfl) (by kernel_rfl) (fun _ _ _ h => h) (Or.inl ⟨by rfl, (by intro w' hSw; go_simp; first | done | with_reducible rfl)⟩) hH ?_
      try simp only [Act.put, List.getElem_toArray, List.getElem_cons_succ, List.getElem_cons_zero, List.setIfInBounds_toArray, List.set_cons_zero, List.set_cons_succ]
      refine wpAnyH_done (by kernel_rfl) ?_ _
      clear hH
      go_wp2
      go_ret2
      exact IsLE.of HEE.out rfl rfl HO6.out HB6.out
    · have HE := Lib.hid (Rc.putE_err ha hy he)
      have hei : ((e : Int) != 0) = true := by rw [bne_iff_ne]; omega
      clear ha hy
      go_enter Try.func11, Try.ntmps11
      go_wp2_with fail
      refine HP.out.mono ?_
      rintro e' w1 ⟨A1, c1, rfl, ho, hb1⟩
      have HB1 := Lib.hid (HB0.out.trans (hb1.mono HB0.out.size))
      clear ho hb1 HP d32 d33 d34 hW HB0 HR0
      go_wp2
      go_ret2
      exact IsLE.none_b HE.out rfl HB1.out
end Go.Proofs.Ytkialijipcbgkaa
namespace Go.Proofs.Ytkialijipcbgkaa
open Go.RowKit
set_option linter.unusedVariables false
theorem bts_range {w : World} {b off : Nat} {l : List Nat} (h : ∀ (j x : Nat), l[j]? = some x → w.cell? ⟨b, off + j, none⟩ = some (.int .u8 (x : Nat))) (k m : Nat) : w.rangeAt b (off + k) (bvs ((l.drop k).take m)).toList := by
  intro j v hv
  have hv' : ((l.drop k).take m)[j]?.map u8 = some v := by
    have h0 : (((l.drop k).take m).map u8)[j]? = some v := hv
    rwa [List.getElem?_map] at h0
  cases hx : ((l.drop k).take m)[j]? with
  | none => rw [hx] at hv'; cases hv'
  | some x =>
    rw [hx] at hv'
    have hl : l[k + j]? = some x := by
      rw [List.getElem?_take] at hx
      split at hx
      · rw [List.getElem?_drop] at hx; exact hx
      · cases hx
    have h2 := h (k + j) x hl
    rw [Nat.add_assoc, h2, ← hv']
    rfl
/-- A load of part of a row, as an operation of a region that draws. -/
theorem exec_load_mid {P : Program} {a : Act} {o : Oper} (ty : TypeId) (x : Operand) (ho : o.op = .load ty x) (b off : Nat) (hx : a.eval x = .pointer (some ⟨b, off, none⟩)) (cs : Array Value) (d : TypeDesc) (w : World)
    (hc : w.rangeAt b off cs.toList) (hu : P.underlying ty = some d) (hd : d.isRow = true) (hi : (P.info? ty).map (·.size) = some cs.size) : (execOp a.eval o).run P w = .ok (.value (.agg cs)) w := by
  unfold execOp
  simp only [ho, hx, Instr.loadAt, Instr.sureAddr, Sem.run_bind, Sem.run_pure, Result.andThen_ok, run_loadVar_mid w b off ty cs.toList d hc hu hd (by simpa using hi)]
set_option maxRecDepth 100000 in
theorem arrD_at (a : Addr) (w : World) : (Instr.arrayAt 23 (.slice (some a) 32 32)).run Try.prog w = .ok (.pointer (some a)) w := by
  simp [Instr.arrayAt, run_underlying Try.underlying23]
set_option maxRecDepth 100000 in
theorem arr8_at (a : Addr) (w : World) : (Instr.arrayAt 54 (.slice (some a) 8 8)).run Try.prog w = .ok (.pointer (some a)) w := by
  simp [Instr.arrayAt, run_underlying Try.underlying54]
set_option maxRecDepth 100000 in
/-- Two arrays in variables of their own, as results. -/
theorem results_two {fn : Func} {p q : Tmp} (h : fn.results = #[.cell p 23, .cell q 54]) (tmps : Array Value) (w : World) (g g' : Nat) (c c' : Array Value)
    (hp : tmps.getD p undef = .pointer (some ⟨g, 0, none⟩)) (hq : tmps.getD q undef = .pointer (some ⟨g', 0, none⟩)) (hc : (Try.prog.info? 23).map (·.size) = some c.size) (hc' : (Try.prog.info? 54).map (·.size) = some c'.size)
    (hg : Rw w g 23 c) (hg' : Rw w g' 54 c') :
    (results fn tmps).run Try.prog w = .ok (.tuple #[.agg c, .agg c']) w := by
  have hp' : tmps[p]?.getD undef = .pointer (some ⟨g, 0, none⟩) := by simpa using hp
  have hq' : tmps[q]?.getD undef = .pointer (some ⟨g', 0, none⟩) := by simpa using hq
  simp [results, h, hp', hq', asAddr, run_loadVar_row w g _ _ _ (0, 0) _ hg Try.underlying23 rfl hc, run_loadVar_row w g' _ _ _ (0, 0) _ hg' Try.underlying54 rfl hc']
set_option maxHeartbeats 1000000 in
set_option maxRecDepth 100000 in
theorem pcuthead_any (v : Value) (b : List Nat) (B : Nat) (w : World) (hB : B ≤ w.heap.size) (h : Bv w B v b) (h40 : 40 ≤ b.length) :
    Calls Try.prog 39 #[v] w (fun e w' => e = .returned (.tuple #[.agg (bvs (b.take 32)), .agg (bvs ((b.drop 32).take 8))]) ∧ Below w.heap.size w w') := by
  have hz8 := zero8V
  have hz32 : ∀ w, (zeroValue 23).run Try.prog w = .ok (.agg none32) w := (zero_of_info (n := 32) (by kernel_rfl)).1
  obtain ⟨A, c, rfl, hc1, hc2, _, hbts⟩ := h
  obtain ⟨bb, off, rfl, hblt, hcell⟩ := hbts.2 (by omega)
  have hl32 : (b.take 32).length = 32 := by rw [List.length_take]; omega
  have hl8 : ((b.drop 32).take 8).length = 8 := by rw [List.length_take, List.length_drop]; omega
  have HS32 := Lib.hid (size35l hl32)
  have HS8 := Lib.hid (size8l hl8)
  have HE32 : Hid (none32.size = (bvs (b.take 32)).size) := by unfold Hid; rw [bvs_size, hl32]; rfl
  have HE8 : Hid (none8.size = (bvs ((b.drop 32).take 8)).size) := by unfold Hid; rw [bvs_size, hl8]; rfl
  have HO32 := Lib.hid (bvs_one (b.take 32))
  have HO8 := Lib.hid (bvs_one ((b.drop 32).take 8))
  have HG : Hid (∀ w', Below w.heap.size w w' → w'.rangeAt bb off (bvs (b.take 32)).toList ∧ w'.rangeAt bb (off + 32) (bvs ((b.drop 32).take 8)).toList) := fun w' hb' => by
    have hc : ∀ (j x : Nat), b[j]? = some x → w'.cell? ⟨bb, off + j, none⟩ = some (.int .u8 (x : Nat)) := fun j x hj => (hb'.cell (p := ⟨bb, off + j, none⟩) (by show bb < _; omega)).trans (hcell j x hj)
    have h1 := bts_range hc 0 32
    rw [List.drop_zero, Nat.add_zero] at h1
    exact ⟨h1, bts_range hc 32 8⟩
  obtain ⟨D1, hD1⟩ : ∃ D, bvs (b.take 32) = D := ⟨_, rfl⟩
  obtain ⟨D2, hD2⟩ : ∃ D, bvs ((b.drop 32).take 8) = D := ⟨_, rfl⟩
  obtain ⟨N1, hN1⟩ : ∃ D, none32 = D := ⟨_, rfl⟩
  obtain ⟨N2, hN2⟩ : ∃ D, none8 = D := ⟨_, rfl⟩
  rw [hD1] at HS32 HE32 HO32 HG
  rw [hD2] at HS8 HE8 HO8 HG
  rw [hN1] at HE32 hz32
  rw [hN2] at HE8 hz8
  rw [hD1, hD2]
  obtain ⟨W, hW⟩ : ∃ W, (w.alloc (.cells N1 23)).alloc (.cells N2 54) = W := ⟨_, rfl⟩
  have HA : Hid (Rw W w.heap.size 23 N1) := by unfold Hid; rw [← hW]; exact (Rw.new w _ _).old _
  have HC : Hid (Rw W (w.heap.size + 1) 54 N2) := by unfold Hid; rw [← hW]; exact Rw.at_ (by simp) _ _
  have HBW : Hid (Below w.heap.size w W) := by unfold Hid; rw [← hW]; exact ((Below.refl _ _).alloc (Nat.le_refl _) _).alloc (by simp) _
  have har := fun (a : Addr) w => arrD_at a w
  have har8 := fun (a : Addr) w => arr8_at a w
  have i1 : (32 : Int) ≤ (c : Nat) := by omega
  have i2 : (40 : Int) ≤ (c : Nat) := by omega
  have hcm : c ≤ 9223372036854775807 := by simp only [maxLen] at hc2; omega
  have HCB : Hid (40 ≤ b.length) := h40
  clear hbts hcell hD1 hD2 hN1 hN2 hl32 hl8 hc1 hc2 h40 hblt
  go_enter Try.func39, Try.ntmps39
  go_wp2
  have hS0 : Below w.heap.size w W.drew := HBW.out.drew
  refine wp_region_held_drew (S := fun w' => Below w.heap.size w w') (by kernel_rfl) hS0 (fun hH => ?_)
  refine wpAnyH_take (i := 0) (v := ?_) rfl (by kernel_rfl) (by kernel_rfl) (by kernel_rfl) (fun _ _ _ h => h) (Or.inl ⟨by rfl, (by intro w' hSw; go_simp; first | done | with_reducible rfl)⟩) hH ?_
  try simp only [Act.put, List.getElem_toArray, List.getElem_cons_zero, List.setIfInBounds_toArray, List.set_cons_zero, List.set_cons_succ]
  refine wpAnyH_take (i := 1) (v := ?_) rfl (by kernel_rfl) (by kernel_rfl) (by kernel_rfl) (fun _ _ _ h => h) (Or.inl ⟨by rfl, (by intro w' hSw; go_simp; first | done | with_reducible rfl)⟩) hH ?_
  try simp only [Act.put, List.getElem_toArray, List.getElem_cons_succ, List.getElem_cons_zero, List.setIfInBounds_toArray, List.set_cons_zero, List.set_cons_succ]
  refine wpAnyH_take (i := 2) (v := .agg D1) rfl (by kernel_rfl) (by kernel_rfl) (by kernel_rfl) (fun _ _ _ h => h) (Or.inl ⟨by rfl, fun w' hSw => exec_load_mid _ _ rfl bb off rfl D1 _ w' (HG.out w' hSw).1 Try.underlying23 rfl HS32.out⟩) hH ?_
  try simp only [Act.put, List.getElem_toArray, List.getElem_cons_succ, List.getElem_cons_zero, List.setIfInBounds_toArray, List.set_cons_zero, List.set_cons_succ]
  refine wpAnyH_take (i := 3) (v := ?_) rfl (by kernel_rfl) (by kernel_rfl) (by kernel_rfl) (fun _ _ _ h => h) (Or.inl ⟨by rfl, (by intro w' hSw; go_simp; first | done | with_reducible rfl)⟩) hH ?_
  try simp only [Act.put, List.getElem_toArray, List.getElem_cons_succ, List.getElem_cons_zero, List.setIfInBounds_toArray, List.set_cons_zero, List.set_cons_succ]
  refine wpAnyH_take (i := 4) (v := ?_) rfl (by kernel_rfl) (by kernel_rfl) (by kernel_rfl) (fun _ _ _ h => h) (Or.inl ⟨by rfl, (by intro w' hSw; go_simp; first | done | with_reducible rfl)⟩) hH ?_
  try simp only [Act.put, List.getElem_toArray, List.getElem_cons_succ, List.getElem_cons_zero, List.setIfInBounds_toArray, List.set_cons_zero, List.set_cons_succ]
  refine wpAnyH_take (i := 5) (v := .agg D2) rfl (by kernel_rfl) (by kernel_rfl) (by kernel_rfl) (fun _ _ _ h => h) (Or.inl ⟨by rfl, fun w' hSw => exec_load_mid _ _ rfl bb (off + 32) rfl D2 _ w' (HG.out w' hSw).2 Try.underlying54 rfl HS8.out⟩) hH ?_
  try simp only [Act.put, List.getElem_toArray, List.getElem_cons_succ, List.getElem_cons_zero, List.setIfInBounds_toArray, List.set_cons_zero, List.set_cons_succ]
  obtain ⟨X, hX⟩ : ∃ X, W.drew.setRow w.heap.size D1 = X := ⟨_, rfl⟩
  obtain ⟨Y, hY⟩ : ∃ Y, X.setRow (w.heap.size + 1) D2 = Y := ⟨_, rfl⟩
  have HXA : Hid (Rw X w.heap.size 23 D1) := by unfold Hid; rw [← hX]; exact Rw.row HA.out.drew D1
  have HXC : Hid (Rw X (w.heap.size + 1) 54 N2) := by unfold Hid; rw [← hX]; exact HC.out.drew.rowOther (by omega) _
  have HYA : Hid (Rw Y w.heap.size 23 D1) := by unfold Hid; rw [← hY]; exact HXA.out.rowOther (by omega) _
  have HYC : Hid (Rw Y (w.heap.size + 1) 54 D2) := by unfold Hid; rw [← hY]; exact Rw.row HXC.out D2
  have HBX : Hid (Below w.heap.size w X) := by unfold Hid; rw [← hX]; exact below_setRow hS0 (Nat.le_refl _) _
  have HBY : Hid (Below w.heap.size w Y) := by unfold Hid; rw [← hY]; exact below_setRow HBX.out (by omega) _
  refine wpAnyH_ready (rs := [6]) (by kernel_rfl) (by simp) ?_
  refine AllReadyH.cons rfl (fun K hK => ?_) AllReadyH.nil
  rw [if_pos (by rfl)]
  refine wp_store_row 23 (.tmp 2) (.tmp 12) rfl w.heap.size D1 rfl rfl 23 N1 HA.out.drew HS32.out HE32.out HO32.out ?_
  change K _ (W.drew.setRow w.heap.size D1)
  rw [hX]
  refine hK.out _ _ HBX.out (fun hH => ?_)
  clear hK K
  try simp only [Act.put, List.getElem_toArray, List.getElem_cons_succ, List.getElem_cons_zero]
  refine wpAnyH_ready (rs := [7]) (by kernel_rfl) (by simp) ?_
  refine AllReadyH.cons rfl (fun K hK => ?_) AllReadyH.nil
  rw [if_pos (by rfl)]
  refine wp_store_row 54 (.tmp 3) (.tmp 15) rfl (w.heap.size + 1) D2 rfl rfl 54 N2 HXC.out HS8.out HE8.out HO8.out ?_
  change K _ (X.setRow (w.heap.size + 1) D2)
  rw [hY]
  refine hK.out _ _ HBY.out (fun hH => ?_)
  clear hK K
  refine wpAnyH_done (by kernel_rfl) ?_ _
  clear hH
  go_wp2
  refine bodyPost_ret (v := .tuple #[.agg D1, .agg D2]) (results_two rfl _ _ w.heap.size (w.heap.size + 1) D1 D2 rfl rfl HS32.out HS8.out HYA.out HYC.out) rfl ⟨rfl, HBY.out⟩
end Go.Proofs.Ytkialijipcbgkaa
namespace Go.Proofs.Ytkialijipcbgkaa
open Go.RowKit
set_option linter.unusedVariables false
/-- A load of a whole row, and a struct that is built, as operations of a region that draws. -/
theorem exec_row {P : Program} {a : Act} {o : Oper} (ty : TypeId) (x : Operand) (ho : o.op = .load ty x) (g : Nat) (hx : a.eval x = .pointer (some ⟨g, 0, none⟩)) (t : TypeId) (cs : Array Value) (fr : Nat × Nat) (d : TypeDesc) (w : World)
    (hg : w.heap[g]? = some (.cells cs t fr)) (hu : P.underlying ty = some d) (hd : (match d with | .struct _ | .array _ _ => true | _ => false) = true) (hi : (P.info? ty).map (·.size) = some cs.size) :
    (execOp a.eval o).run P w = .ok (.value (.agg cs)) w := by
  unfold execOp
  simp only [ho, hx, Instr.loadAt, Instr.sureAddr, Sem.run_bind, Sem.run_pure, Result.andThen_ok, run_loadVar_row w g t ty cs fr d hg hu hd hi]
theorem exec_made {P : Program} {a : Act} {o : Oper} (t : TypeId) (parts : Array (Nat × Operand)) (ho : o.op = .build t parts) (c : Array Value) (w : World)
    (hf : P.built t (parts.map fun (i, x) => (i, a.eval x)).toList = some c) : (execOp a.eval o).run P w = .ok (.value (.agg c)) w := by
  unfold execOp
  simp only [ho, Sem.run_bind, run_build w t _ c hf, Result.andThen_ok]
  rfl
set_option maxHeartbeats 2000000 in
set_option maxRecDepth 100000 in
theorem prcget_any (v : Value) (b : List Nat) (B : Nat) (w : World) (h0 : Lv yK w B v b) (hB : B ≤ w.heap.size) :
    Calls Try.prog 15 #[v] w (IsRE (Rc.getE b) w) := by
  have hz35 := rc_zeroV
  have h := h0.bv_
  have HL0 := Lib.hid h0
  have H0 := Lib.hid h
  have HBB := Lib.hid hB
  have hlt8 := h.lt_
  have HL8 := Lib.hid hlt8
  obtain ⟨A, c, rfl, hc1, hc2, _, hbts⟩ := h
  have hbl : b.length ≤ 9223372036854775807 := by simp only [maxLen] at hc2; omega
  clear hc1 hc2 h0
  have hsz : (Try.prog.info? 27).map (·.size) = some none35.size := rc_sizeof Rc.fit_zero
  have hone : none35.all (·.oneCell') = true := rcC_one rfl
  have HNS : Hid (none35.size = 35) := rcC_size Rc.fit_zero
  obtain ⟨N, hN⟩ : ∃ N, none35 = N := ⟨_, rfl⟩
  have hb0 := rc_built0
  rw [hN] at hz35 hsz hone hb0 HNS
  obtain ⟨W, hW⟩ : ∃ W, w.alloc (.cells N 27) = W := ⟨_, rfl⟩
  have HR0 : Hid (Rw W w.heap.size 27 N) := by unfold Hid; rw [← hW]; exact Rw.new w _ _
  have HB0 : Hid (Below w.heap.size w W) := by unfold Hid; rw [← hW]; exact (Below.refl _ _).alloc (Nat.le_refl _) _
  by_cases h40 : b.length < 40
  · have HE := Lib.hid (Rc.getE_short h40)
    have hi : (b.length : Int) < 40 := by omega
    clear h40 hlt8
    go_enter Try.func15, Try.ntmps15
    go_wp2_with (first
      | (refine wpList_build_at rfl 27 _ rfl N hb0 ?_)
      | (refine wpList_store_row rfl _ _ _ rfl w.heap.size N rfl rfl 27 _ HR0.out hsz rfl hone ?_))
    exact IsRE.ret0 rfl hN rfl rfl rfl (Rw.row HR0.out N) HE.out rfl (below_setRow HB0.out (Nat.le_refl _) _)
  · have hi : ¬ (b.length : Int) < 40 := by omega
    have H40 : Hid (¬ b.length < 40) := h40
    have hd40 : 40 ≤ b.length := by omega
    have HD40 := Lib.hid hd40
    have HLV : Hid (Bv W B (.slice A b.length c) b) := H0.out.below_ HB0.out HBB.out
    have HGT := Lib.hid (get_any _ b B 40 W HLV.out)
    have HZW : Hid (w.heap.size < W.heap.size ∧ w.heap.size ≤ W.heap.size) := ⟨HR0.out.lt, HB0.out.size⟩
    clear hlt8 hd40
    rcases Mt.get_cases HL8.out 40 with ⟨e, he2, he5, hr⟩ | ⟨k0, m, r, hk0', hk0, hbn, hs, hle, hr⟩
    · have HE := Lib.hid (Rc.getE_cnt h40 (Mt.count_err (most := 4096) hr (by omega)) (by omega))
      rw [hr] at HGT
      have hq : ((e : Int) != 0) = true := by rw [bne_iff_ne]; omega
      clear hr he2 he5 h40
      go_enter Try.func15, Try.ntmps15
      go_wp2_with fail
      ((with_reducible refine HGT.out.mono ?_); rintro e' w2 ⟨rfl, hb2⟩)
      have HR2 : Hid (Rw w2 w.heap.size 27 N) := HR0.out.below hb2 HZW.out.1
      have HB2 := Lib.hid (HB0.out.trans (hb2.mono HZW.out.2))
      clear HGT hb2
      go_wp2_with (first
        | (refine wpList_build_at rfl 27 _ rfl N hb0 ?_)
        | (refine wpList_store_row rfl _ _ _ rfl w.heap.size N rfl rfl 27 _ HR2.out hsz rfl hone ?_))
      exact IsRE.ret0 rfl hN rfl rfl rfl (Rw.row HR2.out N) HE.out rfl (below_setRow HB2.out (Nat.le_refl _) _)
    · obtain rfl : k0 = 40 := by omega
      obtain ⟨nx, hnx⟩ : ∃ nx, 40 + (Mt.put m).length = nx := ⟨_, rfl⟩
      rw [hnx] at hr hle
      rw [hr] at HGT
      by_cases hm : 4096 < m
      · have HE := Lib.hid (Rc.getE_cnt h40 (Mt.count_lim (most := 4096) hr (by omega)) (by omega))
        have hmi : (4096 : Int) < (m : Int) := by omega
        clear hr hnx hk0' hk0 hbn hs hm h40
        go_enter Try.func15, Try.ntmps15
        go_wp2_with fail
        ((with_reducible refine HGT.out.mono ?_); rintro e' w2 ⟨rfl, hb2⟩)
        have HR2 : Hid (Rw w2 w.heap.size 27 N) := HR0.out.below hb2 HZW.out.1
        have HB2 := Lib.hid (HB0.out.trans (hb2.mono HZW.out.2))
        clear HGT hb2
        go_wp2_with (first
          | (refine wpList_build_at rfl 27 _ rfl N hb0 ?_)
          | (refine wpList_store_row rfl _ _ _ rfl w.heap.size N rfl rfl 27 _ HR2.out hsz rfl hone ?_))
        exact IsRE.ret0 rfl hN rfl rfl rfl (Rw.row HR2.out N) HE.out rfl (below_setRow HB2.out (Nat.le_refl _) _)
      · have HCR := Lib.hid (Mt.count_ok (most := 4096) hr (by omega))
        have hmi : ¬ (4096 : Int) < (m : Int) := by omega
        have HM : Hid (m ≤ 4096) := by unfold Hid; omega
        obtain ⟨⟨l, j, e⟩, hg⟩ : ∃ x, Pk.getE b (nx : Nat) = x := ⟨_, rfl⟩
        have HGE := Lib.hid hg
        have HJ : Hid (e = 0 → j ≤ b.length) := fun he => by
          subst he
          obtain ⟨_, _, _, _, _, h, _⟩ := Pk.getE_inv HL8.out hg
          exact h
        clear hr hnx hk0' hk0 hbn hs hm h40 hg
        go_enter Try.func15, Try.ntmps15
        go_wp2_with fail
        ((with_reducible refine HGT.out.mono ?_); rintro e' w2 ⟨rfl, hb2⟩)
        have HR2 : Hid (Rw w2 w.heap.size 27 N) := HR0.out.below hb2 HZW.out.1
        have HB2 := Lib.hid (HB0.out.trans (hb2.mono HZW.out.2))
        have HG := Lib.hid (ppget_any b _ B (nx : Nat) w2 (HL0.out.below_ HB2.out HBB.out) (Nat.le_trans HBB.out HB2.out.size))
        rw [HGE.out] at HG
        have HZ2 : Hid (w.heap.size < w2.heap.size ∧ w.heap.size ≤ w2.heap.size) := ⟨HR2.out.lt, HB2.out.size⟩
        clear HGT hb2
        go_wp2_with fail
        ((with_reducible refine HG.out.mono ?_); rintro e' w4 ⟨A4, c4, rfl, ho, hb4⟩)
        have HR4 : Hid (Rw w4 w.heap.size 27 N) := HR2.out.below hb4 HZ2.out.1
        have HB4 := Lib.hid (HB2.out.trans (hb4.mono HZ2.out.2))
        have HO4 : Hid (OwnL iK w4 w2.heap.size (.slice A4 l.length c4) l) := ho
        clear HG hb4 ho
        by_cases he : e = 0
        · subst he
          have hjl := HJ.out rfl
          by_cases hj : j = b.length
          · have HE := Lib.hid (Rc.getE_ok H40.out HCR.out HGE.out hj)
            have hq : ¬ ((j : Nat) : Int) < (b.length : Int) := by omega
            have HCH := Lib.hid (pcuthead_any _ b B w4 (Nat.le_trans HBB.out HB4.out.size) (H0.out.below_ HB4.out HBB.out) HD40.out)
            have hl32 : (b.take 32).length = 32 := by rw [List.length_take]; have := HD40.out; omega
            have hl8 : ((b.drop 32).take 8).length = 8 := by rw [List.length_take, List.length_drop]; have := HD40.out; omega
            have h8d : ∀ x ∈ b.take 32, x < 256 := fun x hx => HL8.out x (List.mem_of_mem_take hx)
            have h8n : ∀ x ∈ (b.drop 32).take 8, x < 256 := fun x hx => HL8.out x (List.mem_of_mem_drop (List.mem_of_mem_take hx))
            have HHI : Hid (Rc.lo ((b.drop 32).take 8) 8 = Rc.hi b 8) := Rc.lo_hi b
            have HLO : Hid (Rc.lo ((b.drop 32).take 8) 8 < 18446744073709551616) := by have := Rc.lo_lt h8n 8; simpa [Hid] using this
            have hz8 := zero8V
            have hz32 : ∀ w, (zeroValue 23).run Try.prog w = .ok (.agg none32) w := (zero_of_info (n := 32) (by kernel_rfl)).1
            have HS32 := Lib.hid (size35l hl32)
            have HS8 := Lib.hid (size8l hl8)
            have HE32 : Hid (none32.size = (bvs (b.take 32)).size) := by unfold Hid; rw [bvs_size, hl32]; rfl
            have HE8 : Hid (none8.size = (bvs ((b.drop 32).take 8)).size) := by unfold Hid; rw [bvs_size, hl8]; rfl
            have HO32 := Lib.hid (bvs_one (b.take 32))
            have HO8 := Lib.hid (bvs_one ((b.drop 32).take 8))
            have HGN : Hid (∀ w', Calls Try.prog 40 #[.agg (bvs ((b.drop 32).take 8))] w' (fun e w'' => e = .returned (.int .u64 (Rc.lo ((b.drop 32).take 8) 8 : Nat)) ∧ Below w'.heap.size w' w'')) := fun w' => pgetnum_any _ w' hl8 h8n
            obtain ⟨n8, hn8⟩ : ∃ n, Rc.lo ((b.drop 32).take 8) 8 = n := ⟨_, rfl⟩
            rw [hn8] at HHI HLO HGN
            obtain ⟨d, hd⟩ : ∃ d, b.take 32 = d := ⟨_, rfl⟩
            rw [hd] at hl32 h8d HS32 HE32 HO32 HCH
            have HFT : Hid (Rc.Fit ⟨d, n8, (m : Nat), l⟩) := ⟨hl32, h8d, HLO.out, by have := HM.out; show I64 ((m : Nat) : Int); unfold I64; omega⟩
            have HEE : Hid (Rc.getE b = (⟨d, n8, (m : Nat), l⟩, 0)) := by unfold Hid; rw [HE.out, hd, HHI.out]
            have hbt := rc_built hl32 n8 (m : Nat) A4 l.length c4
            rw [rcC_toks_free _ _ _ [] l] at hbt
            have hsz' : (Try.prog.info? 27).map (·.size) = some (rcC ⟨d, n8, (m : Nat), l⟩ (.slice A4 l.length c4)).size := rc_sizeof HFT.out
            have hone' : (rcC ⟨d, n8, (m : Nat), l⟩ (.slice A4 l.length c4)).all (·.oneCell') = true := rcC_one rfl
            obtain ⟨C, hC⟩ : ∃ C, rcC ⟨d, n8, (m : Nat), l⟩ (.slice A4 l.length c4) = C := ⟨_, rfl⟩
            rw [hC] at hbt hsz' hone'
            have HNC : Hid (N.size = C.size) := by unfold Hid; rw [HNS.out, ← hC, rcC_size HFT.out]
            have HCC : Hid (rcC ⟨d, n8, (m : Nat), l⟩ (.slice A4 l.length c4) = C) := hC
            obtain ⟨D1, hD1⟩ : ∃ D, bvs d = D := ⟨_, rfl⟩
            obtain ⟨D2, hD2⟩ : ∃ D, bvs ((b.drop 32).take 8) = D := ⟨_, rfl⟩
            have HD2 := Lib.hid hD2
            obtain ⟨N1, hN1⟩ : ∃ D, none32 = D := ⟨_, rfl⟩
            obtain ⟨N2, hN2⟩ : ∃ D, none8 = D := ⟨_, rfl⟩
            rw [hD1] at HS32 HE32 HO32 HCH hbt
            rw [hD2] at HS8 HE8 HO8 HCH HGN
            rw [hN1] at HE32 hz32
            rw [hN2] at HE8 hz8
            have HBT := Lib.hid hbt
            have wm : IntKind.i64.wrap (m : Int) = (m : Int) := by rw [IntKind.wrap_i64]; have := HM.out; omega
            clear hj hjl hC hd hn8 hl32 hl8 h8d h8n hD1 hD2 hN1 hN2 HE HHI hbt
            go_wp2_with fail
            ((with_reducible refine HCH.out.mono ?_); rintro e' w5 ⟨rfl, hb5⟩)
            have HWL : Hid (w.heap.size < w5.heap.size) := (HR4.out.below hb5 HR4.out.lt).lt
            have HR5 : Hid (Rw w5 w.heap.size 27 N) := HR4.out.below hb5 HR4.out.lt
            have HB5 := Lib.hid (HB4.out.trans (hb5.mono HB4.out.size))
            have HO5 : Hid (OwnL iK w5 w2.heap.size (.slice A4 l.length c4) l) := HO4.out.below_ hb5 (Nat.le_refl _)
            obtain ⟨X, hX⟩ : ∃ X, (w5.alloc (.cells N1 23)).alloc (.cells N2 54) = X := ⟨_, rfl⟩
            have HXA : Hid (Rw X w5.heap.size 23 N1) := by unfold Hid; rw [← hX]; exact (Rw.new w5 _ _).old _
            have HXB : Hid (Rw X (w5.heap.size + 1) 54 N2) := by unfold Hid; rw [← hX]; exact Rw.at_ (by simp) _ _
            have HBX0 : Below w5.heap.size w5 X := by rw [← hX]; exact ((Below.refl _ _).alloc (Nat.le_refl _) _).alloc (by simp) _
            have HXAs : Hid (Rw (X.setRow w5.heap.size D1) (w5.heap.size + 1) 54 N2) := HXB.out.rowOther (by omega) _
            obtain ⟨Y, hY⟩ : ∃ Y, (X.setRow w5.heap.size D1).setRow (w5.heap.size + 1) D2 = Y := ⟨_, rfl⟩
            have HYA : Hid (Rw Y w5.heap.size 23 D1) := by unfold Hid; rw [← hY]; exact (Rw.row HXA.out D1).rowOther (by omega) _
            have HYB : Hid (Rw Y (w5.heap.size + 1) 54 D2) := by unfold Hid; rw [← hY]; exact Rw.row HXAs.out D2
            have HBY0 : Below w5.heap.size w5 Y := by rw [← hY]; exact below_setRow (below_setRow HBX0 (by omega) _) (by omega) _
            have HRY : Hid (Rw Y w.heap.size 27 N) := HR5.out.below HBY0 HR5.out.lt
            have HBY := Lib.hid (HB5.out.trans (HBY0.mono HB5.out.size))
            have HOY : Hid (OwnL iK Y w2.heap.size (.slice A4 l.length c4) l) := HO5.out.below_ HBY0 (Nat.le_refl _)
            have HYL : Hid (w.heap.size ≤ Y.heap.size) := HBY.out.size
            clear HCH hb5 HR4 HB4 HO4 HBX0
            have HBY1 := Lib.hid HBY0
            clear HBY0
            go_wp2_with (first
              | (refine wpList_store_row rfl _ _ _ rfl w5.heap.size D1 rfl rfl 23 _ HXA.out HS32.out HE32.out HO32.out ?_)
              | (refine wpList_store_row rfl _ _ _ rfl (w5.heap.size + 1) D2 rfl rfl 54 _ HXAs.out HS8.out HE8.out HO8.out ?_; rw [hY]))
            clear hX hY HXA HXB HXAs HS8 HE8 HO8 HE32 HO32 HR5 HO5 HB5
            have HS8' := Lib.hid (size8l (l := (b.drop 32).take 8) (by rw [List.length_take, List.length_drop]; have := HD40.out; omega))
            rw [HD2.out] at HS8'
            have hS0 : Rw Y.drew w5.heap.size 23 D1 ∧ Rw Y.drew (w5.heap.size + 1) 54 D2 := ⟨HYA.out.drew, HYB.out.drew⟩
            refine wp_region_held_drew (S := fun w' => Rw w' w5.heap.size 23 D1 ∧ Rw w' (w5.heap.size + 1) 54 D2) (by kernel_rfl) hS0 (fun hH => ?_)
            refine wpAnyH_take (i := 0) (v := .agg D1) rfl (by kernel_rfl) (by kernel_rfl) (by kernel_rfl) (fun _ _ _ h => h) (Or.inl ⟨by rfl, fun w' hSw => exec_row _ _ rfl w5.heap.size rfl 23 D1 (0, 0) _ w' hSw.1 Try.underlying23 rfl HS32.out⟩) hH ?_
            try simp only [Act.put, List.getElem_toArray, List.getElem_cons_zero, List.setIfInBounds_toArray, List.set_cons_zero, List.set_cons_succ]
            refine wpAnyH_take (i := 1) (v := .agg D2) rfl (by kernel_rfl) (by kernel_rfl) (by kernel_rfl) (fun _ _ _ h => h) (Or.inl ⟨by rfl, fun w' hSw => exec_row _ _ rfl (w5.heap.size + 1) rfl 54 D2 (0, 0) _ w' hSw.2 Try.underlying54 rfl HS8'.out⟩) hH ?_
            try simp only [Act.put, List.getElem_toArray, List.getElem_cons_succ, List.getElem_cons_zero, List.setIfInBounds_toArray, List.set_cons_zero, List.set_cons_succ]
            refine wpAnyH_take (i := 3) (v := ?_) rfl (by kernel_rfl) (by kernel_rfl) (by kernel_rfl) (fun _ _ _ h => h) (Or.inl ⟨by rfl, (by intro w' hSw; go_simp; first | done | with_reducible rfl)⟩) hH ?_
            try simp only [Act.put, List.getElem_toArray, List.getElem_cons_succ, List.getElem_cons_zero, List.setIfInBounds_toArray, List.set_cons_zero, List.set_cons_succ]
            refine wpAnyH_take (i := 4) (v := ?_) rfl (by kernel_rfl) (by kernel_rfl) (by kernel_rfl) (fun _ _ _ h => h) (Or.inl ⟨by rfl, (by intro w' hSw; go_simp; first | done | with_reducible rfl)⟩) hH ?_
            try simp only [Act.put, List.getElem_toArray, List.getElem_cons_succ, List.getElem_cons_zero, List.setIfInBounds_toArray, List.set_cons_zero, List.set_cons_succ]
            refine wpAnyH_take (i := 5) (v := ?_) rfl (by kernel_rfl) (by kernel_rfl) (by kernel_rfl) (fun _ _ _ h => h) (Or.inl ⟨by rfl, (by intro w' hSw; go_simp; first | done | with_reducible rfl)⟩) hH ?_
            try simp only [Act.put, List.getElem_toArray, List.getElem_cons_succ, List.getElem_cons_zero, List.setIfInBounds_toArray, List.set_cons_zero, List.set_cons_succ]
            refine wpAnyH_ready (rs := [2]) (by kernel_rfl) (by simp) ?_
            refine AllReadyH.cons rfl (fun K hK => ?_) AllReadyH.nil
            go_simp
            refine (HGN.out Y.drew).mono ?_
            rintro e w7 ⟨rfl, hb7⟩
            have hbY : Below Y.heap.size Y w7 := (Below.refl Y.heap.size Y).drew.trans hb7
            have HA7 : Hid (Rw w7 w5.heap.size 23 D1 ∧ Rw w7 (w5.heap.size + 1) 54 D2) := ⟨HYA.out.below hbY HYA.out.lt, HYB.out.below hbY HYB.out.lt⟩
            have HR7 : Hid (Rw w7 w.heap.size 27 N) := HRY.out.below hbY HRY.out.lt
            have HB7 := Lib.hid (HBY.out.trans (hbY.mono HYL.out))
            have HO7 : Hid (OwnL iK w7 w2.heap.size (.slice A4 l.length c4) l) := HOY.out.below_ hbY (Nat.le_refl _)
            refine hK.out _ _ HA7.out (fun hH => ?_)
            clear hK K hS0 hb7 hbY
            try simp only [Act.put, List.getElem_toArray, List.getElem_cons_succ, List.getElem_cons_zero, List.setIfInBounds_toArray, List.set_cons_zero, List.set_cons_succ]
            refine wpAnyH_take (i := 6) (v := .agg C) rfl (by kernel_rfl) (by kernel_rfl) (by kernel_rfl) (fun _ _ _ h => h) (Or.inl ⟨by rfl, fun w' hSw => exec_made _ _ rfl C w' (by simp only [List.map_toArray]; exact HBT.out)⟩) hH ?_
            try simp only [Act.put, List.getElem_toArray, List.getElem_cons_succ, List.getElem_cons_zero, List.setIfInBounds_toArray, List.set_cons_zero, List.set_cons_succ]
            obtain ⟨Z, hZ⟩ : ∃ Z, w7.setRow w.heap.size C = Z := ⟨_, rfl⟩
            have HRZ : Hid (Rw Z w.heap.size 27 C) := by unfold Hid; rw [← hZ]; exact Rw.row HR7.out C
            have HW5 : Hid (w.heap.size < w5.heap.size) := HWL.out
            have HAZ : Hid (Rw Z w5.heap.size 23 D1 ∧ Rw Z (w5.heap.size + 1) 54 D2) := by
              have h := HW5.out
              unfold Hid; rw [← hZ]; exact ⟨HA7.out.1.rowOther (by omega) _, HA7.out.2.rowOther (by omega) _⟩
            have HBZ : Hid (Below w.heap.size w Z) := by unfold Hid; rw [← hZ]; exact below_setRow HB7.out (Nat.le_refl _) _
            have HOZ : Hid (OwnL iK Z w.heap.size (.slice A4 l.length c4) l) := by
              unfold Hid; rw [← hZ]
              exact (HO7.out.of_block (fun k hk => setRow_other _ _ _ _ (by have := (HO7.out.lt_ k hk).1; have := HZ2.out.1; omega))).mono_ HZ2.out.2
            refine wpAnyH_ready (rs := [7]) (by kernel_rfl) (by simp) ?_
            refine AllReadyH.cons rfl (fun K hK => ?_) AllReadyH.nil
            rw [if_pos (by rfl)]
            refine wp_store_row 27 (.tmp 2) (.tmp 54) rfl w.heap.size C rfl rfl 27 N HR7.out hsz' HNC.out hone' ?_
            change K _ (w7.setRow w.heap.size C)
            rw [hZ]
            refine hK.out _ _ HAZ.out (fun hH => ?_)
            clear hK K
            try simp only [Act.put, List.getElem_toArray, List.getElem_cons_succ, List.getElem_cons_zero]
            refine wpAnyH_take (i := 8) (v := ?_) rfl (by kernel_rfl) (by kernel_rfl) (by kernel_rfl) (fun _ _ _ h => h) (Or.inl ⟨by rfl, (by intro w' hSw; go_simp; first | done | with_reducible rfl)⟩) hH ?_
            try simp only [Act.put, List.getElem_toArray, List.getElem_cons_succ, List.getElem_cons_zero, List.setIfInBounds_toArray, List.set_cons_zero, List.set_cons_succ]
            refine wpAnyH_done (by kernel_rfl) ?_ _
            clear hH
            go_wp2
            have hCC := HCC.out
            subst hCC
            refine IsRE.ret1 (A := A4) (c := c4) (g := w.heap.size) (y := ⟨d, n8, (m : Nat), l⟩) (p := 2) (u1 := 3) ?_ ?_ ?_ ?_ HRZ.out HEE.out HFT.out HOZ.out HBZ.out
            all_goals rfl
          · have HE := Lib.hid (Rc.getE_form H40.out HCR.out HGE.out hj)
            have hq : ((j : Nat) : Int) < (b.length : Int) := by omega
            clear hj hjl
            go_wp2_with (first
              | (refine wpList_build_at rfl 27 _ rfl N hb0 ?_)
              | (refine wpList_store_row rfl _ _ _ rfl w.heap.size N rfl rfl 27 _ HR4.out hsz rfl hone ?_))
            exact IsRE.ret0 rfl hN rfl rfl rfl (Rw.row HR4.out N) HE.out rfl (below_setRow HB4.out (Nat.le_refl _) _)
        · have HE := Lib.hid (Rc.getE_row H40.out HCR.out HGE.out he)
          have hq : ((e : Int) != 0) = true := by rw [bne_iff_ne]; omega
          clear he
          go_wp2_with (first
            | (refine wpList_build_at rfl 27 _ rfl N hb0 ?_)
            | (refine wpList_store_row rfl _ _ _ rfl w.heap.size N rfl rfl 27 _ HR4.out hsz rfl hone ?_))
          exact IsRE.ret0 rfl hN rfl rfl rfl (Rw.row HR4.out N) HE.out rfl (below_setRow HB4.out (Nat.le_refl _) _)
end Go.Proofs.Ytkialijipcbgkaa
namespace Go.Proofs.Ytkialijipcbgkaa
open Go.RowKit
set_option linter.unusedVariables false

/-- A call that answers the constants, and turns nothing that was there. -/
def IsK (w : World) (e : Ending) (w' : World) : Prop := e = .returned (.agg kcells) ∧ Below w.heap.size w w'

set_option maxHeartbeats 1000000 in
set_option maxRecDepth 100000 in
theorem constants_any (w : World) : Calls Try.prog 103 #[] w (IsK w) := by
  go_enter Try.func103, Try.ntmps103
  go_wp2_with (first
    | (refine wpList_build_at rfl _ _ rfl kcells (by kernel_rfl) ?_)
    | (refine wpList_store_row rfl _ _ _ rfl w.heap.size kcells rfl rfl 138 _ (heap_alloc_new w _) (by rw [kcells_size]; exact size52) (by rw [kcells_size]; rfl) kcells_one ?_
       rw [World.setRow_alloc_new]))
  refine bodyPost_ret (v := .agg kcells) (results_cell_row rfl _ _ w.heap.size 138 _ (0, 0) _ rfl (heap_alloc_new w _) Try.underlying138 rfl (by rw [kcells_size]; exact size52)) rfl ⟨rfl, (Below.refl w.heap.size w).alloc (Nat.le_refl _) _⟩

set_option maxHeartbeats 1000000 in
set_option maxRecDepth 100000 in
theorem beginning_any (w : World) : Calls Try.prog 88 #[] w (IsSt Sh.begin w) := by
  go_enter Try.func88, Try.ntmps88
  go_wp2_with (first
    | (refine wpList_build_at rfl _ _ rfl (stv Sh.begin) (by kernel_rfl) ?_)
    | (refine wpList_store_row rfl _ _ _ rfl w.heap.size (stv Sh.begin) rfl rfl 100 _ (heap_alloc_new w _) (by rw [stv_size]; exact size23) (by rw [stv_size]; rfl) (stv_one _) ?_
       rw [World.setRow_alloc_new]))
  refine bodyPost_ret (v := .agg (stv Sh.begin)) (results_cell_row rfl _ _ w.heap.size 100 _ (0, 0) _ rfl (heap_alloc_new w _) Try.underlying100 rfl (by rw [stv_size]; exact size23)) rfl ⟨rfl, (Below.refl w.heap.size w).alloc (Nat.le_refl _) _⟩

set_option maxRecDepth 100000 in
theorem choice_any (x y z : Sh.W32) (w : World) : Calls Try.prog 114 #[.int .u32 (nt x : Nat), .int .u32 (nt y : Nat), .int .u32 (nt z : Nat)] w (IsW (Sh.ch x y z) w) := by
  have h1 := and_bv
  have h2 := or_bv
  go_enter Try.func114, Try.ntmps114
  go_wp2_with (refine wpList_notu rfl _ _ rfl _ rfl ?_)
  go_ret
  exact ⟨by rfl, rfl⟩
set_option maxRecDepth 100000 in
theorem majority_any (x y z : Sh.W32) (w : World) : Calls Try.prog 115 #[.int .u32 (nt x : Nat), .int .u32 (nt y : Nat), .int .u32 (nt z : Nat)] w (IsW (Sh.maj x y z) w) := by
  have h1 := and_bv
  have h2 := or_bv
  go_enter Try.func115, Try.ntmps115
  go_wp2
  go_ret
  exact ⟨by rfl, rfl⟩

/-- What turning answers: a function over the cell at g. -/
abbrev turner (g : Nat) : Value := .func (.func 121) #[] #[.pointer (some ⟨g, 0, none⟩)]
set_option maxRecDepth 100000 in
theorem turning_any (x : Sh.W32) (w : World) : Calls Try.prog 113 #[.int .u32 (nt x : Nat)] w (fun e w' => e = .returned (turner w.heap.size) ∧ w' = w.alloc (.cells #[.int .u32 (nt x : Nat)] 83)) := by
  have hmf : ∀ (fn : Fn) (first cap : Array Value) (w : World), (Instr.makeFunc fn first cap).run Try.prog w = .ok (.func fn first cap) w := fun _ _ _ _ => rfl
  go_enter Try.func113, Try.ntmps113
  go_wp2
  go_ret
  exact ⟨by rfl, rfl⟩
set_option maxHeartbeats 400000 in
set_option maxRecDepth 100000 in
theorem turn1_any (x : Sh.W32) (n g : Nat) (hn : n ≤ 32) (w : World) (hc : w.cell? ⟨g, 0, none⟩ = some (.int .u32 (nt x : Nat))) :
    Calls Try.prog 121 #[.int .u64 n, .pointer (some ⟨g, 0, none⟩)] w (IsW (Sh.rot x n) w) := by
  have h1 := shr_bv x n
  have h2 := shl_bv x (32 - n)
  have h3 := or_bv (x >>> n) (x <<< (32 - n))
  have h4 : ((32 : Int) - (n : Int)).toNat = 32 - n := by omega
  have h5 : (0 : Int) ≤ 32 - (n : Int) := by omega
  have h6 : ((32 : Int) - (n : Int)) % 18446744073709551616 = 32 - (n : Int) := by omega
  go_enter Try.func121, Try.ntmps121
  go_wp2
  go_ret
  exact ⟨by rfl, rfl⟩
end Go.Proofs.Ytkialijipcbgkaa
