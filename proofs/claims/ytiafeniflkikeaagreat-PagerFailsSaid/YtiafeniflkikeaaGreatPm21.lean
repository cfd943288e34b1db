/- Parts of the proof. -/
import Derived.Test.YtiafeniflkikeaaGreatPm13
import Derived.Test.YtiafeniflkikeaaGreatPm20
import Derived.Test.YtiafeniflkikeaaGreatPm18
import Derived.Test.YtiafeniflkikeaaGreatPm19
import Derived.Test.YtiafeniflkikeaaGreatPm11
import Derived.Test.YtiafeniflkikeaaGreatPm09
import Derived.Deep.RegionHeld3
import Derived.Test.YtiafeniflkikeaaGreatPm16
namespace Go.Proofs.YtiafeniflkikeaaGreat
open Go.RowKit
set_option linter.unusedVariables false
set_option maxHeartbeats 4000000 in
set_option maxRecDepth 100000 in
theorem ppgget_any (n : Int) (v : Value) (b : List Nat) (B : Nat) (w : World) (hv : Lv yK w B v b) (hB : B ≤ w.heap.size) :
    Calls Tryz.prog 109 #[.int .i64 n, v] w (IsKL (Pg.getE n b) w) := by
  have HM := Lib.hid (pmaybe_any n w)
  have HV := Lib.hid hv
  have HBB := Lib.hid hB
  have hb8 : ∀ x ∈ b, x < 256 := fun x hx => hv.ok_ x hx
  obtain ⟨A, c, rfl, k1, k2, -, -, hin⟩ := id hv
  have hll : b.length ≤ 9223372036854775807 := by simp only [maxLen] at k2; omega
  clear hB hv
  by_cases h0 : n < 0 ∨ 65536 ≤ n
  · have HE := Lib.hid (Pg.getE_arg (b := b) h0)
    have hd : decide (0 ≤ n ∧ n < 65536) = false := decide_eq_false (by omega)
    rw [hd] at HM
    clear hd h0 hin k1 k2
    go_enter Tryz.func109, Tryz.ntmps109
    go_wp2_with fail
    refine HM.out.mono ?_
    rintro e w1 ⟨rfl, rfl⟩
    go_wp2
    go_ret3
    exact IsKL.none_b HE.out rfl rfl (Below.refl _ _)
  have hd : decide (0 ≤ n ∧ n < 65536) = true := decide_eq_true (by omega)
  rw [hd] at HM
  by_cases h2 : b.length < 512
  · have HE := Lib.hid (Pg.getE_short h0 h2)
    have hi : (b.length : Int) < 512 := by omega
    clear hin k1 k2 h2 hd h0
    go_enter Tryz.func109, Tryz.ntmps109
    go_wp2_with fail
    refine HM.out.mono ?_
    rintro e w1 ⟨rfl, rfl⟩
    go_wp2
    go_ret3
    exact IsKL.none_b HE.out rfl rfl (Below.refl _ _)
  by_cases h3 : 512 < b.length
  · have HE := Lib.hid (Pg.getE_long h0 h2 h3)
    have hi : ¬ (b.length : Int) < 512 := by omega
    have hj : (512 : Int) < (b.length : Int) := by omega
    clear hin k1 k2 h2 h3 hd h0
    go_enter Tryz.func109, Tryz.ntmps109
    go_wp2_with fail
    refine HM.out.mono ?_
    rintro e w1 ⟨rfl, rfl⟩
    go_wp2
    go_ret3
    exact IsKL.none_b HE.out rfl rfl (Below.refl _ _)
  obtain ⟨bb, off, rfl, hbl, -⟩ := hin (by omega)
  have hlen : b.length = 512 := by omega
  have HL := Lib.hid hlen
  obtain ⟨N, rfl⟩ := Int.eq_ofNat_of_zero_le (show 0 ≤ n by omega)
  have hN : N < 65536 := by omega
  rw [hlen] at HV ⊢
  have hrg := bv_range HV.out.bv_ (by omega)
  have HG := Lib.hid h0
  have H2 : Hid (¬ b.length < 512 ∧ ¬ 512 < b.length) := ⟨h2, h3⟩
  have H8 := Lib.hid hb8
  obtain ⟨S, hS⟩ : ∃ S, four (Cr.of (b.drop 4)) = S := ⟨_, rfl⟩
  have HSL : Hid (S.length = 4) := by unfold Hid; rw [← hS]; rfl
  have HS8 : Hid (∀ x ∈ S, x < 256) := by unfold Hid; rw [← hS]; exact four_lt _
  have HSE := Lib.hid hS
  have HSM : Hid (∀ w, Calls Tryz.prog 117 #[.agg (bvs b)] w (fun e w' => e = .returned (.agg (bvs S)) ∧ Below w.heap.size w w')) := fun w => by rw [← hS]; exact pgsum_any b hlen hb8 w
  have HSZ : Hid (∀ w, Calls Tryz.prog 128 #[.agg (bvs b)] w (fun e w' => e = .returned (.int .i64 (Pg.size b : Nat)) ∧ Below w.heap.size w w')) := fun w => psize_any b hlen hb8 w
  have ht4l : (b.take 4).length = 4 := by rw [List.length_take]; omega
  have ht48 : ∀ x ∈ b.take 4, x < 256 := fun x hx => hb8 x (List.mem_of_mem_take hx)
  obtain ⟨q, hq⟩ : ∃ q, decide (b.take 4 = S) = q := ⟨_, rfl⟩
  have heq : ∀ w, (Op.equalIn 10000 167 (.agg (bvs (b.take 4))) (.agg (bvs S))).run Tryz.prog w = .ok q w := fun w => by rw [← hq]; exact equal4b ht4l HSL.out ht48 HS8.out w
  have HQ := Lib.hid hq
  have HC4 := Lib.hid (size4l ht4l)
  have HCS := Lib.hid (size4l HSL.out)
  have HOS := Lib.hid (bvs_one S)
  have HCB := Lib.hid (size512l hlen)
  have HOB := Lib.hid (bvs_one b)
  have HZL : Hid (none512.size = (bvs b).size) := by unfold Hid; rw [none512_size, bvs_size, hlen]
  have HNS := Lib.hid none512_size
  have hz := zero512V
  obtain ⟨Z, hZ⟩ : ∃ Z, none512 = Z := ⟨_, rfl⟩
  rw [hZ] at hz HNS HZL
  obtain ⟨D, hD⟩ : ∃ D, bvs b = D := ⟨_, rfl⟩
  obtain ⟨T, hT⟩ : ∃ D, bvs (b.take 4) = D := ⟨_, rfl⟩
  obtain ⟨E, hE⟩ : ∃ D, bvs S = D := ⟨_, rfl⟩
  have HDE := Lib.hid hD
  have HTE := Lib.hid hT
  have HEE := Lib.hid hE
  rw [hD] at hrg HSM HSZ HCB HOB HZL
  rw [hE] at HSM heq HCS HOS
  rw [hT] at heq HC4
  have hZE : Hid ((#[.int .u8 0, .int .u8 0, .int .u8 0, .int .u8 0] : Array Value).size = E.size) := by unfold Hid; rw [← hE, bvs_size, HSL.out]; rfl
  have har := fun w => arr512_at ⟨bb, off, none⟩ c w
  have h2i : ¬ (512 : Int) < 512 := by omega
  have hcm : (512 : Int) ≤ (c : Int) := by omega
  have HBL := Lib.hid hbl
  clear k1 k2 h2 h3 hb8 hlen hS hq hZ hD hT hE ht4l ht48 hll hd h0 hbl
  go_enter Tryz.func109, Tryz.ntmps109
  go_wp2_with fail
  refine HM.out.mono ?_
  rintro e w1 ⟨rfl, rfl⟩
  go_wp2_with (first
    | (refine wpList_load_midA rfl 164 _ rfl bb off rfl D _ hrg Tryz.underlying164 rfl HCB.out ?_)
    | (refine wpList_store_row rfl _ _ _ rfl w1.heap.size D rfl rfl 164 _ (heap_alloc_new w1 _) HCB.out HZL.out HOB.out ?_
       rw [World.setRow_alloc_new])
    | (refine wpList_load_row rfl _ _ rfl w1.heap.size rfl 164 D (0, 0) _ (heap_alloc_new w1 _) Tryz.underlying164 rfl HCB.out ?_))
  generalize hX : w1.alloc (.cells D 164) = X
  have HX0 : Hid (Rw X w1.heap.size 164 D) := by unfold Hid; rw [← hX]; exact Rw.new _ _ _
  have HBX : Hid (Below w1.heap.size w1 X) := by unfold Hid; rw [← hX]; exact (Below.refl _ _).alloc (Nat.le_refl _) _
  clear hX hrg hz HM har
  refine (HSM.out X).mono ?_
  rintro e w2 ⟨rfl, b2⟩
  have HD2 : Hid (Rw w2 w1.heap.size 164 D) := HX0.out.below b2 HX0.out.lt
  have HB2 : Hid (Below w1.heap.size w1 w2) := HBX.out.trans (b2.mono HBX.out.size)
  clear b2 HX0 HBX HSM
  go_wp2_with (refine wpList_store_row rfl _ _ _ rfl w2.heap.size E rfl rfl 167 _ (heap_alloc_new w2 _) HCS.out hZE.out HOS.out ?_
               rw [World.setRow_alloc_new])
  generalize hY : w2.alloc (.cells E 167) = Y
  have HDY : Hid (Rw Y w1.heap.size 164 D) := by unfold Hid; rw [← hY]; exact HD2.out.old _
  have HEY : Hid (Rw Y w2.heap.size 167 E) := by unfold Hid; rw [← hY]; exact Rw.new _ _ _
  have HBY : Hid (Below w1.heap.size w1 Y) := by unfold Hid; rw [← hY]; exact HB2.out.alloc HB2.out.size _
  clear hY HD2
  have HRT : Hid (∀ w' g, Rw w' g 164 D → w'.rangeAt g 0 T.toList) := fun w' g h => by
    rw [← HDE.out] at h
    have hl := HL.out
    have h2 := h.bv_ H8.out (k := 0) (m := 4) (c := 4) (B := g + 1) (by omega) (Nat.le_refl _) (by simp [maxLen]) (Nat.lt_succ_self _)
    rw [List.drop_zero] at h2
    rw [← HTE.out]
    exact bv_range h2 (by rw [List.length_take]; omega)
  have har := fun w => arr4c_at ⟨w1.heap.size, 0, none⟩ 512 w
  have hS0 : Rw Y.drew w1.heap.size 164 D ∧ Rw Y.drew w2.heap.size 167 E ∧ Below w1.heap.size w1 Y.drew := ⟨HDY.out.drew, HEY.out.drew, HBY.out.drew⟩
  refine wp_region_held_drew (S := fun w' => Rw w' w1.heap.size 164 D ∧ Rw w' w2.heap.size 167 E ∧ Below w1.heap.size w1 w') (by kernel_rfl) hS0 (fun hH => ?_)
  refine zH (i := 0) (v := ?_) rfl (by kernel_rfl) (fun _ _ _ h => h) (Or.inl ⟨by rfl, (by intro w' hSw; go_simp; first | done | with_reducible rfl)⟩) hH ?_
  try simp only [Act.put, zA, zC, zD, zE, zF]
  refine zH (i := 1) (v := ?_) rfl (by kernel_rfl) (fun _ _ _ h => h) (Or.inl ⟨by rfl, (by intro w' hSw; go_simp; first | done | with_reducible rfl)⟩) hH ?_
  try simp only [Act.put, zA, zB, zC, zD, zE, zF]
  refine zH (i := 2) (v := .agg T) rfl (by kernel_rfl) (fun _ _ _ h => h) (Or.inl ⟨by rfl, fun w' hSw => exec_load_mid _ _ rfl w1.heap.size 0 rfl T _ w' (HRT.out w' _ hSw.1) Tryz.underlying167 rfl HC4.out⟩) hH ?_
  try simp only [Act.put, zA, zB, zC, zD, zE, zF]
  refine zH (i := 3) (v := .agg E) rfl (by kernel_rfl) (fun _ _ _ h => h) (Or.inl ⟨by rfl, fun w' hSw => exec_load_row _ _ rfl w2.heap.size rfl 167 E (0, 0) _ w' hSw.2.1 Tryz.underlying167 rfl HCS.out⟩) hH ?_
  try simp only [Act.put, zA, zB, zC, zD, zE, zF]
  refine zH (i := 4) (v := ?_) rfl (by kernel_rfl) (fun _ _ _ h => h) (Or.inl ⟨by rfl, (by intro w' hSw; go_simp; first | done | with_reducible rfl)⟩) hH ?_
  try simp only [Act.put, zA, zB, zC, zD, zE, zF]
  refine wpAnyH_done (by kernel_rfl) ?_ _
  clear hH har heq HRT HTE HC4
  obtain ⟨hV1, hV2, hV3⟩ := hS0
  generalize Y.drew = V at *
  have HDV := Lib.hid hV1
  have HEV := Lib.hid hV2
  have HBV := Lib.hid hV3
  clear hV1 hV2 hV3 HDY HEY HBY hin
  cases q with
  | false =>
    have HE : Hid (Pg.getE (N : Int) b = (0, [], 6)) := Pg.getE_sum HG.out H2.out.1 H2.out.2 (by rw [HSE.out]; exact of_decide_eq_false HQ.out)
    go_wp2
    go_ret3
    exact IsKL.none_b HE.out rfl rfl HBV.out
  | true =>
    have HTS : Hid (b.take 4 = S) := by unfold Hid; exact of_decide_eq_true HQ.out
    have H3 : Hid (b.take 4 = four (Cr.of (b.drop 4))) := by unfold Hid; rw [HSE.out]; exact HTS.out
    obtain ⟨m, hm⟩ : ∃ m, Pg.size b = m := ⟨_, rfl⟩
    rw [hm] at HSZ
    have HSIZE := Lib.hid hm
    have hm2 : m < 65536 := by
      rw [← hm]
      have h10 : b.getD 10 0 < 256 := by
        rw [List.getD_eq_getElem?_getD]; cases hq : b[10]? with
        | none => simp
        | some y => exact H8.out y (List.mem_of_getElem? hq)
      have h11 : b.getD 11 0 < 256 := by
        rw [List.getD_eq_getElem?_getD]; cases hq : b[11]? with
        | none => simp
        | some y => exact H8.out y (List.mem_of_getElem? hq)
      unfold Pg.size; omega
    clear hm
    go_wp2_with (refine wpList_load_row rfl _ _ rfl w1.heap.size rfl 164 D (0, 0) _ HDV.out Tryz.underlying164 rfl HCB.out ?_)
    refine (HSZ.out V).mono ?_
    rintro e w3 ⟨rfl, b3⟩
    have HD3 : Hid (Rw w3 w1.heap.size 164 D) := HDV.out.below b3 HDV.out.lt
    have HE3 : Hid (Rw w3 w2.heap.size 167 E) := HEV.out.below b3 HEV.out.lt
    have HB3 : Hid (Below w1.heap.size w1 w3) := HBV.out.trans (b3.mono HBV.out.size)
    clear b3 HDV HEV HBV HSZ
    by_cases h4 : 496 < m
    · have h4i : (496 : Int) < (m : Int) := by omega
      have HE : Hid (Pg.getE (N : Int) b = (0, [], 5)) := Pg.getE_size HG.out H2.out.1 H2.out.2 H3.out (by rw [HSIZE.out]; exact h4)
      go_wp2
      go_ret3
      exact IsKL.none_b HE.out rfl rfl HB3.out
    · have h4i : ¬ (496 : Int) < (m : Int) := by omega
      have H4 : Hid (¬ 496 < Pg.size b) := by unfold Hid; rw [HSIZE.out]; exact h4
      have HM4 : Hid (m ≤ 496) := by unfold Hid; omega
      have hl := HL.out
      obtain ⟨x8, hx8⟩ : ∃ y, b[8]? = some y := ⟨_, List.getElem?_eq_getElem (by omega)⟩
      have HK8 : Hid (x8 < 256) := H8.out _ (List.mem_of_getElem? hx8)
      have HY8 : Hid (b.getD 8 0 = x8) := by unfold Hid; rw [List.getD_eq_getElem?_getD, hx8]; rfl
      have HC8 : Hid (∀ w', Rw w' w1.heap.size 164 D → w'.cell? ⟨w1.heap.size, 8, none⟩ = some (.int .u8 (x8 : Nat))) := fun w' h => by rw [← HDE.out] at h; exact h.byte hx8
      have hbd : (b.drop 12).take m = Pg.body b := by unfold Pg.body; rw [HSIZE.out]
      have hbl : (Pg.body b).length = m := by rw [← hbd, List.length_take, List.length_drop]; omega
      have hb8 : ∀ x ∈ Pg.body b, x < 256 := fun x hx => by rw [← hbd] at hx; exact H8.out x (List.mem_of_mem_drop (List.mem_of_mem_take hx))
      obtain ⟨y, hy⟩ : ∃ y, Pg.body b = y := ⟨_, rfl⟩
      rw [hy] at hbd hbl hb8
      have HYB := Lib.hid hy
      have HBL := Lib.hid hbl
      have HYL := Lib.hid hb8
      have HLV : Hid (∀ w', Rw w' w1.heap.size 164 D → Lv yK w' w'.heap.size (.slice (some ⟨w1.heap.size, 12, none⟩) m 500) y) := fun w' h => by
        rw [← HDE.out] at h
        have h2 := h.bv_ H8.out (k := 12) (m := m) (c := 500) (B := w'.heap.size) (by omega) (by omega) (by simp [maxLen]) h.lt
        rw [hbd] at h2
        exact h2.lv_
      have w4 : IntKind.i64.wrap (12 + (m : Int)) = 12 + (m : Int) := by rw [IntKind.wrap_i64]; omega
      have w5 : (12 : Int) ≤ 12 + (m : Int) := by omega
      have w6 : 12 + (m : Int) ≤ 512 := by omega
      have w7 : (0 : Int) ≤ 12 + (m : Int) := by omega
      have w8 : (12 + (m : Int)).toNat = 12 + m := by omega
      clear hx8 hbd hbl hb8 hy hl h4 hm2
      go_wp2
      have hS0 : Rw w3.drew w1.heap.size 164 D ∧ Rw w3.drew w2.heap.size 167 E ∧ Below w1.heap.size w1 w3.drew := ⟨HD3.out.drew, HE3.out.drew, HB3.out.drew⟩
      refine wp_region_held_drew (S := fun w' => Rw w' w1.heap.size 164 D ∧ Rw w' w2.heap.size 167 E ∧ Below w1.heap.size w1 w') (by kernel_rfl) hS0 (fun hH => ?_)
      refine zH (i := 0) (v := ?_) rfl (by kernel_rfl) (fun _ _ _ h => h) (Or.inl ⟨by rfl, (by intro w' hSw; go_simp; first | done | with_reducible rfl)⟩) hH ?_
      try simp only [Act.put, zA, zC, zD, zE, zF]
      refine zH (i := 1) (v := ?_) rfl (by kernel_rfl) (fun _ _ _ h => h) (Or.inl ⟨by rfl, (by intro w' hSw; have s1 := HC8.out w' hSw.1; go_simp; first | done | with_reducible rfl)⟩) hH ?_
      try simp only [Act.put, zA, zB, zC, zD, zE, zF]
      refine zH (i := 2) (v := ?_) rfl (by kernel_rfl) (fun _ _ _ h => h) (Or.inl ⟨by rfl, (by intro w' hSw; go_simp; first | done | with_reducible rfl)⟩) hH ?_
      try simp only [Act.put, zA, zB, zC, zD, zE, zF]
      refine zH (i := 3) (v := ?_) rfl (by kernel_rfl) (fun _ _ _ h => h) (Or.inl ⟨by rfl, (by intro w' hSw; go_simp; first | done | with_reducible rfl)⟩) hH ?_
      try simp only [Act.put, zA, zB, zC, zD, zE, zF]
      refine zH (i := 4) (v := ?_) rfl (by kernel_rfl) (fun _ _ _ h => h) (Or.inl ⟨by rfl, (by intro w' hSw; go_simp; first | done | with_reducible rfl)⟩) hH ?_
      try simp only [Act.put, zA, zB, zC, zD, zE, zF]
      have HCL := Lib.hid (psclone_any _ y _ w3.drew (HLV.out _ hS0.1) (Nat.le_refl _) (by rw [HBL.out]; have := HM4.out; omega))
      refine wpAnyH_ready (rs := [5]) (by kernel_rfl) (by simp) ?_
      refine AllReadyH.cons rfl (fun K hK => ?_) AllReadyH.nil
      go_simp
      refine HCL.out.mono ?_
      rintro e x1 ⟨A4, c4, rfl, o4, b4⟩
      have hS1 : Rw x1 w1.heap.size 164 D ∧ Rw x1 w2.heap.size 167 E ∧ Below w1.heap.size w1 x1 := ⟨hS0.1.below b4 hS0.1.lt, hS0.2.1.below b4 hS0.2.1.lt, hS0.2.2.trans (b4.mono hS0.2.2.size)⟩
      have HO4 : Hid (OwnL yK x1 w1.heap.size (.slice A4 y.length c4) y) := o4.mono_ hS0.2.2.size
      refine hK.out _ _ hS1 (fun hH => ?_)
      clear hK K hS0 b4 o4 HCL HD3 HE3 HB3 HLV HC8
      try simp only [Act.put, zA, zB, zC, zD, zE, zF]
      refine zH (i := 6) (v := ?_) rfl (by kernel_rfl) (fun _ _ _ h => h) (Or.inl ⟨by rfl, (by intro w' hSw; go_simp; first | done | with_reducible rfl)⟩) hH ?_
      try simp only [Act.put, zA, zB, zC, zD, zE, zF]
      refine zH (i := 7) (v := ?_) rfl (by kernel_rfl) (fun _ _ _ h => h) (Or.inl ⟨by rfl, (by intro w' hSw; go_simp; first | done | with_reducible rfl)⟩) hH ?_
      try simp only [Act.put, zA, zB, zC, zD, zE, zF]
      refine wpAnyH_done (by kernel_rfl) ?_ _
      clear hH w4 w5 w6 w7 w8
      have hyl : y.length ≤ 496 := by rw [HBL.out]; exact HM4.out
      have HU := Lib.hid (punsummed_any N x8 _ y x1.heap.size x1.drew hN HK8.out (HO4.out.form_.drew_) (Nat.le_refl _) hyl)
      have hrl : ([0, 0, 0, 0] ++ Pg.rest N x8 y).length = 512 := by rw [List.length_append, Pg.rest_len hyl]; rfl
      have hr8 : ∀ x ∈ Pg.rest N x8 y, x < 256 := Pg.rest_lt HK8.out HYL.out
      have HSD : Hid (∀ w, Calls Tryz.prog 116 #[.agg (bvs ([0, 0, 0, 0] ++ Pg.rest N x8 y)), .agg E] w (fun e w' => e = .returned (.agg (bvs (S ++ Pg.rest N x8 y))) ∧ Below w.heap.size w w')) := fun w => by
        have h := psummed_any ([0, 0, 0, 0] ++ Pg.rest N x8 y) S hrl HSL.out HS8.out w
        rwa [pu_front (b := [0, 0, 0, 0]) (by rw [HSL.out]; rfl), HEE.out] at h
      obtain ⟨q2, hq2⟩ : ∃ q, decide (b = S ++ Pg.rest N x8 y) = q := ⟨_, rfl⟩
      have heq2 : ∀ w, (Op.equalIn 10000 164 (.agg D) (.agg (bvs (S ++ Pg.rest N x8 y)))).run Tryz.prog w = .ok q2 w := fun w => by
        rw [← HDE.out, ← hq2]
        refine equal512 HL.out ?_ H8.out (fun x hx => ?_) w
        · rw [List.length_append, HSL.out, Pg.rest_len hyl]
        · rcases List.mem_append.1 hx with h | h
          · exact HS8.out x h
          · exact hr8 x h
      have HPI : Hid ((q2 = true) ↔ Pg.page N x8 y = b) := by
        unfold Hid; rw [← hq2, decide_eq_true_iff]; exact Pg.page_iff HTS.out HSE.out.symm
      obtain ⟨F, hF⟩ : ∃ F, bvs ([0, 0, 0, 0] ++ Pg.rest N x8 y) = F := ⟨_, rfl⟩
      obtain ⟨G, hG⟩ : ∃ F, bvs (S ++ Pg.rest N x8 y) = F := ⟨_, rfl⟩
      rw [hF] at HU HSD
      rw [hG] at HSD heq2
      have hS2 : Rw x1.drew w1.heap.size 164 D ∧ Rw x1.drew w2.heap.size 167 E ∧ Below w1.heap.size w1 x1.drew := ⟨hS1.1.drew, hS1.2.1.drew, hS1.2.2.drew⟩
      have HO5 : Hid (OwnL yK x1.drew w1.heap.size (.slice A4 y.length c4) y) := HO4.out.drew_
      clear hrl hr8 hq2 hF hG hyl hS1 HO4
      go_wp2
      refine wp_region_held_drew (S := fun w' => Rw w' w1.heap.size 164 D ∧ Rw w' w2.heap.size 167 E ∧ Below w1.heap.size w1 w') (by kernel_rfl) hS2 (fun hH => ?_)
      refine zH (i := 0) (v := .agg D) rfl (by kernel_rfl) (fun _ _ _ h => h) (Or.inl ⟨by rfl, fun w' hSw => exec_load_row _ _ rfl w1.heap.size rfl 164 D (0, 0) _ w' hSw.1 Tryz.underlying164 rfl HCB.out⟩) hH ?_
      try simp only [Act.put, zA, zC, zD, zE, zF]
      refine zH (i := 1) (v := ?_) rfl (by kernel_rfl) (fun _ _ _ h => h) (Or.inl ⟨by rfl, (by intro w' hSw; go_simp; first | done | with_reducible rfl)⟩) hH ?_
      try simp only [Act.put, zA, zB, zC, zD, zE, zF]
      refine zH (i := 2) (v := ?_) rfl (by kernel_rfl) (fun _ _ _ h => h) (Or.inl ⟨by rfl, (by intro w' hSw; go_simp; first | done | with_reducible rfl)⟩) hH ?_
      try simp only [Act.put, zA, zB, zC, zD, zE, zF]
      refine zH (i := 3) (v := ?_) rfl (by kernel_rfl) (fun _ _ _ h => h) (Or.inl ⟨by rfl, (by intro w' hSw; go_simp; first | done | with_reducible rfl)⟩) hH ?_
      try simp only [Act.put, zA, zB, zC, zD, zE, zF]
      refine zH (i := 5) (v := .agg E) rfl (by kernel_rfl) (fun _ _ _ h => h) (Or.inl ⟨by rfl, fun w' hSw => exec_load_row _ _ rfl w2.heap.size rfl 167 E (0, 0) _ w' hSw.2.1 Tryz.underlying167 rfl HCS.out⟩) hH ?_
      try simp only [Act.put, zA, zB, zC, zD, zE, zF]
      refine wpAnyH_ready (rs := [4]) (by kernel_rfl) (by simp) ?_
      refine AllReadyH.cons rfl (fun K hK => ?_) AllReadyH.nil
      go_simp
      refine HU.out.mono ?_
      rintro e x2 ⟨rfl, b5⟩
      have hS3 : Rw x2 w1.heap.size 164 D ∧ Rw x2 w2.heap.size 167 E ∧ Below w1.heap.size w1 x2 := ⟨hS2.1.below b5 hS2.1.lt, hS2.2.1.below b5 hS2.2.1.lt, hS2.2.2.trans (b5.mono hS2.2.2.size)⟩
      have HO6 := Lib.hid (HO5.out.below_ b5 (Nat.le_refl _))
      refine hK.out _ _ hS3 (fun hH => ?_)
      clear hK K hS2 b5 HO5 HU
      try simp only [Act.put, zA, zB, zC, zD, zE, zF]
      refine wpAnyH_ready (rs := [6]) (by kernel_rfl) (by simp) ?_
      refine AllReadyH.cons rfl (fun K hK => ?_) AllReadyH.nil
      go_simp
      refine (HSD.out x2).mono ?_
      rintro e x3 ⟨rfl, b6⟩
      have hS4 : Rw x3 w1.heap.size 164 D ∧ Rw x3 w2.heap.size 167 E ∧ Below w1.heap.size w1 x3 := ⟨hS3.1.below b6 hS3.1.lt, hS3.2.1.below b6 hS3.2.1.lt, hS3.2.2.trans (b6.mono hS3.2.2.size)⟩
      have HO7 := Lib.hid (HO6.out.below_ b6 (Nat.le_refl _))
      have HB7 := Lib.hid hS4.2.2
      refine hK.out _ _ hS4 (fun hH => ?_)
      clear hK K hS3 b6 HO6 HSD hS4
      try simp only [Act.put, zA, zB, zC, zD, zE, zF]
      refine zH (i := 7) (v := ?_) rfl (by kernel_rfl) (fun _ _ _ h => h) (Or.inl ⟨by rfl, (by intro w' hSw; go_simp; first | done | with_reducible rfl)⟩) hH ?_
      try simp only [Act.put, zA, zB, zC, zD, zE, zF]
      refine wpAnyH_done (by kernel_rfl) ?_ _
      clear hH heq2
      cases q2 with
      | false =>
        have HE : Hid (Pg.getE (N : Int) b = (0, [], 5)) := Pg.getE_form HG.out H2.out.1 H2.out.2 H3.out H4.out (by rw [HY8.out, HYB.out, Int.toNat_natCast]; exact fun h => by have := HPI.out.2 h; cases this)
        go_wp2
        go_ret3
        exact IsKL.none_b HE.out rfl rfl HB7.out
      | true =>
        have HE : Hid (Pg.getE (N : Int) b = (x8, y, 0)) := by
          have := Pg.getE_ok (n := (N : Int)) HG.out H2.out.1 H2.out.2 H3.out H4.out (by rw [HY8.out, HYB.out, Int.toNat_natCast]; exact HPI.out.1 rfl)
          rwa [HY8.out, HYB.out] at this
        go_wp2
        go_ret3
        exact IsKL.of HE.out rfl rfl HO7.out HB7.out
end Go.Proofs.YtiafeniflkikeaaGreat

namespace Go.Proofs.YtiafeniflkikeaaGreat
open Go.RowKit
set_option linter.unusedVariables false
set_option maxHeartbeats 1000000 in
set_option maxRecDepth 100000 in
theorem prtput_any (r : Rt.Root) (w : World) (hf : Rt.Fit r) : Calls Tryz.prog 65 #[.agg (rtC r)] w (IsVE (Rt.putE r) w) := by
 obtain ⟨W, hW⟩ : ∃ W, w.alloc (.cells (rtC r) 34) = W := ⟨_, rfl⟩
 obtain ⟨hx, hb⟩ := bxt_new hW
 have HB := Lib.hid hb
 have HX1 := Lib.hid hx
 have HM := Lib.hid (prtmay_any r W hf)
 have hsz : (Tryz.prog.info? 34).map (·.size) = some (rtC r).size := rt_size
 by_cases hm : Rt.May r
 ·have HDM : Hid (decide (Rt.May r) = true) := decide_eq_true hm
  rw [HDM.out] at HM
  have HE : Hid (Rt.putE r = Pg.putE ((r.seq % 2 : Nat) : Int) 1 (Rt.bys (Rt.nums r))) := by unfold Hid Rt.putE; rw [if_pos hm]
  have HPL : Hid (∀ w', Calls Tryz.prog 67 #[.agg (rtC r)] w' (fun e w'' => e = .returned (.int .i64 ((r.seq % 2 : Nat) : Int)) ∧ Below w'.heap.size w' w'')) := fun w' => prtplace_any r w' hf
  have HLY : Hid (∀ w', Calls Tryz.prog 91 #[.agg (rtC r)] w' (IsL1 yK (Rt.bys (Rt.nums r)) w')) := fun w' => prtlay_any r w' hm
  obtain ⟨m, hmm⟩ : ∃ m : Int, ((r.seq % 2 : Nat) : Int) = m := ⟨_, rfl⟩
  obtain ⟨l, hl⟩ : ∃ l, Rt.bys (Rt.nums r) = l := ⟨_, rfl⟩
  obtain ⟨D, hD⟩ : ∃ D, rtC r = D := ⟨_, rfl⟩
  rw [hmm, hl] at HE
  rw [hmm, hD] at HPL
  rw [hl, hD] at HLY
  rw [HE.out]
  rw [hD] at HM hW HX1 hsz ⊢
  obtain ⟨⟨P, q⟩, hP⟩ : ∃ x, Pg.putE m 1 l = x := ⟨_, rfl⟩
  have HPG : Hid (∀ v w', Lv yK w' w'.heap.size v l → Calls Tryz.prog 90 #[.int .i64 m, .int .u8 1, v] w' (IsVE (P, q) w')) := fun v w' h => by rw [← hP]; exact ppgput_any m 1 v l w'.heap.size w' (by omega) h (Nat.le_refl _)
  rw [hP]
  clear hx hb hf hD hm HDM hmm hl hP HE
  go_enter Tryz.func65, Tryz.ntmps65
  go_wp2_with (first
   | (refine wpList_load_row rfl _ _ rfl w.heap.size rfl 34 D (0, 0) _ HX1.out.2 Tryz.underlying34 rfl (by rw [hsz]) ?_))
  refine (HM.out).mono ?_
  rintro e w1 ⟨rfl, b1⟩
  have HB1 := Lib.hid (HB.out.trans (b1.mono HB.out.size))
  have HX2 : Hid (Rw w1 w.heap.size 34 D) := HX1.out.2.below b1 HX1.out.1
  clear HM b1 hW HX1 HB
  go_wp2
  refine wp_region_held_drew (S := fun x => Rw x w.heap.size 34 D ∧ Below w1.heap.size w1 x) (by kernel_rfl) ⟨HX2.out.drew, (Below.refl _ _).drew⟩ (fun hH => ?_)
  refine zH (i := 0) (v := .agg D) rfl (by kernel_rfl) (fun _ _ _ h => h) (Or.inl ⟨by rfl, fun w' hSw => exec_load_row _ _ rfl w.heap.size rfl 34 D (0, 0) _ w' hSw.1 Tryz.underlying34 rfl (by rw [hsz])⟩) hH ?_
  try simp only [Act.put, zA, zC, zD, zE, zF]
  refine zH (i := 2) (v := .agg D) rfl (by kernel_rfl) (fun _ _ _ h => h) (Or.inl ⟨by rfl, fun w' hSw => exec_load_row _ _ rfl w.heap.size rfl 34 D (0, 0) _ w' hSw.1 Tryz.underlying34 rfl (by rw [hsz])⟩) hH ?_
  try simp only [Act.put, zA, zB, zC, zD, zE, zF]
  refine wpAnyH_ready (rs := [1]) (by kernel_rfl) (by simp) ?_
  refine AllReadyH.cons rfl (fun K hK => ?_) AllReadyH.nil
  go_simp
  refine (HPL.out _).mono ?_
  rintro e w2 ⟨rfl, b2⟩
  have HC2 : Hid (Below w1.heap.size w1 w2) := (Below.refl w1.heap.size w1).drew.trans b2
  have s2 : Rw w2 w.heap.size 34 D ∧ Below w1.heap.size w1 w2 := ⟨HX2.out.below HC2.out HX2.out.lt, HC2.out⟩
  clear b2 HPL
  refine hK.out _ _ s2 (fun hH => ?_)
  clear hK K s2
  try simp only [Act.put, zA, zB, zC, zD, zE, zF]
  refine wpAnyH_ready (rs := [3]) (by kernel_rfl) (by simp) ?_
  refine AllReadyH.cons rfl (fun K hK => ?_) AllReadyH.nil
  go_simp
  refine (HLY.out _).mono ?_
  rintro e w3 ⟨A3, c3, rfl, o3, b3⟩
  have HC3 : Hid (Below w1.heap.size w1 w3) := HC2.out.trans (b3.mono HC2.out.size)
  have s3 : Rw w3 w.heap.size 34 D ∧ Below w1.heap.size w1 w3 := ⟨HX2.out.below HC3.out HX2.out.lt, HC3.out⟩
  have HPG3 := Lib.hid (HPG.out _ w3 o3.form_)
  clear b3 o3 HLY HPG
  refine hK.out _ _ s3 (fun hH => ?_)
  clear hK K s3
  try simp only [Act.put, zA, zB, zC, zD, zE, zF]
  refine wpAnyH_ready (rs := [4]) (by kernel_rfl) (by simp) ?_
  refine AllReadyH.cons rfl (fun K hK => ?_) AllReadyH.nil
  go_simp
  refine HPG3.out.mono ?_
  rintro e w4 ⟨A4, c4, rfl, o4, b4⟩
  have HC4 : Hid (Below w1.heap.size w1 w4) := HC3.out.trans (b4.mono HC3.out.size)
  have s4 : Rw w4 w.heap.size 34 D ∧ Below w1.heap.size w1 w4 := ⟨HX2.out.below HC4.out HX2.out.lt, HC4.out⟩
  have HO4 : Hid (OwnV w4 w.heap.size (.slice A4 P.length c4) P) := o4.mono_ (Nat.le_trans HB1.out.size HC3.out.size)
  clear b4 o4 HPG3
  refine hK.out _ _ s4 (fun hH => ?_)
  clear hK K s4
  try simp only []
  refine zH (i := 5) (v := ?_) rfl (by kernel_rfl) (fun _ _ _ h => h) (Or.inl ⟨by rfl, (by intro w' hSw; go_simp; first | done | with_reducible rfl)⟩) hH ?_
  try simp only [Act.put, zA, zB, zC, zD, zE, zF]
  refine zH (i := 6) (v := ?_) rfl (by kernel_rfl) (fun _ _ _ h => h) (Or.inl ⟨by rfl, (by intro w' hSw; go_simp; first | done | with_reducible rfl)⟩) hH ?_
  try simp only [Act.put, zA, zB, zC, zD, zE, zF]
  refine zH (i := 7) (v := ?_) rfl (by kernel_rfl) (fun _ _ _ h => h) (Or.inl ⟨by rfl, (by intro w' hSw; go_simp; first | done | with_reducible rfl)⟩) hH ?_
  try simp only [Act.put, zA, zB, zC, zD, zE, zF]
  refine zH (i := 8) (v := ?_) rfl (by kernel_rfl) (fun _ _ _ h => h) (Or.inl ⟨by rfl, (by intro w' hSw; go_simp; first | done | with_reducible rfl)⟩) hH ?_
  try simp only [Act.put, zA, zB, zC, zD, zE, zF]
  refine wpAnyH_done (by kernel_rfl) ?_ _
  clear hH
  go_wp2
  go_ret2
  exact ⟨A4, c4, rfl, HO4.out, HB1.out.trans (HC4.out.mono HB1.out.size)⟩
 ·have HDM : Hid (decide (Rt.May r) = false) := decide_eq_false hm
  rw [HDM.out] at HM
  have HE := Lib.hid (Rt.putE_no hm)
  obtain ⟨D, hD⟩ : ∃ D, rtC r = D := ⟨_, rfl⟩
  rw [hD] at HM hW HX1 hsz ⊢
  clear hx hb hf hD hm HDM
  go_enter Tryz.func65, Tryz.ntmps65
  go_wp2_with (first
   | (refine wpList_load_row rfl _ _ rfl w.heap.size rfl 34 D (0, 0) _ HX1.out.2 Tryz.underlying34 rfl (by rw [hsz]) ?_))
  refine (HM.out).mono ?_
  rintro e w1 ⟨rfl, b1⟩
  have HB1 := Lib.hid (HB.out.trans (b1.mono HB.out.size))
  clear HM b1 hW
  go_wp2
  go_ret2
  exact IsVE.none_b HE.out rfl HB1.out
end Go.Proofs.YtiafeniflkikeaaGreat
namespace Go.Proofs.YtiafeniflkikeaaGreat.Sf
open Go.RowKit
set_option linter.unusedVariables false
theorem took_le (l : List Int) (n : Nat) : took l (n + 1) ≤ n := by
 cases l with
 | nil => exact Nat.zero_le _
 | cons x r =>
  show left x (n + 1) ≤ n
  unfold left
  have h : (x % 18446744073709551616).toNat % (n + 1) < n + 1 := Nat.mod_lt _ (by omega)
  omega
theorem kept1_cases (f : File) (l : List Int) :
  (∃ k, k ≤ f.row.length ∧ (kept1 f l).1 = bytes f k) ∨
  (∃ k a m, f.row[k]? = some a ∧ a.cut = false ∧ m ≤ a.b.length ∧ (kept1 f l).1 = torn (bytes f k) a m) := by
 have hk := took_le l f.row.length
 unfold kept1
 generalize took l (f.row.length + 1) = k at hk ⊢
 cases hr : f.row[k]? with
 | none => exact .inl ⟨k, hk, rfl⟩
 | some a =>
  cases hc : a.cut with
  | true => exact .inl ⟨k, hk, by simp [hc]⟩
  | false => exact .inr ⟨k, a, took (l.drop 1) (a.b.length + 1), hr, hc, took_le _ _, by simp [hc]⟩
theorem kept1_none (s : List Nat) (l : List Int) : (kept1 ⟨s, []⟩ l).1 = s := by
 rcases kept1_cases ⟨s, []⟩ l with ⟨k, hk, h⟩ | ⟨k, a, m, h, _⟩
 ·rw [h]; simp [bytes]
 ·simp at h
theorem kept_len (t : St) : ∀ (d : Dir) (l : List Int), (kept t d l).length = d.length
 | [], _ => rfl
 | e :: d, l => by rw [kept, List.length_cons, kept_len t d, List.length_cons]
theorem kept_at (t : St) : ∀ (d : Dir) (l : List Int) (i : Nat) (e : ByteArray × Nat), d[i]? = some e → ∃ l', (kept t d l)[i]? = some (kept1 (fileAt t e.2) l').1
 | [], _, i, e, h => by simp at h
 | x :: d, l, 0, e, h => by
  simp at h
  subst h
  exact ⟨l, by rw [kept]; rfl⟩
 | x :: d, l, i + 1, e, h => by
  rw [List.getElem?_cons_succ] at h
  obtain ⟨l', h'⟩ := kept_at t d (kept1 (fileAt t x.2) l).2 i e h
  exact ⟨l', by rw [kept, List.getElem?_cons_succ]; exact h'⟩
theorem find_at {d : Dir} {s : ByteArray} {m : Nat} (h : find d s = some m) : ∃ i : Nat, d[i]? = some (s, m) ∧ find (numbered d) s = some i := by
 have key : ∀ (d : Dir) (j : Nat), find d s = some m → ∃ i : Nat, d[i]? = some (s, m) ∧ find (d.mapIdx (fun i e => (e.1, i + j))) s = some (i + j) := by
  intro d
  induction d with
  | nil => intro j h; simp [find] at h
  | cons x d ih =>
   intro j h
   by_cases hx : x.1 = s
   ·refine ⟨0, ?_, ?_⟩
    ·unfold find at h
     rw [List.find?_cons_of_pos (by simpa using hx)] at h
     simp at h
     obtain ⟨a, b⟩ := x
     simp only at hx
     simp at h
     rw [← hx, ← h]
     rfl
    ·unfold find
     rw [List.mapIdx_cons, List.find?_cons_of_pos (by simpa using hx)]
     rfl
   ·have h2 : find d s = some m := by
     unfold find at h ⊢
     rw [List.find?_cons_of_neg (by simpa using hx)] at h
     exact h
    obtain ⟨i, h3, h4⟩ := ih (j + 1) h2
    refine ⟨i + 1, by simpa using h3, ?_⟩
    unfold find at h4 ⊢
    rw [List.mapIdx_cons, List.find?_cons_of_neg (by simpa using hx)]
    have e : (fun (k : Nat) (e : ByteArray × Nat) => (e.1, k + 1 + j)) = fun k e => (e.1, k + (j + 1)) := by funext k e; congr 1; omega
    rw [e, h4]
    congr 1
    omega
 obtain ⟨i, h1, h2⟩ := key d 0 h
 exact ⟨i, h1, by unfold numbered; simpa using h2⟩
theorem dirOf_mem (t : St) (l : List Int) : dirOf t l = t.sure ∨ dirOf t l ∈ t.row := by
 unfold dirOf dirAt
 have hk := took_le l t.row.length
 generalize took l (t.row.length + 1) = k at hk ⊢
 split
 ·exact .inl rfl
 ·right
  rw [List.getD_eq_getElem?_getD, List.getElem?_eq_getElem (by omega)]
  exact List.getElem_mem _
theorem dirOf_sure {t : St} (h : t.row = []) (l : List Int) : dirOf t l = t.sure := by
 rcases dirOf_mem t l with h1 | h1
 ·exact h1
 ·rw [h] at h1; cases h1
theorem find_with {d : Dir} {s u : ByteArray} {n : Nat} (h : s ≠ u) : find (with_ d s n) u = find d u := by
 unfold with_ find
 conv => rhs; rw [← List.take_append_drop (ahead d s) d]
 rw [List.find?_append, List.find?_append, List.find?_cons_of_neg (by simpa using h)]
theorem find_without {d : Dir} {s u : ByteArray} (h : s ≠ u) : find (without d s) u = find d u := by
 unfold without find
 rw [List.find?_filter]
 congr 1
 congr 1
 funext e
 by_cases he : e.1 = u
 ·subst he; simp [Ne.symm h]
 ·simp [he]
theorem find_with_self (d : Dir) (s : ByteArray) (n : Nat) (h : find d s = none) : find (with_ d s n) s = some n := by
 unfold with_ find
 have h1 := find_none h
 rw [List.find?_append, List.find?_eq_none.2 (fun e he => by simpa using h1 e (List.mem_of_mem_take he)), List.find?_cons_of_pos (by simp)]
 rfl
theorem find_without_self (d : Dir) (s : ByteArray) : find (without d s) s = none := by
 unfold find
 rw [Option.map_eq_none_iff, List.find?_eq_none]
 intro e he
 have := (mem_without.1 he).2
 simpa using this
end Go.Proofs.YtiafeniflkikeaaGreat.Sf
