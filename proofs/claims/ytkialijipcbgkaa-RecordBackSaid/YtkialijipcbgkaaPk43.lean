/-
  RcLaw: stooklaw13.works.
-/
import Derived.Test.YtkialijipcbgkaaPk42
import Derived.Test.YtkialijipcbgkaaPk22
namespace Go.Proofs.Ytkialijipcbgkaa
open Go.RowKit
set_option linter.unusedVariables false
namespace Rc
theorem plain_ok : ∀ q ∈ Vo.plain 256, q.byte < 256 := by
  intro q hq
  simp only [Vo.plain, List.mem_map, List.mem_range] at hq
  obtain ⟨b, hb, rfl⟩ := hq
  exact hb
end Rc
set_option maxRecDepth 100000 in
set_option maxHeartbeats 4000000 in
theorem works_rc (w : World) : Calls Try.prog 14 #[] w (IsBool true w) := by
  have HP := Lib.hid (rplain_any w)
  have hz35 := rc_zeroV
  have hn35 := rc_n35
  obtain ⟨N, hN⟩ : ∃ N, none35 = N := ⟨_, rfl⟩
  rw [hN] at hz35 hn35
  go_enter Try.func14, Try.ntmps14
  go_wp2_with (fail)
  refine (HP.out).mono ?_
  rintro e w1 ⟨A, c, rfl, ho, hb⟩
  rw [Vo.plain_len] at ho ⊢
  have kc := Lib.run_convert_bytes_const (P := Try.prog) w1 28 5 #[.int .u8 97, .int .u8 98, .int .u8 99] 3 3 Try.underlying28 Try.underlying5
  have hla := const_lv w1 [97, 98, 99] (by decide) (by decide) _ rfl 3 rfl 5 (3, 4)
  have hab : Below w1.heap.size w1 (w1.alloc (.cells #[.int .u8 97, .int .u8 98, .int .u8 99] 5 (3, 4))) := (Below.refl _ _).alloc (Nat.le_refl _) _
  obtain ⟨Y, hY⟩ : ∃ Y, w1.alloc (.cells #[.int .u8 97, .int .u8 98, .int .u8 99] 5 (3, 4)) = Y := ⟨_, rfl⟩
  change Lv yK (w1.alloc (.cells #[.int .u8 97, .int .u8 98, .int .u8 99] 5 (3, 4))) _ _ _ at hla
  rw [hY] at hla hab
  change _ = Result.ok _ (w1.alloc (.cells #[.int .u8 97, .int .u8 98, .int .u8 99] 5 (3, 4))) at kc
  rw [hY] at kc
  have hys : Y.heap.size = w1.heap.size + 1 := by rw [← hY]; simp
  have HBY := Lib.hid (hb.trans (hab.mono hb.size))
  have HV := Lib.hid (ho.form_.below_ hab (Nat.le_refl _))
  have HL3 : Hid ([(97 : Nat), 98, 99].length = 3) := rfl
  have hb8 : ∀ q ∈ [(97 : Nat), 98, 99], q < 256 := by decide
  have hdoc := Rc.doc_of (id := 7) Vo.may_plain Rc.plain_ok hb8 (by decide)
  obtain ⟨p, hput⟩ := Rc.of_put Vo.may_plain Rc.plain_ok hb8 (by decide)
  have hof := Rc.ofE_ok (id := 7) Vo.may_plain (b := [97, 98, 99]) (by decide)
  rw [show (([(97 : Nat), 98, 99].length : Nat) : Int) = 3 from rfl] at hdoc hof
  have HO := Lib.hid (prcof_any (Vo.plain 256) _ 7 [97, 98, 99] _ Y.heap.size Y (HV.out.mono_ (by omega)) (hla.mono_ (by omega)) (by omega) (Nat.le_refl _))
  rw [hof] at HO
  obtain ⟨R, hR⟩ : ∃ R, (⟨Sh.sum [97, 98, 99], 7, 3, Bp.enc (Vo.plain 256) [97, 98, 99]⟩ : Rc.Rec) = R := ⟨_, rfl⟩
  have ht : Bp.enc (Vo.plain 256) [97, 98, 99] = R.toks := by rw [← hR]
  have hid : R.id = 7 := by rw [← hR]
  have hln : R.len = 3 := by rw [← hR]
  have hd32 : R.dig.length = 32 := by rw [← hR]; exact Rc.sum_len _
  rw [hR] at hdoc HO
  rw [ht] at hput
  have hp := Rc.putE_ok (r := R) (by omega) hput
  have hg := Rc.getE_put hd32 (by omega) hp
  have HDOC := Lib.hid hdoc
  obtain ⟨q, hq⟩ : ∃ q, Rc.put R p = q := ⟨_, rfl⟩
  rw [hq] at hp hg
  have HPE := Lib.hid hp
  have HGE := Lib.hid hg
  have HID := Lib.hid hid
  have HLN := Lib.hid hln
  clear ho hb hla hab hys hb8 hdoc hput hof hR ht hid hln hd32 hp hg hq HP HV
  go_wp2_with (fail)
  refine (HO.out).mono ?_
  rintro e w2 ⟨A2, c2, rfl, f2, o2, b2⟩
  have HB2 := Lib.hid (HBY.out.trans (b2.mono HBY.out.size))
  have F2 := Lib.hid o2.form_
  obtain ⟨D, hD⟩ : ∃ C, rcC R (.slice A2 R.toks.length c2) = C := ⟨_, rfl⟩
  have hv := rc_val f2 hD
  obtain ⟨vs, vo, vz⟩ := hv
  obtain ⟨X, hX⟩ : ∃ X, (w2.alloc (.cells N 27)).setRow w2.heap.size D = X := ⟨_, rfl⟩
  obtain ⟨hx1, hx2⟩ := rc_stored hX
  have HX1 := Lib.hid hx1
  have HBX := Lib.hid (HB2.out.trans (hx2.mono HB2.out.size))
  have FX := Lib.hid ((F2.out.below_ hx2 (Nat.le_refl _)).mono_ hx2.size)
  have HF2 := Lib.hid f2
  have HPU := Lib.hid (prcput_any R _ X.heap.size X f2 FX.out (Nat.le_refl _))
  rw [HPE.out, hD] at HPU
  have HDD := Lib.hid hD
  have hNC : N.size = D.size := by omega
  rw [hD]
  clear hx1 hx2 f2 o2 b2 HO HBY HB2 F2 hD
  go_wp2_with (first
    | (refine wpList_store_row rfl _ _ _ rfl w2.heap.size D rfl rfl 27 N (Rw.new w2 _ _) vs hNC vo ?_; rw [hX])
    | (refine wpList_load_row rfl _ _ rfl w2.heap.size rfl 27 D (0, 0) _ HX1.out.2 Try.underlying27 rfl (by rw [vs]) ?_))
  refine (HPU.out).mono ?_
  rintro e w3 ⟨A3, c3, rfl, o3, b3⟩
  have HB3 := Lib.hid (HBX.out.trans (b3.mono HBX.out.size))
  have HG := Lib.hid (prcget_any _ q _ w3 o3.form_ (Nat.le_refl _))
  rw [HGE.out] at HG
  clear HPU o3 b3 HBX FX HX1 hX vs vo vz hNC HF2 HDD
  go_wp2_with (fail)
  refine (HG.out).mono ?_
  rintro e w4 ⟨A4, c4, rfl, f4, o4, b4⟩
  have HB4 := Lib.hid (HB3.out.trans (b4.mono HB3.out.size))
  have F4 := Lib.hid o4.form_
  obtain ⟨D, hD⟩ : ∃ C, rcC R (.slice A4 R.toks.length c4) = C := ⟨_, rfl⟩
  have hv := rc_val f4 hD
  have d32 : D[32]? = some (.int .u64 7) := by rw [← hD, rcC_id f4, HID.out]; rfl
  have d33 : D[33]? = some (.int .i64 3) := by rw [← hD, rcC_len f4, HLN.out]
  obtain ⟨vs, vo, vz⟩ := hv
  obtain ⟨X, hX⟩ : ∃ X, (w4.alloc (.cells N 27)).setRow w4.heap.size D = X := ⟨_, rfl⟩
  obtain ⟨hx1, hx2⟩ := rc_stored hX
  have HX1 := Lib.hid hx1
  have HBX := Lib.hid (HB4.out.trans (hx2.mono HB4.out.size))
  have FX := Lib.hid ((F4.out.below_ hx2 (Nat.le_refl _)).mono_ hx2.size)
  have HF4 := Lib.hid f4
  have HDD := Lib.hid hD
  have hNC : N.size = D.size := by omega
  have HD32 := Lib.hid d32
  have HD33 := Lib.hid d33
  rw [hD]
  clear hx1 hx2 f4 o4 b4 HG HB4 F4 hD HB3 d32 d33
  go_wp2_with (first
    | (refine wpList_store_row rfl _ _ _ rfl w4.heap.size D rfl rfl 27 N (Rw.new w4 _ _) vs hNC vo ?_; rw [hX]))
  clear hX
  obtain ⟨g, hg⟩ : ∃ g, w4.heap.size = g := ⟨_, rfl⟩
  rw [hg] at HX1 ⊢
  have HPL := Lib.hid (rplain_any X.drew)
  have hS0 : X.drew.heap[g]? = some (.cells D 27 (0, 0)) := HX1.out.2
  refine wp_region_held_drew (S := fun w' => w'.heap[g]? = some (.cells D 27 (0, 0))) (by kernel_rfl) hS0 (fun hH => ?_)
  refine wpAnyH_take (i := 1) (v := .agg D) rfl (by kernel_rfl) (by kernel_rfl) (by kernel_rfl) (fun _ _ _ h => h)
    (Or.inl ⟨by rfl, fun w' hS => exec_load_row _ _ rfl g rfl _ D (0, 0) _ w' hS Try.underlying27 rfl vs⟩) hH ?_
  try simp only [Act.put, List.setIfInBounds_toArray]
  clear hH hS0
  refine wpAnyH_ready (rs := [0]) (by kernel_rfl) (by simp) ?_
  refine AllReadyH.cons rfl (fun K hK => ?_) AllReadyH.nil
  go_simp
  refine (HPL.out).mono ?_
  rintro e w5 ⟨A5, c5, rfl, o5, b5⟩
  rw [Vo.plain_len] at o5 ⊢
  have hb5 : Below X.heap.size X w5 := (Below.refl _ _).drew.trans b5
  have HB5 := Lib.hid (HBX.out.trans (hb5.mono HBX.out.size))
  have HR5 : Hid (Rw w5 g 27 D) := HX1.out.2.below hb5 HX1.out.1
  have F5 := Lib.hid ((FX.out.below_ hb5 (Nat.le_refl _)).mono_ hb5.size)
  have HDC := Lib.hid (prcdoc_any (Vo.plain 256) _ R _ w5.heap.size w5 o5.form_ HF4.out F5.out (Nat.le_refl _))
  rw [HDOC.out, HDD.out] at HDC
  refine hK.out _ _ HR5.out (fun hH => ?_)
  clear hK K HPL o5 b5 hb5
  try simp only [Act.put, List.setIfInBounds_toArray, List.set_cons_zero, List.set_cons_succ]
  refine wpAnyH_ready (rs := [2]) (by kernel_rfl) (by simp) ?_
  refine AllReadyH.cons rfl (fun K hK => ?_) AllReadyH.nil
  go_simp
  refine (HDC.out).mono ?_
  rintro e w6 ⟨A6, c6, rfl, o6, b6⟩
  have HB6 := Lib.hid (HB5.out.trans (b6.mono HB5.out.size))
  have HR6 : Hid (Rw w6 g 27 D) := HR5.out.below b6 HR5.out.lt
  have HO6 : Hid (Lv yK w6 w6.heap.size (.slice A6 3 c6) [97, 98, 99]) := o6.form_
  refine hK.out _ _ HR6.out (fun hH => ?_)
  clear hK K HDC o6 b6
  skip
  refine wpAnyH_take (i := 3) (v := ?_) rfl (by kernel_rfl) (by kernel_rfl) (by kernel_rfl) (fun _ _ _ h => h) (Or.inl ⟨by rfl, (by intro w hSw; go_simp; with_reducible rfl)⟩) hH ?_
  try simp only [Act.put, List.setIfInBounds_toArray]
  refine wpAnyH_take (i := 4) (v := ?_) rfl (by kernel_rfl) (by kernel_rfl) (by kernel_rfl) (fun _ _ _ h => h) (Or.inl ⟨by rfl, (by intro w hSw; go_simp; with_reducible rfl)⟩) hH ?_
  try simp only [Act.put]
  refine wpAnyH_take (i := 5) (v := ?_) rfl (by kernel_rfl) (by kernel_rfl) (by kernel_rfl) (fun _ _ _ h => h) (Or.inl ⟨by rfl, (by intro w hSw; go_simp; with_reducible rfl)⟩) hH ?_
  try simp only [Act.put]
  refine wpAnyH_take (i := 6) (v := ?_) rfl (by kernel_rfl) (by kernel_rfl) (by kernel_rfl) (fun _ _ _ h => h) (Or.inl ⟨by rfl, (by intro w hSw; go_simp; with_reducible rfl)⟩) hH ?_
  try simp only [Act.put]
  refine wpAnyH_take (i := 7) (v := ?_) rfl (by kernel_rfl) (by kernel_rfl) (by kernel_rfl) (fun _ _ _ h => h) (Or.inl ⟨by rfl, (by intro w hSw; go_simp; with_reducible rfl)⟩) hH ?_
  try simp only [Act.put]
  refine wpAnyH_done (by kernel_rfl) ?_ _
  have c32 : w6.cell? ⟨g, 32, none⟩ = some (.int .u64 7) := (HR6.out.cell _).trans HD32.out
  have c33 : w6.cell? ⟨g, 33, none⟩ = some (.int .i64 3) := (HR6.out.cell _).trans HD33.out
  have htx : strOfNums ([97, 98, 99].map (fun x : Nat => (x : Int))) = { data := #[97, 98, 99] } := by decide
  have hcv : (convert 28 9 (.slice A6 3 c6)).run Try.prog w6 = .ok (.string { data := #[97, 98, 99] }) w6 := by
    have h := text_of HO6.out (by simp)
    rw [htx] at h
    exact h
  clear hH
  go_wp2
  go_ret
  exact ⟨rfl, HB6.out⟩
end Go.Proofs.Ytkialijipcbgkaa
