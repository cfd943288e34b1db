/-
  SimfsBlocks: where a write over a file that is sure is torn, each block of 512 bytes is there as it was, or as it became. No condition.
-/
import Derived.Test.YtmcbjcbnckpfkaaPk24
import Derived.Test.YtmcbjcbnckpfkaaPk25
import Derived.Test.YtmcbjcbnckpfkaaPk23
import Derived.Test.YtmcbjcbnckpfkaaPk11
import Derived.Test.YtmcbjcbnckpfkaaPk03
import Derived.Test.YtmcbjcbnckpfkaaPk33
import Derived.Test.YtmcbjcbnckpfkaaPk34
import Derived.Deep.WholeRow
namespace Go.Proofs.Ytmcbjcbnckpfkaa.simfsBlocks
open Go.ChangeShapes Go.WideShapes Go.ChangeAt Go.RowKit
open Go.ChangeMaps (open_string shut_string)
set_option linter.unusedVariables false

set_option maxHeartbeats 4000000 in
set_option maxRecDepth 100000 in
theorem walk (w : World) (n0 : Nat) (b0 : n0 < 256) (n1 : Nat) (b1 : n1 < 65536) (v2 : Value) (l2 : List Nat) (h2 : Lv yK w w.heap.size v2 l2) (a3 : Int) (w3 : (Lit.int .i64 a3).wf = true) (r2 : l2.length * 1 ≤ 140737488351232) :
    Calls Try.prog 4 #[.int .u8 (n0 : Nat), .int .u16 (n1 : Nat), v2, .int .i64 a3] w (IsBool true w) := by
  have H2 := Lib.hid h2
  have hml2 : l2.length ≤ 9223372036854775807 := by have := h2; obtain ⟨_, _, _, h2, h3, _⟩ := this; simp only [maxLen] at h3; omega
  obtain ⟨A2, c2, hv, _⟩ := h2
  subst hv
  have hb3 := bounds_i64 w3
  have HI3 : Hid (I64 a3) := by unfold Hid I64; omega
  obtain ⟨S, hS⟩ : ∃ S, 512 * (1 + n0 % 5) = S := ⟨_, rfl⟩
  have hS5 : S % 512 = 0 := by omega
  have hSb : 512 ≤ S ∧ S ≤ 2560 := by omega
  have ws0 : (n0 : Int) % 5 = ((n0 % 5 : Nat) : Int) := by omega
  have ws1 : IntKind.i64.wrap (1 + (n0 : Int) % 5) = 1 + (n0 : Int) % 5 := by rw [IntKind.wrap_i64]; omega
  have ws2 : IntKind.i64.wrap (512 * (1 + (n0 : Int) % 5)) = (S : Int) := by rw [IntKind.wrap_i64]; omega
  have ws3 : IntKind.i64.wrap ((n1 : Int) + (l2.length : Int)) = (n1 : Int) + (l2.length : Int) := by rw [IntKind.wrap_i64]; omega
  clear w3 hb3 ws0
  go_enter Try.func4, Try.ntmps4
  have HB1 := Lib.hid (Below.refl w.heap.size w)
  by_cases hbig : (S : Int) < (n1 : Int) + (l2.length : Int)
  · skip
    have C2 := Lib.hid (works_sf w)
    go_wp2_with fail
    refine C2.out.mono ?_
    rintro e4 w3 ⟨rfl, hb⟩
    have HB5 := Lib.hid (HB1.out.trans (hb.mono HB1.out.size))
    clear hb C2 HB1
    go_wp2
    go_ret
    exact ⟨rfl, HB5.out⟩
  · skip
    obtain ⟨Z, hZ⟩ : ∃ Z, List.replicate S 0 = Z := ⟨_, rfl⟩
    have hzl : Z.length = S := by rw [← hZ]; simp
    have HZL := Lib.hid hzl
    have HZ := Lib.hid hZ
    have HZM : Hid (Z.length ≤ 1048576) := by unfold Hid; omega
    have HW : Hid (n1 + l2.length ≤ Z.length) := by unfold Hid; omega
    clear hzl hZ
    have C6 := Lib.hid (pnew_any 1048576 (by unfold I64; omega) w)
    go_wp2_with fail
    refine C6.out.mono ?_
    intro e8 w7 h
    rw [if_neg (by omega)] at h
    obtain ⟨b9, f10, rfl, hd, hf, hb⟩ := h
    have HF11 := Lib.hid (hf.mono HB1.out.size)
    have HB12 := Lib.hid (HB1.out.trans (hb.mono HB1.out.size))
    have HD13 := Lib.hid hd
    clear HB1 hd hf hb C6
    have EQ1 : Hid (Sf.create (Sf.new (1048576 : Int).toNat) ⟨#[97]⟩ = (0, Sf.one1S ⟨#[97]⟩)) := Sf.one1 (by decide +kernel)
    have C14 := Lib.hid (pcreate_any HD13.out (by unfold Sf.Few; simp [Sf.new]) ⟨#[97]⟩ (by decide +kernel))
    rw [EQ1.out] at C14
    go_wp2_with fail
    refine C14.out.mono ?_
    rintro e16 w15 ⟨rfl, f17, hd, hn, ht⟩
    have HB18 := Lib.hid (HF11.out.below HB12.out HB12.out.size ht)
    have HF19 := Lib.hid (hn.from_ HF11.out HB12.out.size)
    have HD20 := Lib.hid hd
    clear HB12 HD13 HF11 hd hn ht C14 EQ1
    go_wp2_with (at_make; go_must (refine wpList_make_on _ yK (by rfl) _ _ rfl w15.heap.size .i64 .i64 _ _ S S rfl rfl rfl rfl (Nat.le_refl _) (by show 1 * _ ≤ _; omega) (by simp only [maxLen]; omega) (Nat.le_refl _) ?_; intro w60 hO hG))
    have HM60 : Hid (0 < Z.length → ∀ k, (Value.slice (some ⟨w15.heap.size, 0, none⟩) S S).ownBlock = some k → ¬ f17.M k) := fun _ => (pdisk_law.lt HD20.out).not_new
    change OwnL yK _ _ _ (List.replicate S 0) at hO
    rw [HZ.out] at hO
    have hb := (Below.refl w15.heap.size w15).grown hG (Nat.le_refl _) (by intro k hk; cases hk)
    have V60 := Lib.hid hO.form_
    have HB21 := Lib.hid (HB18.out.trans (hb.mono HB18.out.size))
    have HD22 := Lib.hid (pdisk_law.below HD20.out hb)
    clear HB18 HD20 hb hO hG
    have EQ := Lib.hid (Sf.one2 ⟨#[97]⟩ (b := Z) HZM.out)
    have C23 := Lib.hid (pappend_any HD22.out (by unfold Sf.Few; simp [Sf.one1S]) ⟨#[97]⟩ (by decide +kernel) _ _ Z V60.out (Nat.le_refl _) HM60.out)
    rw [EQ.out] at C23
    go_wp2_with fail
    refine C23.out.mono ?_
    rintro e25 w24 ⟨rfl, f26, hd, hn, ht⟩
    have HB27 := Lib.hid (HF19.out.below HB21.out HB21.out.size ht)
    have HF28 := Lib.hid (hn.from_ HF19.out HB21.out.size)
    have HD29 := Lib.hid hd
    clear HB21 HD22 HF19 hd hn ht C23 EQ V60 HM60
    have EQ := Lib.hid (Sf.one3 ⟨#[97]⟩ Z)
    have C30 := Lib.hid (psync_any HD29.out (by unfold Sf.Few; simp [Sf.one2S]) ⟨#[97]⟩ (by decide +kernel))
    rw [EQ.out] at C30
    go_wp2_with fail
    refine C30.out.mono ?_
    rintro e32 w31 ⟨rfl, f33, hd, hn, ht⟩
    have HB34 := Lib.hid (HF28.out.below HB27.out HB27.out.size ht)
    have HF35 := Lib.hid (hn.from_ HF28.out HB27.out.size)
    have HD36 := Lib.hid hd
    clear HB27 HD29 HF28 hd hn ht C30 EQ
    have EQ := Lib.hid (Sf.one4 ⟨#[97]⟩ Z)
    have C37 := Lib.hid (psyncDir_any HD36.out (by unfold Sf.Few; simp [Sf.one3S]))
    rw [EQ.out] at C37
    go_wp2_with fail
    refine C37.out.mono ?_
    rintro e39 w38 ⟨rfl, f40, hd, hn, ht⟩
    have HB41 := Lib.hid (HF35.out.below HB34.out HB34.out.size ht)
    have HF42 := Lib.hid (hn.from_ HF35.out HB34.out.size)
    have HD43 := Lib.hid hd
    clear HB34 HD36 HF35 hd hn ht C37 EQ
    have EQ := Lib.hid (Sf.wr_one ⟨#[97]⟩ HW.out HZM.out)
    have C44 := Lib.hid (pwrite_any HD43.out (by unfold Sf.Few; simp [Sf.oneSure]) ⟨#[97]⟩ (by decide +kernel) (n1 : Nat) (by unfold I64; omega) _ w.heap.size l2 (H2.out.below_ HB41.out (Nat.le_refl _)) HB41.out.size (HF42.out.not_arg H2.out))
    rw [EQ.out] at C44
    go_wp2_with fail
    refine C44.out.mono ?_
    rintro e46 w45 ⟨rfl, f47, hd, hn, ht⟩
    have HB48 := Lib.hid (HF42.out.below HB41.out HB41.out.size ht)
    have HF49 := Lib.hid (hn.from_ HF42.out HB41.out.size)
    have HD50 := Lib.hid hd
    clear HB41 HD43 HF42 hd hn ht C44 EQ
    obtain ⟨N, hN⟩ : ∃ N, Sf.done Z ⟨false, n1, l2⟩ = N := ⟨_, rfl⟩
    have HNL : Hid (N.length = S) := by unfold Hid; rw [← hN, Sf.wr_len HW.out, HZL.out]
    have HN0 := Lib.hid hN
    have EQ := Lib.hid (Sf.wr_read ⟨#[97]⟩ (z := Z) (b := l2) (a := n1) HW.out)
    rw [hN, HZL.out] at EQ
    clear hN
    have CN := Lib.hid (pread_any HD50.out ⟨#[97]⟩ (by decide +kernel) 0 (S : Nat) (by unfold I64; omega) (by unfold I64; omega))
    rw [EQ.out] at CN
    go_wp2_with fail
    refine CN.out.mono ?_
    rintro e70 w70 ⟨AN, cN, rfl, ho, hb⟩
    have VN := Lib.hid ho.form_
    change Hid (Lv yK w70 w70.heap.size (.slice AN N.length cN) N) at VN
    simp only [HNL.out]
    rw [HNL.out] at VN
    have HB51 := Lib.hid (HB48.out.trans (hb.mono HB48.out.size))
    have HD52 := Lib.hid (pdisk_law.below HD50.out hb)
    clear HB48 HD50 hb ho CN EQ
    have kok : ∀ x ∈ [(0 : Int), 0, a3], iK.ok x := fun x hx => by simp at hx; rcases hx with rfl | rfl <;> first | exact HI3.out | (show I64 _; simp [I64])
    have hla := Lv.build_ iK w70 [0, 0, a3] kok (by simp [maxLen]) 3 rfl _ rfl _ rfl
    have hab : Below w70.heap.size w70 (w70.alloc (.cells #[.int .i64 0, .int .i64 0, .int .i64 a3] 3)) := (Below.refl _ _).alloc (Nat.le_refl _) _
    change Lv iK (w70.alloc (.cells #[.int .i64 0, .int .i64 0, .int .i64 a3] 3)) _ _ _ at hla
    have hzs : (w70.alloc (.cells #[.int .i64 0, .int .i64 0, .int .i64 a3] 3)).heap.size = w70.heap.size + 1 := by simp
    obtain ⟨Y, hY⟩ : ∃ Y, w70.alloc (.cells #[.int .i64 0, .int .i64 0, .int .i64 a3] 3) = Y := ⟨_, rfl⟩
    rw [hY] at hla hab hzs
    have HB53 := Lib.hid (HB51.out.trans (hab.mono HB51.out.size))
    have HD54 := Lib.hid (pdisk_law.below HD52.out hab)
    have VN2 := Lib.hid ((VN.out.below_ hab (Nat.le_refl _)).mono_ hab.size)
    have CF := Lib.hid (pfail_any HD54.out _ Y.heap.size _ (hla.mono_ (by omega)) (Nat.le_refl _))
    clear HB51 HD52 hla hab hzs kok VN
    go_wp2_with fail
    refine CF.out.mono ?_
    rintro e9 w90 ⟨b99, f99, rfl, hd, hf, hb⟩
    have VN3 := Lib.hid ((VN2.out.below_ hb (Nat.le_refl _)).mono_ hb.size)
    have HA55 := Lib.hid ((pdisk_law.lt HD54.out).apart hf)
    have HF56 := Lib.hid (hf.mono HB53.out.size)
    have HB57 := Lib.hid (HB53.out.trans (hb.mono HB53.out.size))
    have HD58 := Lib.hid (pdisk_law.below HD54.out hb)
    have HD59 := Lib.hid hd
    clear HB53 HD54 hd hf hb CF hY VN2
    have HWL := Sf.wr_left ⟨#[97]⟩ (z := Z) (b := l2) (a := n1) HW.out HZM.out [0, 0, a3]
    obtain ⟨R, hR1, hR2⟩ := HWL
    obtain ⟨hRl, hRb⟩ := Sf.blocks HW.out (by rw [HZL.out]; exact hS5) hR2
    rw [HN0.out, HZL.out] at hRb
    have HRB := Lib.hid hRb
    have HRL : Hid (R.length = S) := hRl.trans HZL.out
    have HR1 := Lib.hid hR1
    clear hRl hRb hR1 hR2
    have CR := Lib.hid (pread_any HD59.out ⟨#[97]⟩ (by decide +kernel) 0 1048576 (by unfold I64; omega) (by unfold I64; omega))
    rw [HR1.out] at CR
    go_wp2_with fail
    refine CR.out.mono ?_
    rintro e10 w91 ⟨AC, cC, rfl, ho, hb⟩
    have VC := Lib.hid ho.form_
    change Hid (Lv yK w91 w91.heap.size (.slice AC R.length cC) R) at VC
    simp only [HRL.out]
    rw [HRL.out] at VC
    have VN4 := Lib.hid ((VN3.out.below_ hb (Nat.le_refl _)).mono_ hb.size)
    have HBL := Lib.hid (HB57.out.trans (hb.mono HB57.out.size))
    clear hb ho CR VN3 HN0 HZM HW
    have hcN := VN4.out.len_.2.1
    have hcC := VC.out.len_.2.1
    rw [HNL.out] at hcN
    rw [HRL.out] at hcC
    go_wp2
    go_loopw [18, 19] (fun i _ wr => ∃ (j : Nat), j % 512 = 0 ∧ j ≤ S ∧ i = .int .i64 (j : Nat) ∧ Hid (Lv yK wr wr.heap.size (.slice AN S cN) N) ∧ Hid (Lv yK wr wr.heap.size (.slice AC S cC) R) ∧ Below w.heap.size w wr) (fun i _ _ => S - (intOf i).toNat)
    case atStart => exact ⟨0, by omega, by omega, rfl, VN4.out, VC.out, HBL.out⟩
    case round =>
      obtain ⟨j, hj5, hjS, rfl, VNr, VCr, hbr⟩ := hrel
      have HBr := Lib.hid hbr
      clear hbr HBL VN4 VC
      by_cases hlt : j < S
      · have hji : (j : Int) < (S : Int) := by omega
        have hj2 : j + 512 ≤ S := by omega
        have wj : IntKind.i64.wrap ((j : Int) + 512) = (j : Int) + 512 := by rw [IntKind.wrap_i64]; omega
        have nj : ((j + 512 : Nat) : Int) = (j : Int) + 512 := by omega
        have mj : j + 512 - j = 512 := by omega
        obtain ⟨k1, k2⟩ := cut_lh yK rfl AC S cC j (j + 512) (by omega) (by omega)
        obtain ⟨k3, k4⟩ := cut_lh yK rfl AN S cN j (j + 512) (by omega) (by omega)
        have VP := Lib.hid (cut_lv (lo := j) (hi := j + 512) (mx := cC) VCr.out (by omega) (by omega) (by omega) (Nat.le_refl _))
        have VQ := Lib.hid (cut_lv (lo := j) (hi := j + 512) (mx := cN) VNr.out (by omega) (by omega) (by omega) (Nat.le_refl _))
        rw [mj] at VP VQ
        simp only [nj, mj] at k1 k2 k3 k4
        obtain ⟨P1, hP1⟩ : ∃ P, cutAddr AC j cC yK.size = P := ⟨_, rfl⟩
        obtain ⟨Q1, hQ1⟩ : ∃ P, cutAddr AN j cN yK.size = P := ⟨_, rfl⟩
        rw [hP1] at VP k1 k2
        rw [hQ1] at VQ k3 k4
        change ∀ w, (Instr.slice 22 (.slice AC S cC) (some (.int .i64 (j : Nat))) (some (.int .i64 ((j : Nat) + 512))) none).run Try.prog w = .ok (.slice P1 512 (cC - j)) w at k1
        change ∀ w, (Instr.sliceAt 22 (.slice AC S cC) (some (.int .i64 (j : Nat))) (some (.int .i64 ((j : Nat) + 512))) none).run Try.prog w = .ok (.slice P1 512 (cC - j)) w at k2
        change ∀ w, (Instr.slice 22 (.slice AN S cN) (some (.int .i64 (j : Nat))) (some (.int .i64 ((j : Nat) + 512))) none).run Try.prog w = .ok (.slice Q1 512 (cN - j)) w at k3
        change ∀ w, (Instr.sliceAt 22 (.slice AN S cN) (some (.int .i64 (j : Nat))) (some (.int .i64 ((j : Nat) + 512))) none).run Try.prog w = .ok (.slice Q1 512 (cN - j)) w at k4
        have HBLK := Lib.hid (HRB.out j hj5 hj2)
        have hzb : (Z.drop j).take 512 = List.replicate 512 0 := by rw [← HZ.out]; exact Sf.zero_block S j hj2
        rw [hzb] at HBLK
        obtain ⟨BR, hBR⟩ : ∃ B, (R.drop j).take 512 = B := ⟨_, rfl⟩
        obtain ⟨BN, hBN⟩ : ∃ B, (N.drop j).take 512 = B := ⟨_, rfl⟩
        rw [hBR] at HBLK VP
        rw [hBN] at HBLK VQ
        clear hP1 hQ1 hzb hBR hBN nj mj
        go_wp2_with (at_make; go_must (refine wpList_make_l _ yK rfl _ _ rfl wr.heap.size .i64 .i64 _ _ 512 512 rfl rfl rfl rfl (Nat.le_refl _) (by show 1 * _ ≤ _; omega) (by simp only [maxLen]; omega) (Nat.le_refl _) ?_; intro w60 hO hG))
        change OwnL yK _ _ _ (List.replicate 512 0) at hO
        have hb := (Below.refl wr.heap.size wr).grown hG (Nat.le_refl _) (by intro k hk; cases hk)
        have VZ := Lib.hid hO.form_
        have VNr' := Lib.hid ((VNr.out.below_ hb (Nat.le_refl _)).mono_ hb.size)
        clear VNr
        have VNr := VNr'
        clear VNr'
        have VCr' := Lib.hid ((VCr.out.below_ hb (Nat.le_refl _)).mono_ hb.size)
        clear VCr
        have VCr := VCr'
        clear VCr'
        have VP' := Lib.hid ((VP.out.below_ hb (Nat.le_refl _)).mono_ hb.size)
        clear VP
        have VP := VP'
        clear VP'
        have VQ' := Lib.hid ((VQ.out.below_ hb (Nat.le_refl _)).mono_ hb.size)
        clear VQ
        have VQ := VQ'
        clear VQ'
        have HB60 := Lib.hid (HBr.out.trans (hb.mono HBr.out.size))
        clear HBr hb hO hG
        have CS := Lib.hid (octs_lv _ _ _ _ _ _ w60 VP.out VZ.out)
        by_cases hz : BR = List.replicate 512 0
        · have HT : Hid (decide (BR = List.replicate 512 0) = true) := decide_eq_true hz
          clear hz
          rw [HT.out] at CS
          go_wp2_with fail
          refine CS.out.mono ?_
          rintro e61 w61 ⟨rfl, hb⟩
          have VNr' := Lib.hid ((VNr.out.below_ hb (Nat.le_refl _)).mono_ hb.size)
          clear VNr
          have VNr := VNr'
          clear VNr'
          have VCr' := Lib.hid ((VCr.out.below_ hb (Nat.le_refl _)).mono_ hb.size)
          clear VCr
          have VCr := VCr'
          clear VCr'
          have HB61 := Lib.hid (HB60.out.trans (hb.mono HB60.out.size))
          clear HB60 hb CS
          clear k1 k2 k3 k4 hcN hcC HBLK HT
          go_wp2
          refine ⟨⟨_, _, _, _, _, _, _, _, _, _, _, _, _, _, _, _, _, _, _, _, _, _, _, _, _, _, _, ?rel, rfl⟩, ?measure⟩
          case rel => exact ⟨j + 512, by omega, by omega, by go_num, VNr.out, VCr.out, HB61.out⟩
          case measure => simp [intOf]; omega
        · have HT : Hid (decide (BR = List.replicate 512 0) = false) := decide_eq_false hz
          have HT2 : Hid (decide (BR = BN) = true) := decide_eq_true (HBLK.out.resolve_left hz)
          clear hz
          rw [HT.out] at CS
          go_wp2_with fail
          refine CS.out.mono ?_
          rintro e61 w61 ⟨rfl, hb⟩
          have VNr' := Lib.hid ((VNr.out.below_ hb (Nat.le_refl _)).mono_ hb.size)
          clear VNr
          have VNr := VNr'
          clear VNr'
          have VCr' := Lib.hid ((VCr.out.below_ hb (Nat.le_refl _)).mono_ hb.size)
          clear VCr
          have VCr := VCr'
          clear VCr'
          have VP' := Lib.hid ((VP.out.below_ hb (Nat.le_refl _)).mono_ hb.size)
          clear VP
          have VP := VP'
          clear VP'
          have VQ' := Lib.hid ((VQ.out.below_ hb (Nat.le_refl _)).mono_ hb.size)
          clear VQ
          have VQ := VQ'
          clear VQ'
          have HB62 := Lib.hid (HB60.out.trans (hb.mono HB60.out.size))
          clear HB60 hb CS
          have CS := Lib.hid (octs_lv _ _ _ _ _ _ w61 VP.out VQ.out)
          rw [HT2.out] at CS
          go_wp2_with fail
          refine CS.out.mono ?_
          rintro e62 w62 ⟨rfl, hb⟩
          have VNr' := Lib.hid ((VNr.out.below_ hb (Nat.le_refl _)).mono_ hb.size)
          clear VNr
          have VNr := VNr'
          clear VNr'
          have VCr' := Lib.hid ((VCr.out.below_ hb (Nat.le_refl _)).mono_ hb.size)
          clear VCr
          have VCr := VCr'
          clear VCr'
          have HB63 := Lib.hid (HB62.out.trans (hb.mono HB62.out.size))
          clear HB62 hb CS
          clear k1 k2 k3 k4 hcN hcC HBLK HT
          go_wp2
          refine ⟨⟨_, _, _, _, _, _, _, _, _, _, _, _, _, _, _, _, _, _, _, _, _, _, _, _, _, _, _, ?rel, rfl⟩, ?measure⟩
          case rel => exact ⟨j + 512, by omega, by omega, by go_num, VNr.out, VCr.out, HB63.out⟩
          case measure => simp [intOf]; omega
      · have hji : ¬ (j : Int) < (S : Int) := by omega
        have C64 := Lib.hid (works_sf wr)
        go_wp2_with fail
        refine C64.out.mono ?_
        rintro e66 w65 ⟨rfl, hb⟩
        have HB67 := Lib.hid (HBr.out.trans (hb.mono HBr.out.size))
        clear hb C64 HBr
        go_wp2
        go_ret
        exact ⟨rfl, HB67.out⟩
/-! ### From the walk to the row -/
set_option maxRecDepth 100000 in
theorem lifted (os : Os) (started : os.Started) (H : Type) (enc : TypeId × Value → H) :
    ReturnsInHanded {} Try.checked os 4 .any (Rows.simfsBlocksSpec.pre6 enc Try.prog Try.f4 Rows.simfsBlocksRow.domain false) (Rows.simfsBlocksSpec.post enc Try.prog Try.f4 false true false false) := by
  refine returnsInHanded_of_change_sized (C := Try.checked) own started (by kernel_rfl) Try.func4
    (ChangeSpec.witness6 (enc := enc) (C := Try.checked) false ⟨#[], #[.int .u8 0, .int .u16 0, .slice none 0 0, .int .i64 0], []⟩ 8 (by kernel_rfl) (by kernel_rfl) (by kernel_rfl) (by kernel_rfl)) ?_
  intro W base args ds gs before hval0 hW hcnd hreach _
  have hval : ∀ (j : Nat) t v, Try.f4.params[j]? = some t → args[j]? = some v → Value.okWide Try.prog W .any base t v := hval0
  have hW' := hW
  obtain ⟨p, q, hA0, hV, rfl, hfz, hnd⟩ := hW
  have hA : DataW.TrodAll enc Try.prog W 0 (fun _ => true) true Try.f4.params.toList args.toList ds p := hA0
  rw [Try.params4] at hA hval
  obtain ⟨v0, vs0, d0, ds0, p0, q0, hargs, rfl, rfl, h0, r0⟩ := trodAll_cons hA
  obtain ⟨v1, vs1, d1, ds1, p1, q1, rfl, rfl, rfl, h1, r1⟩ := trodAll_cons r0
  obtain ⟨v2, vs2, d2, ds2, p2, q2, rfl, rfl, rfl, h2, r2⟩ := trodAll_cons r1
  obtain ⟨v3, vs3, d3, ds3, p3, q3, rfl, rfl, rfl, h3, r3⟩ := trodAll_cons r2
  obtain ⟨rfl, rfl, rfl⟩ := trodAll_nil r3
  obtain rfl : args = #[v0, v1, v2, v3] := by cases args; simp_all
  obtain ⟨rfl, rfl⟩ := trodVars_none hV
  obtain ⟨a0, rfl, rfl, rfl, w0⟩ := open_int Try.underlying5 (hval 0 5 v0 rfl rfl) h0
  obtain ⟨n0, e0, b0⟩ := u8_nat w0
  subst e0
  obtain ⟨a1, rfl, rfl, rfl, w1⟩ := open_int Try.underlying42 (hval 1 42 v1 rfl rfl) h1
  obtain ⟨n1, e1, b1⟩ := u16_nat w1
  subst e1
  obtain ⟨a2, len2, cap2, rfl⟩ := okWide_slice Try.underlying22 (hval 2 22 v2 rfl rfl)
  have k2 := h2
  have lt2 : ∀ x ∈ p2, x.block < W.heap.size := by obtain ⟨m, hm⟩ := k2; exact DataW.trod_lt m _ _ _ hm
  obtain ⟨l2, len_2, hb2⟩ : ∃ l : List Nat, l.length = len2 ∧ Lv yK W W.heap.size (.slice a2 len2 cap2) l := by
    obtain ⟨fuel, hf⟩ := h2
    exact octs_in hf
  obtain ⟨a3, rfl, rfl, rfl, w3⟩ := open_int Try.underlying3 (hval 3 3 v3 rfl rfl) h3
  have reach2 : len2 * 1 ≤ 140737488351232 := by
    obtain ⟨fuel, hf⟩ := k2
    rcases open_ints Try.underlying22 Try.underlying5 (by kernel_rfl) hf with ⟨hcs, _⟩ | ⟨x, l, c, zs, hcs, _, hl, hm, hz, hx, hcell, hwz⟩
    · simp [Value.cells] at hcs
      omega
    · simp [Value.cells] at hcs
      obtain ⟨rfl, rfl, rfl⟩ := hcs
      rw [Prod.mk.injEq] at hx
      have hs := sized_slice hreach (j := 2) (t := 22) (e := 5) (elems := lits .u8 (zs.take len2)) (spare := lits .u8 (zs.drop len2)) rfl (by rw [hx.1]; rfl) Try.underlying22
      have hb : Try.prog.bytesOf 5 = 1 := by kernel_rfl
      change _ * Try.prog.bytesOf 5 ≤ _ at hs
      rw [hb] at hs
      simp [lits, reachBytes] at hs hz
      omega
  clear hA0 hval0
  refine (walk W n0 b0 n1 b1 (.slice a2 len2 cap2) l2 hb2 a3 w3 (by rw [len_2]; exact reach2)).mono fun e W' ⟨he, bel⟩ => ?_
  subst he
  exact ⟨_, rfl, _, _, _, [], _, [], hW', trodAll_mk1 (shut_bool Try.underlying4 _), (trodAll_cons_mk (shut_int Try.underlying5 w0) (trodAll_cons_mk (shut_int Try.underlying42 w1) (trodAll_cons_mk (Below.trod laidOut (by kernel_rfl) (of_decide_eq_true (by kernel_rfl)) k2 bel lt2) (trodAll_cons_mk (shut_int Try.underlying3 w3) trodAll_mk0)))), rfl, bel.frame _, fun h => by cases h⟩

theorem proved : Rows.SimfsBlocksSaid :=
  OpenClaim.holds_of_wide 4 Try.f4 rfl rfl rfl rfl rfl rfl rfl ⟨rfl, rfl, rfl, rfl, rfl⟩ rfl rfl rfl rfl rfl (by kernel_rfl) Try.func4 (by kernel_rfl)
    (of_decide_eq_true (by kernel_rfl)) (by unfold Func.isWrapper; first | (rw [if_pos (by decide +kernel)]; kernel_rfl) | (rw [if_neg (by decide +kernel)]; exact ⟨rfl, rfl⟩))
    (fun os started H enc _ => lifted os started H enc)

end Go.Proofs.Ytmcbjcbnckpfkaa.simfsBlocks
