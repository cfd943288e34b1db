/-
  SimfsTwice: what a failure leaves is sure: it goes on as the document says, and another failure leaves all of it; a copy goes its own way. No condition.
-/
import Derived.Test.YtmcbjcbnckpfkaaGreatPt26
import Derived.Test.YtmcbjcbnckpfkaaGreatPt07
import Derived.Test.YtmcbjcbnckpfkaaGreatPt39
import Derived.Test.YtmcbjcbnckpfkaaGreatPt40
import Derived.Test.YtmcbjcbnckpfkaaGreatPt13
import Derived.Test.YtmcbjcbnckpfkaaGreatPt08
import Derived.Test.YtmcbjcbnckpfkaaGreatPt10
import Derived.Test.YtmcbjcbnckpfkaaGreatPt04
import Derived.Test.YtmcbjcbnckpfkaaGreatPt38
import Derived.Test.YtmcbjcbnckpfkaaGreatPt02
import Derived.Deep.WholeRow
import Derived.Deep.RegionHeld3
import Derived.Deep.MidRow
namespace Go.Proofs.YtmcbjcbnckpfkaaGreat.simfsTwice
open Go.ChangeShapes Go.WideShapes Go.ChangeAt Go.RowKit
open Go.ChangeMaps (open_string shut_string)
set_option linter.unusedVariables false

set_option maxHeartbeats 4000000 in
set_option maxRecDepth 100000 in
theorem walk (w : World) (a0 : Int) (w0 : (Lit.int .i64 a0).wf = true) (v1 : Value) (l1 : List Sf.Op) (h1 : Dv w w.heap.size v1 l1) (v2 : Value) (l2 : List Int) (h2 : Lv iK w w.heap.size v2 l2) (v3 : Value) (l3 : List Sf.Op) (h3 : Dv w w.heap.size v3 l3) (v4 : Value) (l4 : List Int) (h4 : Lv iK w w.heap.size v4 l4) :
    Calls Tryz.prog 5 #[.int .i64 a0, v1, v2, v3, v4] w (IsBool true w) := by
  have hb0 := bounds_i64 w0
  have HI : Hid (I64 a0) := by unfold Hid I64; omega
  clear w0 hb0
  obtain ⟨A, n, c, hv⟩ : ∃ A n c, v1 = .slice A n c := by obtain ⟨us, _, ⟨A, c, e, _⟩, _⟩ := h1; exact ⟨A, _, c, e⟩
  subst hv
  obtain rfl := h1.len_
  have hml1 : l1.length ≤ 9223372036854775807 := by obtain ⟨us, e, h2, _⟩ := h1; have := h2.len_; simp only [maxLen] at this; omega
  have H1 := Lib.hid h1
  clear h1
  obtain ⟨A3, n, c3, hv⟩ : ∃ A n c, v3 = .slice A n c := by obtain ⟨us, _, ⟨A, c, e, _⟩, _⟩ := h3; exact ⟨A, _, c, e⟩
  subst hv
  obtain rfl := h3.len_
  have hml3 : l3.length ≤ 9223372036854775807 := by obtain ⟨us, e, h2, _⟩ := h3; have := h2.len_; simp only [maxLen] at this; omega
  have H3 := Lib.hid h3
  clear h3
  have H2 := Lib.hid h2
  clear h2
  have H4 := Lib.hid h4
  clear h4
  have HN := Lib.hid (pnew_any a0 HI.out w)
  go_enter Tryz.func5, Tryz.ntmps5
  have HB1 := Lib.hid (Below.refl w.heap.size w)
  by_cases hbad : a0 < 0 ∨ 1048576 < a0
  · go_wp2_with fail
    refine HN.out.mono ?_
    intro e w1 h
    rw [if_pos hbad] at h
    obtain ⟨rfl, hb⟩ := h
    have HB2 := Lib.hid (HB1.out.trans (hb.mono HB1.out.size))
    clear HB1 hb HN
    have HR := Lib.hid (rfnew_any a0 HI.out w1)
    go_wp2_with fail
    refine HR.out.mono ?_
    intro e w2 h
    rw [if_pos hbad] at h
    obtain ⟨rfl, hb⟩ := h
    have HB3 := Lib.hid (HB2.out.trans (hb.mono HB2.out.size))
    clear HB2 hb HR hbad
    have C4 := Lib.hid (works_sf w2)
    go_wp2_with fail
    refine C4.out.mono ?_
    rintro e6 w5 ⟨rfl, hb⟩
    have HB7 := Lib.hid (HB3.out.trans (hb.mono HB3.out.size))
    clear hb C4 HB3
    go_wp2
    go_ret
    exact ⟨rfl, HB7.out⟩
  · go_wp2_with fail
    refine HN.out.mono ?_
    intro e w1 h
    rw [if_neg hbad] at h
    obtain ⟨b, f, rfl, hd, hf, hb⟩ := h
    have HF8 := Lib.hid (hf.mono HB1.out.size)
    have HB9 := Lib.hid (HB1.out.trans (hb.mono HB1.out.size))
    have HD10 := Lib.hid hd
    clear HB1 hd hf hb HN
    have HR := Lib.hid (rfnew_any a0 HI.out w1)
    go_wp2_with fail
    refine HR.out.mono ?_
    intro e w2 h
    rw [if_neg hbad] at h
    obtain ⟨c2, g, rfl, hd, hf, hb⟩ := h
    have HA11 := Lib.hid ((pdisk_law.lt HD10.out).apart hf)
    have HF12 := Lib.hid (hf.mono HB9.out.size)
    have HB13 := Lib.hid (HB9.out.trans (hb.mono HB9.out.size))
    have HD14 := Lib.hid (pdisk_law.below HD10.out hb)
    have HD15 := Lib.hid hd
    clear HB9 HD10 hd hf hb HR hbad
    obtain ⟨gr, hg⟩ : ∃ g, Sf.great l1 = g := ⟨_, rfl⟩
    have HG16 := Lib.hid hg
    have C17 := Lib.hid (great_any (.slice A l1.length c) w.heap.size l1 w2 (H1.out.below_ HB13.out (Nat.le_refl _)) HB13.out.size)
    rw [hg] at C17
    clear hg
    go_wp2_with fail
    refine C17.out.mono ?_
    rintro e19 w18 ⟨rfl, hb⟩
    have HB20 := Lib.hid (HB13.out.trans (hb.mono HB13.out.size))
    have HD21 := Lib.hid (pdisk_law.below HD14.out hb)
    have HD22 := Lib.hid (rdisk_law.below HD15.out hb)
    clear HB13 HD14 HD15 hb C17
    cases gr with
    | true =>
      have C23 := Lib.hid (works_sf w18)
      go_wp2_with fail
      refine C23.out.mono ?_
      rintro e25 w24 ⟨rfl, hb⟩
      have HB26 := Lib.hid (HB20.out.trans (hb.mono HB20.out.size))
      clear hb C23 HB20
      go_wp2
      go_ret
      exact ⟨rfl, HB26.out⟩
    | false =>
      have hl1 : l1.length ≤ 120 := by have hg := HG16.out; unfold Sf.great at hg; simp at hg; omega
      clear HG16
      obtain ⟨gs, hg⟩ : ∃ g, Sf.great l3 = g := ⟨_, rfl⟩
      have HG27 := Lib.hid hg
      have C28 := Lib.hid (great_any (.slice A3 l3.length c3) w.heap.size l3 w18 (H3.out.below_ HB20.out (Nat.le_refl _)) HB20.out.size)
      rw [hg] at C28
      clear hg
      go_wp2_with fail
      refine C28.out.mono ?_
      rintro e30 w29 ⟨rfl, hb⟩
      have HB31 := Lib.hid (HB20.out.trans (hb.mono HB20.out.size))
      have HD32 := Lib.hid (pdisk_law.below HD21.out hb)
      have HD33 := Lib.hid (rdisk_law.below HD22.out hb)
      clear HB20 HD21 HD22 hb C28
      cases gs with
      | true =>
        have C34 := Lib.hid (works_sf w29)
        go_wp2_with fail
        refine C34.out.mono ?_
        rintro e36 w35 ⟨rfl, hb⟩
        have HB37 := Lib.hid (HB31.out.trans (hb.mono HB31.out.size))
        clear hb C34 HB31
        go_wp2
        go_ret
        exact ⟨rfl, HB37.out⟩
      | false =>
        have hl3 : l3.length ≤ 120 := by have hg := HG27.out; unfold Sf.great at hg; simp at hg; omega
        clear HG27
        go_wp2
        go_loopw [15] (fun i wr => ∃ (k : Nat) (fp gp : Fp) (t : Sf.St), k ≤ l1.length ∧ i = .int .i64 (k : Nat) ∧ Hid (PDisk wr fp t b) ∧ Hid (fp.From w.heap.size) ∧ Hid (RDisk wr gp t c2) ∧ Hid (gp.From w.heap.size) ∧ Hid (fp.Apart gp) ∧ Hid (t.acts ≤ k) ∧ Below w.heap.size w wr) (fun i _ => l1.length - (intOf i).toNat)
        case atStart => exact ⟨0, f, g, Sf.new a0.toNat, by omega, rfl, HD32.out, HF8.out, HD33.out, HF12.out, HA11.out, Nat.zero_le _, HB31.out⟩
        case round =>
          obtain ⟨k, fp, gp, t, hk, rfl, HDf, HFf, HDg, HFg, HPA, HAr, hbr⟩ := hrel
          have HBr := Lib.hid hbr
          clear hbr HB31 HD32 HF8 HD33 HF12 HA11
          by_cases hlt : k < l1.length
          · have hki : (k : Int) < (l1.length : Int) := by omega
            have hk0 : (0 : Int) ≤ (k : Int) := by omega
            have wk : IntKind.i64.wrap ((k : Int) + 1) = (k : Int) + 1 := by rw [IntKind.wrap_i64]; omega
            obtain ⟨bo, off, x, o, rfl, hbo, hraw, hq, hdd, hrg⟩ := H1.out.at_ hlt
            change w.rangeAt bo (off + k * 5) [.int .u8 (x.call : Nat), .string x.name, .string x.to, .int .i64 x.at_, .slice x.A x.n x.c] at hrg
            have RGx : Hid (∀ w', Below w.heap.size w w' → w'.rangeAt bo (off + k * 5) [.int .u8 (x.call : Nat), .string x.name, .string x.to, .int .i64 x.at_, .slice x.A x.n x.c]) := fun w' hb' q u hj => (hb'.cell (p := ⟨bo, off + k * 5 + q, none⟩) (by show bo < _; omega)).trans (hrg q u hj)
            have DDx := Lib.hid hdd
            have RWx := Lib.hid hraw
            have HQx := Lib.hid hq
            have hcox : o.call = x.call := hdd.1
            clear hrg hq hdd hraw hbo
            have HFEW : Hid (Sf.Few t) := by have := HAr.out; unfold Hid Sf.Few; omega
            have HAL := Lib.hid (Sf.acts_le t o)
            obtain ⟨r, hr⟩ : ∃ r, Sf.doOp t o = r := ⟨_, rfl⟩
            rw [hr] at HAL
            have HR := Lib.hid hr
            clear hr
            have RGN := Lib.hid (RGx.out wr HBr.out)
            have C38 := Lib.hid (pdo_any HDf.out HFEW.out x o w.heap.size RWx.out (DDx.out.below_ HBr.out (Nat.le_refl _)) HBr.out.size (HFf.out.not_arg DDx.out.2.2.2.2))
            unfold deedC at C38
            rw [HR.out] at C38
            go_wp2_with (refine wpList_load_mid rfl _ _ rfl bo (off + k * 5) rfl [.int .u8 (x.call : Nat), .string x.name, .string x.to, .int .i64 x.at_, .slice x.A x.n x.c] _ RGN.out Tryz.underlying35 rfl (by kernel_rfl) ?_)
            refine C38.out.mono ?_
            rintro e40 w39 ⟨rfl, f41, hd, hn, ht⟩
            have HB42 := Lib.hid (HFf.out.below HBr.out HBr.out.size ht)
            have HF43 := Lib.hid (hn.from_ HFf.out HBr.out.size)
            have HA44 := Lib.hid (HPA.out.next hn (rdisk_law.lt HDg.out))
            have HD45 := Lib.hid (rdisk_law.turned HDg.out ht HPA.out.2)
            have HD46 := Lib.hid hd
            clear HBr HDf HFf HPA HDg hd hn ht C38 RGN
            have RGN := Lib.hid (RGx.out w39 HB42.out)
            have C47 := Lib.hid (rdid_any HD45.out HFEW.out x o w.heap.size RWx.out (DDx.out.below_ HB42.out (Nat.le_refl _)) HB42.out.size (HFg.out.not_arg DDx.out.2.2.2.2))
            unfold deedC at C47
            rw [HR.out] at C47
            go_wp2_with (refine wpList_load_mid rfl _ _ rfl bo (off + k * 5) rfl [.int .u8 (x.call : Nat), .string x.name, .string x.to, .int .i64 x.at_, .slice x.A x.n x.c] _ RGN.out Tryz.underlying35 rfl (by kernel_rfl) ?_)
            refine C47.out.mono ?_
            rintro e49 w48 ⟨rfl, f50, hd, hn, ht⟩
            have HB51 := Lib.hid (HFg.out.below HB42.out HB42.out.size ht)
            have HF52 := Lib.hid (hn.from_ HFg.out HB42.out.size)
            have HA53 := Lib.hid ((HA44.out.symm.next hn (pdisk_law.lt HD46.out)).symm)
            have HD54 := Lib.hid (pdisk_law.turned HD46.out ht HA44.out.1)
            have HD55 := Lib.hid hd
            clear HB42 HD45 HFg HA44 HD46 hd hn ht C47 RGN
            go_wp2
            go_roundw
            case rel => exact ⟨k + 1, f41, f50, r.2, by omega, by go_num, HD54.out, HF43.out, HD55.out, HF52.out, HA53.out, by have := HAL.out; have := HAr.out; unfold Hid; omega, HB51.out⟩
            case measure => simp [intOf]; omega
          · have hki : ¬ (k : Int) < (l1.length : Int) := by omega
            obtain ⟨Q, hQ⟩ : ∃ Q, Sf.fail t l2 = Q := ⟨_, rfl⟩
            have HQ := Lib.hid hQ
            have HQQ := Lib.hid (Sf.fail_fail t l2 l4)
            rw [hQ] at HQQ
            have HQA : Hid (Q.acts = 0) := by unfold Hid; rw [← hQ]; rfl
            have HQR : Hid (Q.row = [] ∧ ∀ f ∈ Q.files, f.row = []) := by
              unfold Hid
              rw [← hQ]
              exact ⟨rfl, fun f hf => by obtain ⟨b, _, rfl⟩ := List.mem_map.1 hf; rfl⟩
            clear hQ
            have CF := Lib.hid (pfail_any HDf.out v2 w.heap.size l2 (H2.out.below_ HBr.out (Nat.le_refl _)) HBr.out.size)
            rw [HQ.out] at CF
            go_wp2_with fail
            refine CF.out.mono ?_
            rintro e21 w21 ⟨bx, fx, rfl, hd, hf, hb⟩
            have HA56 := Lib.hid ((pdisk_law.lt HDf.out).apart hf)
            have HA57 := Lib.hid ((rdisk_law.lt HDg.out).apart hf)
            have HF58 := Lib.hid (hf.mono HBr.out.size)
            have HB59 := Lib.hid (HBr.out.trans (hb.mono HBr.out.size))
            have HD60 := Lib.hid (pdisk_law.below HDf.out hb)
            have HD61 := Lib.hid (rdisk_law.below HDg.out hb)
            have HD62 := Lib.hid hd
            clear HBr HDf HDg hd hf hb CF
            have CG := Lib.hid (rffail_any HD61.out v2 w.heap.size l2 (H2.out.below_ HB59.out (Nat.le_refl _)) HB59.out.size)
            rw [HQ.out] at CG
            go_wp2_with fail
            refine CG.out.mono ?_
            rintro e22 w22 ⟨by2, fy, rfl, hd, hf, hb⟩
            have HA63 := Lib.hid ((pdisk_law.lt HD60.out).apart hf)
            have HA64 := Lib.hid ((rdisk_law.lt HD61.out).apart hf)
            have HA65 := Lib.hid ((pdisk_law.lt HD62.out).apart hf)
            have HF66 := Lib.hid (hf.mono HB59.out.size)
            have HB67 := Lib.hid (HB59.out.trans (hb.mono HB59.out.size))
            have HD68 := Lib.hid (pdisk_law.below HD60.out hb)
            have HD69 := Lib.hid (rdisk_law.below HD61.out hb)
            have HD70 := Lib.hid (pdisk_law.below HD62.out hb)
            have HD71 := Lib.hid hd
            clear HB59 HD60 HD61 HD62 hd hf hb CG
            clear HD68
            clear HD69
            have CZ := Lib.hid (pfail_any HD70.out v4 w.heap.size l4 (H4.out.below_ HB67.out (Nat.le_refl _)) HB67.out.size)
            rw [HQQ.out] at CZ
            go_wp2_with fail
            refine CZ.out.mono ?_
            rintro e23 w23 ⟨bz, fz, rfl, hd, hf, hb⟩
            have HA72 := Lib.hid ((pdisk_law.lt HD70.out).apart hf)
            have HA73 := Lib.hid ((rdisk_law.lt HD71.out).apart hf)
            have HF74 := Lib.hid (hf.mono HB67.out.size)
            have HB75 := Lib.hid (HB67.out.trans (hb.mono HB67.out.size))
            have HD76 := Lib.hid (pdisk_law.below HD70.out hb)
            have HD77 := Lib.hid (rdisk_law.below HD71.out hb)
            have HD78 := Lib.hid hd
            clear HB67 HD70 HD71 hd hf hb CZ
            have CC := Lib.hid (pcopyFS_any HD76.out HQR.out.1 HQR.out.2)
            go_wp2_with fail
            refine CC.out.mono ?_
            rintro e24 w24 ⟨bc, fc, rfl, hd, hm, hr, hb⟩
            have HXC := Lib.hid (Fp.copy_apart (pdisk_law.sep HD76.out) (pdisk_law.lt HD76.out) hm hr)
            have HYC := Lib.hid (Fp.copy_other HA65.out.symm (rdisk_law.lt HD77.out) hm hr)
            have HB79 := Lib.hid (HB75.out.trans (hb.mono HB75.out.size))
            have HD80 := Lib.hid (pdisk_law.below HD76.out hb)
            have HD81 := Lib.hid (rdisk_law.below HD77.out hb)
            have HD82 := Lib.hid (pdisk_law.below HD78.out hb)
            have HDc := Lib.hid hd
            clear HB75 HD76 HD77 HD78 hb CC hd hm hr
            have hnn : ∀ W, (binOp .eql 23 (.pointer (some ⟨bc, 0, none⟩)) (.pointer none)).run Tryz.prog W = .ok (.bool false) W := fun W => disk_not_nil bc W
            have OFX : Hid (fx.Off (fun k => w24.heap.size = k)) := (pdisk_law.lt HD80.out).off (fun k hk => by omega)
            have OFY : Hid (fy.Off (fun k => w24.heap.size = k)) := (rdisk_law.lt HD81.out).off (fun k hk => by omega)
            have hYb : Below w24.heap.size w24 (w24.alloc (.cells #[.int .u8 0, .string { data := #[97] }, .string { data := #[] }, .int .i64 0, .slice none 0 0] 35)) := (Below.refl _ _).alloc (Nat.le_refl _) _
            have hYh := heap_alloc_new w24 (.cells #[.int .u8 0, .string { data := #[97] }, .string { data := #[] }, .int .i64 0, .slice none 0 0] 35)
            have hYs : w24.heap.size < (w24.alloc (.cells #[.int .u8 0, .string { data := #[97] }, .string { data := #[] }, .int .i64 0, .slice none 0 0] 35)).heap.size := by simp
            obtain ⟨YY, hYY⟩ : ∃ Y, w24.alloc (.cells #[.int .u8 0, .string { data := #[97] }, .string { data := #[] }, .int .i64 0, .slice none 0 0] 35) = Y := ⟨_, rfl⟩
            rw [hYY] at hYb hYh hYs
            have HLAST : Hid (∀ w', Below YY.heap.size YY w' → w'.heap[w24.heap.size]? = some (.cells #[.int .u8 0, .string { data := #[97] }, .string { data := #[] }, .int .i64 0, .slice none 0 0] 35 (0, 0))) := fun w' hb' => (hb'.block _ hYs).trans hYh
            have hb := hYb
            have HB83 := Lib.hid (HB79.out.trans (hb.mono HB79.out.size))
            have HD84 := Lib.hid (pdisk_law.below HD80.out hb)
            have HD85 := Lib.hid (rdisk_law.below HD81.out hb)
            have HD86 := Lib.hid (pdisk_law.below HD82.out hb)
            have HD87 := Lib.hid (pdisk_law.below HDc.out hb)
            have HBY := Lib.hid (Below.refl YY.heap.size YY)
            clear HB79 HD80 HD81 HD82 HDc hb hYb hYh hYs
            have HYY := Lib.hid hYY
            clear hYY
            have HXL := Lib.hid (HLAST.out YY HBY.out)
            have CA := Lib.hid (alike_any HD86.out HD85.out (⟨0, ⟨#[97]⟩, ⟨#[]⟩, 0, none, 0, 0⟩ : Raw) ⟨by decide, by decide +kernel, by decide +kernel, by unfold I64; decide⟩)
            change Hid (Calls _ _ #[_, _, .agg #[.int .u8 0, .string { data := #[97] }, .string { data := #[] }, .int .i64 0, .slice none 0 0]] _ _) at CA
            go_wp2_with (first | (rw [HYY.out]; refine wpList_load_row_onT (by rfl) _ _ rfl w24.heap.size rfl 35 #[.int .u8 0, .string { data := #[97] }, .string { data := #[] }, .int .i64 0, .slice none 0 0] (0, 0) _ HXL.out Tryz.underlying35 rfl (by kernel_rfl) ?_))
            refine CA.out.mono ?_
            rintro e25 w25 ⟨rfl, hb⟩
            have HBY88 := Lib.hid (HBY.out.trans (hb.mono HBY.out.size))
            clear HBY
            have HB89 := Lib.hid (HB83.out.trans (hb.mono HB83.out.size))
            have HD90 := Lib.hid (pdisk_law.below HD84.out hb)
            have HD91 := Lib.hid (rdisk_law.below HD85.out hb)
            have HD92 := Lib.hid (pdisk_law.below HD86.out hb)
            have HD93 := Lib.hid (pdisk_law.below HD87.out hb)
            clear HB83 HD84 HD85 HD86 HD87 hb CA HXL HYY hnn
            clear HD92
            have CW := Lib.hid (rfcopyFS_any HD91.out)
            go_wp2_with fail
            refine CW.out.mono ?_
            rintro e26 w26 ⟨bw, fw, rfl, hd, hm, hr, hb⟩
            have HYW := Lib.hid (Fp.copy_apart (rdisk_law.sep HD91.out) (rdisk_law.lt HD91.out) hm hr)
            have HXW := Lib.hid (Fp.copy_other HA65.out (pdisk_law.lt HD90.out) hm hr)
            have HBY94 := Lib.hid (HBY88.out.trans (hb.mono HBY88.out.size))
            clear HBY88
            have HB95 := Lib.hid (HB89.out.trans (hb.mono HB89.out.size))
            have HD96 := Lib.hid (pdisk_law.below HD90.out hb)
            have HD97 := Lib.hid (rdisk_law.below HD91.out hb)
            have HD98 := Lib.hid (pdisk_law.below HD93.out hb)
            have HDw := Lib.hid hd
            clear HB89 HD90 HD91 HD93 hb CW hd hm hr
            clear hki hk HAr
            go_wp2
            go_loopw [24] (fun i ws => ∃ (j : Nat) (xp yp : Fp) (s : Sf.St), j ≤ l3.length ∧ i = .int .i64 (j : Nat) ∧ Hid (PDisk ws xp s bx) ∧ Hid (xp.From w.heap.size) ∧ Hid (RDisk ws yp s by2) ∧ Hid (yp.From w.heap.size) ∧ Hid (PDisk ws fc Q bc) ∧ Hid (RDisk ws fw Q bw) ∧ Hid (xp.Apart yp) ∧ Hid (xp.Apart fc) ∧ Hid (yp.Apart fc) ∧ Hid (xp.Apart fw) ∧ Hid (yp.Apart fw) ∧ Hid (s.acts ≤ j) ∧ Hid (ws.heap[w24.heap.size]? = some (.cells #[.int .u8 0, .string { data := #[97] }, .string { data := #[] }, .int .i64 0, .slice none 0 0] 35 (0, 0))) ∧ Hid (xp.Off (fun k => w24.heap.size = k)) ∧ Hid (yp.Off (fun k => w24.heap.size = k)) ∧ Below w.heap.size w ws) (fun i _ => l3.length - (intOf i).toNat)
            case atStart => exact ⟨0, fx, fy, Q, by omega, rfl, HD96.out, HF58.out, HD97.out, HF66.out, HD98.out, HDw.out, HA65.out, HXC.out, HYC.out, HXW.out, HYW.out, by rw [HQA.out]; exact Nat.zero_le _, HLAST.out _ HBY94.out, OFX.out, OFY.out, HB95.out⟩
            case round =>
              obtain ⟨j, xp, yp, s, hj, rfl, KX, KXF, KY, KYF, KC, KW, AXY, AXC, AYC, AXW, AYW, HSA, HLB, LBX, LBY, hbr⟩ := hrel
              have HBs := Lib.hid hbr
              clear hbr HB95 HBY94 OFX OFY HLAST HD96 HF58 HD97 HF66 HD98 HDw HA65 HXC HYC HXW HYW
              by_cases hlt3 : j < l3.length
              · have hki : (j : Int) < (l3.length : Int) := by omega
                have hk0 : (0 : Int) ≤ (j : Int) := by omega
                have wk : IntKind.i64.wrap ((j : Int) + 1) = (j : Int) + 1 := by rw [IntKind.wrap_i64]; omega
                obtain ⟨bo, off, x, o, rfl, hbo, hraw, hq, hdd, hrg⟩ := H3.out.at_ hlt3
                change w.rangeAt bo (off + j * 5) [.int .u8 (x.call : Nat), .string x.name, .string x.to, .int .i64 x.at_, .slice x.A x.n x.c] at hrg
                have RGx : Hid (∀ w', Below w.heap.size w w' → w'.rangeAt bo (off + j * 5) [.int .u8 (x.call : Nat), .string x.name, .string x.to, .int .i64 x.at_, .slice x.A x.n x.c]) := fun w' hb' q u hj => (hb'.cell (p := ⟨bo, off + j * 5 + q, none⟩) (by show bo < _; omega)).trans (hrg q u hj)
                have DDx := Lib.hid hdd
                have RWx := Lib.hid hraw
                have HQx := Lib.hid hq
                have hcox : o.call = x.call := hdd.1
                clear hrg hq hdd hraw hbo
                have HFEW : Hid (Sf.Few s) := by have := HSA.out; unfold Hid Sf.Few; omega
                have HAL := Lib.hid (Sf.acts_le s o)
                obtain ⟨r, hr⟩ : ∃ r, Sf.doOp s o = r := ⟨_, rfl⟩
                rw [hr] at HAL
                have HR := Lib.hid hr
                clear hr
                have X0 := Lib.hid HBs.out.drew
                have F0 := Lib.hid (pdisk_law.drew KX.out)
                have G0 := Lib.hid (rdisk_law.drew KY.out)
                have C0 := Lib.hid (pdisk_law.drew KC.out)
                have W0 := Lib.hid (rdisk_law.drew KW.out)
                have SC : Hid (∀ w', Below w.heap.size w w' → (w'.cell? ⟨bo, off + j * 5, none⟩ = some (.int .u8 (x.call : Nat)) ∧ w'.cell? ⟨bo, off + j * 5 + 1, none⟩ = some (.string x.name) ∧ w'.cell? ⟨bo, off + j * 5 + 2, none⟩ = some (.string x.to) ∧ w'.cell? ⟨bo, off + j * 5 + 3, none⟩ = some (.int .i64 x.at_) ∧ w'.cell? ⟨bo, off + j * 5 + 4, none⟩ = some (.slice x.A x.n x.c))) := fun w' hb' => ⟨RGx.out w' hb' 0 _ rfl, RGx.out w' hb' 1 _ rfl, RGx.out w' hb' 2 _ rfl, RGx.out w' hb' 3 _ rfl, RGx.out w' hb' 4 _ rfl⟩
                have s0 := SC.out wr.drew X0.out
                have J1 := Lib.hid (pdo_any F0.out HFEW.out x o w.heap.size RWx.out (DDx.out.below_ X0.out (Nat.le_refl _)) X0.out.size (KXF.out.not_arg DDx.out.2.2.2.2))
                unfold deedC at J1
                rw [HR.out] at J1
                have q0 : (((r.1 : Nat) : Int) != ((r.1 : Nat) : Int)) = false := by simp
                have LT0 : w24.heap.size < wr.heap.size := by apply Decidable.byContradiction; intro hn; have := HLB.out; rw [Array.getElem?_eq_none (by omega)] at this; cases this
                have HLT0 := Lib.hid LT0
                clear LT0
                have HLD : Hid (wr.drew.heap[w24.heap.size]? = some (.cells #[.int .u8 0, .string { data := #[97] }, .string { data := #[] }, .int .i64 0, .slice none 0 0] 35 (0, 0))) := HLB.out
                go_wp2
                go_region_held3 (fun w' => w'.cell? ⟨bo, off + j * 5, none⟩ = some (.int .u8 (x.call : Nat)) ∧ w'.cell? ⟨bo, off + j * 5 + 1, none⟩ = some (.string x.name) ∧ w'.cell? ⟨bo, off + j * 5 + 2, none⟩ = some (.string x.to) ∧ w'.cell? ⟨bo, off + j * 5 + 3, none⟩ = some (.int .i64 x.at_) ∧ w'.cell? ⟨bo, off + j * 5 + 4, none⟩ = some (.slice x.A x.n x.c)) (first | exact s0 | exact s1 | exact s2)
                  (first
                    | (go_at_call 10; (with_reducible refine J1.out.mono ?_); rintro e1 x1 ⟨rfl, f1, hd, hn, ht⟩; have X1 := Lib.hid (KXF.out.below X0.out X0.out.size ht); have F1 := Lib.hid hd; have HF1 := Lib.hid (hn.from_ KXF.out X0.out.size); have G1 := Lib.hid (rdisk_law.turned G0.out ht AXY.out.2); have C1 := Lib.hid (pdisk_law.turned C0.out ht AXC.out.2); have W1 := Lib.hid (rdisk_law.turned W0.out ht AXW.out.2); have HLB1 := Lib.hid ((ht.block _ HLT0.out (LBX.out _ rfl).1).trans HLD.out); have LBX1 := Lib.hid (off_nextB LBX.out hn HLT0.out); have HLT1 := Lib.hid (Nat.lt_of_lt_of_le HLT0.out ht.size); have HP1 := Lib.hid (AXY.out.next hn (rdisk_law.lt G0.out)); have HP2 := Lib.hid (AXC.out.next hn (pdisk_law.lt C0.out)); have HP3 := Lib.hid (AXW.out.next hn (rdisk_law.lt W0.out)); have s1 := SC.out x1 X1.out; have J2 := Lib.hid (rdid_any G1.out HFEW.out x o w.heap.size RWx.out (DDx.out.below_ X1.out (Nat.le_refl _)) X1.out.size (KYF.out.not_arg DDx.out.2.2.2.2)); unfold deedC at J2; rw [HR.out] at J2; clear hd hn ht J1 s0)
                    | (go_at_call 11; (with_reducible refine J2.out.mono ?_); rintro e2 x2 ⟨rfl, g2, hd, hn, ht⟩; have X2 := Lib.hid (KYF.out.below X1.out X1.out.size ht); have G2 := Lib.hid hd; have HG2 := Lib.hid (hn.from_ KYF.out X1.out.size); have F2 := Lib.hid (pdisk_law.turned F1.out ht HP1.out.1); have C2 := Lib.hid (pdisk_law.turned C1.out ht AYC.out.2); have W2 := Lib.hid (rdisk_law.turned W1.out ht AYW.out.2); have HLB2 := Lib.hid ((ht.block _ HLT1.out (LBY.out _ rfl).1).trans HLB1.out); have LBY2 := Lib.hid (off_nextB LBY.out hn HLT1.out); have HP4 := Lib.hid ((HP1.out.symm.next hn (pdisk_law.lt F1.out)).symm); have HP5 := Lib.hid (AYC.out.next hn (pdisk_law.lt C1.out)); have HP6 := Lib.hid (AYW.out.next hn (rdisk_law.lt W1.out)); have s2 := SC.out x2 X2.out; clear hd hn ht J2 s1))
                all_goals
                  clear RGx DDx RWx HQx SC s2
                  go_wp2
                  go_roundw
                  case rel => exact ⟨j + 1, f1, g2, r.2, by omega, by go_num, F2.out, HF1.out, G2.out, HG2.out, C2.out, W2.out, HP4.out, HP2.out, HP5.out, HP3.out, HP6.out, by have := HAL.out; have := HSA.out; unfold Hid; omega, HLB2.out, LBX1.out, LBY2.out, X2.out⟩
                  case measure => simp [intOf]; omega
              · have hki : ¬ (j : Int) < (l3.length : Int) := by omega
                clear LBX LBY hj hki
                obtain ⟨U, hU⟩ : ∃ U, Sf.fail s l4 = U := ⟨_, rfl⟩
                have HU := Lib.hid hU
                clear hU
                have CU := Lib.hid (pfail_any KX.out v4 w.heap.size l4 (H4.out.below_ HBs.out (Nat.le_refl _)) HBs.out.size)
                rw [HU.out] at CU
                go_wp2_with fail
                refine CU.out.mono ?_
                rintro e40 w40 ⟨bu, fu, rfl, hd, hf, hb⟩
                have hlt9 : w24.heap.size < wr.heap.size := by apply Decidable.byContradiction; intro hn; have := HLB.out; rw [Array.getElem?_eq_none (by omega)] at this; cases this
                have HLC : Hid (w40.heap[w24.heap.size]? = some (.cells #[.int .u8 0, .string { data := #[97] }, .string { data := #[] }, .int .i64 0, .slice none 0 0] 35 (0, 0))) := (hb.block _ hlt9).trans HLB.out
                have hlt8 : w24.heap.size < w40.heap.size := Nat.lt_of_lt_of_le hlt9 hb.size
                have HL8 := Lib.hid hlt8
                clear hlt9 hlt8 HLB KXF KYF
                have HA99 := Lib.hid ((pdisk_law.lt KX.out).apart hf)
                have HA100 := Lib.hid ((rdisk_law.lt KY.out).apart hf)
                have HA101 := Lib.hid ((pdisk_law.lt KC.out).apart hf)
                have HA102 := Lib.hid ((rdisk_law.lt KW.out).apart hf)
                have HF103 := Lib.hid (hf.mono HBs.out.size)
                have HB104 := Lib.hid (HBs.out.trans (hb.mono HBs.out.size))
                have HD105 := Lib.hid (pdisk_law.below KX.out hb)
                have HD106 := Lib.hid (rdisk_law.below KY.out hb)
                have HD107 := Lib.hid (pdisk_law.below KC.out hb)
                have HD108 := Lib.hid (rdisk_law.below KW.out hb)
                have HD109 := Lib.hid hd
                clear HBs KX KY KC KW hd hf hb CU
                clear HF103
                have X0 := Lib.hid HB104.out.drew
                have F0 := Lib.hid (pdisk_law.drew HD105.out)
                have G0 := Lib.hid (rdisk_law.drew HD106.out)
                have C0 := Lib.hid (pdisk_law.drew HD107.out)
                have W0 := Lib.hid (rdisk_law.drew HD108.out)
                have U0 := Lib.hid (pdisk_law.drew HD109.out)
                have SC : Hid (∀ w', Below w40.heap.size w40.drew w' → (w'.cell? ⟨w24.heap.size, 0, none⟩ = some (.int .u8 0) ∧ w'.cell? ⟨w24.heap.size, 1, none⟩ = some (.string { data := #[97] }) ∧ w'.cell? ⟨w24.heap.size, 2, none⟩ = some (.string { data := #[] }) ∧ w'.cell? ⟨w24.heap.size, 3, none⟩ = some (.int .i64 0) ∧ w'.cell? ⟨w24.heap.size, 4, none⟩ = some (.slice none 0 0))) := fun w' hb' => by have h : w'.heap[w24.heap.size]? = _ := (hb'.block _ HL8.out).trans HLC.out; exact ⟨by rw [cell_of_row _ _ 0 _ _ _ h]; rfl, by rw [cell_of_row _ _ 1 _ _ _ h]; rfl, by rw [cell_of_row _ _ 2 _ _ _ h]; rfl, by rw [cell_of_row _ _ 3 _ _ _ h]; rfl, by rw [cell_of_row _ _ 4 _ _ _ h]; rfl⟩
                have Z0 : Hid (Below w40.heap.size w40.drew w40.drew) := Below.refl _ _
                have s0 := SC.out _ Z0.out
                have J1 := Lib.hid (alike_any F0.out G0.out (⟨0, ⟨#[97]⟩, ⟨#[]⟩, 0, none, 0, 0⟩ : Raw) ⟨by decide, by decide +kernel, by decide +kernel, by unfold I64; decide⟩)
                change Hid (Calls _ _ #[_, _, .agg #[.int .u8 0, .string { data := #[97] }, .string { data := #[] }, .int .i64 0, .slice none 0 0]] _ _) at J1
                go_wp2
                go_region_held3 (fun w' => w'.cell? ⟨w24.heap.size, 0, none⟩ = some (.int .u8 0) ∧ w'.cell? ⟨w24.heap.size, 1, none⟩ = some (.string { data := #[97] }) ∧ w'.cell? ⟨w24.heap.size, 2, none⟩ = some (.string { data := #[] }) ∧ w'.cell? ⟨w24.heap.size, 3, none⟩ = some (.int .i64 0) ∧ w'.cell? ⟨w24.heap.size, 4, none⟩ = some (.slice none 0 0)) (first | exact s0 | exact s1 | exact s2 | exact s3 | exact s4 | exact s5)
                  (first
                    | (go_at_call 12; (with_reducible refine J1.out.mono ?_); rintro e1 x1 ⟨rfl, hb⟩; have X1 := Lib.hid (X0.out.trans (hb.mono X0.out.size)); have Z1 := Lib.hid (Z0.out.trans (hb.mono Z0.out.size)); have F1 := Lib.hid (pdisk_law.below F0.out hb); have G1 := Lib.hid (rdisk_law.below G0.out hb); have C1 := Lib.hid (pdisk_law.below C0.out hb); have W1 := Lib.hid (rdisk_law.below W0.out hb); have U1 := Lib.hid (pdisk_law.below U0.out hb); have s1 := SC.out _ Z1.out; have J2 := Lib.hid (rffail_any G1.out v4 w.heap.size l4 (H4.out.below_ X1.out (Nat.le_refl _)) X1.out.size); rw [HU.out] at J2; clear hb J1 s0)
                    | (go_at_call 15; (with_reducible refine J2.out.mono ?_); rintro e2 x2 ⟨bv, fv, rfl, hd, hf, hb⟩; have X2 := Lib.hid (X1.out.trans (hb.mono X1.out.size)); have Z2 := Lib.hid (Z1.out.trans (hb.mono Z1.out.size)); have F2 := Lib.hid (pdisk_law.below F1.out hb); have G2 := Lib.hid (rdisk_law.below G1.out hb); have C2 := Lib.hid (pdisk_law.below C1.out hb); have W2 := Lib.hid (rdisk_law.below W1.out hb); have U2 := Lib.hid (pdisk_law.below U1.out hb); have s2 := SC.out _ Z2.out; have HV := Lib.hid hd; have J3 := Lib.hid (alike_any U2.out HV.out (⟨0, ⟨#[97]⟩, ⟨#[]⟩, 0, none, 0, 0⟩ : Raw) ⟨by decide, by decide +kernel, by decide +kernel, by unfold I64; decide⟩); change Hid (Calls _ _ #[_, _, .agg #[.int .u8 0, .string { data := #[97] }, .string { data := #[] }, .int .i64 0, .slice none 0 0]] _ _) at J3; clear hb hd hf J2 s1)
                    | (go_at_call 12; (with_reducible refine J3.out.mono ?_); rintro e3 x3 ⟨rfl, hb⟩; have X3 := Lib.hid (X2.out.trans (hb.mono X2.out.size)); have Z3 := Lib.hid (Z2.out.trans (hb.mono Z2.out.size)); have F3 := Lib.hid (pdisk_law.below F2.out hb); have G3 := Lib.hid (rdisk_law.below G2.out hb); have C3 := Lib.hid (pdisk_law.below C2.out hb); have W3 := Lib.hid (rdisk_law.below W2.out hb); have U3 := Lib.hid (pdisk_law.below U2.out hb); have s3 := SC.out _ Z3.out; have J4 := Lib.hid (alike_any C3.out W3.out (⟨0, ⟨#[97]⟩, ⟨#[]⟩, 0, none, 0, 0⟩ : Raw) ⟨by decide, by decide +kernel, by decide +kernel, by unfold I64; decide⟩); change Hid (Calls _ _ #[_, _, .agg #[.int .u8 0, .string { data := #[97] }, .string { data := #[] }, .int .i64 0, .slice none 0 0]] _ _) at J4; clear hb J3 s2)
                    | (go_at_call 12; (with_reducible refine J4.out.mono ?_); rintro e4 x4 ⟨rfl, hb⟩; have X4 := Lib.hid (X3.out.trans (hb.mono X3.out.size)); have Z4 := Lib.hid (Z3.out.trans (hb.mono Z3.out.size)); have F4 := Lib.hid (pdisk_law.below F3.out hb); have G4 := Lib.hid (rdisk_law.below G3.out hb); have C4 := Lib.hid (pdisk_law.below C3.out hb); have W4 := Lib.hid (rdisk_law.below W3.out hb); have U4 := Lib.hid (pdisk_law.below U3.out hb); have s4 := SC.out _ Z4.out; have J5 := Lib.hid (works_sf x4); clear hb J4 s3)
                    | (go_at_call 9; (with_reducible refine J5.out.mono ?_); rintro e5 x5 ⟨rfl, hb⟩; have X5 := Lib.hid (X4.out.trans (hb.mono X4.out.size)); have Z5 := Lib.hid (Z4.out.trans (hb.mono Z4.out.size)); have s5 := SC.out _ Z5.out; clear hb J5 s4))
                all_goals
                  go_wp2
                  go_ret
                  exact ⟨rfl, X5.out⟩
/-! ### From the walk to the row -/
set_option maxRecDepth 100000 in
theorem lifted (os : Os) (started : os.Started) (H : Type) (enc : TypeId × Value → H) :
    ReturnsInHanded {} Tryz.checked os 5 .any (Rows.simfsTwiceSpec.pre6 enc Tryz.prog Tryz.f5 Rows.simfsTwiceRow.domain false) (Rows.simfsTwiceSpec.post enc Tryz.prog Tryz.f5 false true false false) := by
  refine returnsInHanded_of_change (C := Tryz.checked) own started (by kernel_rfl) Tryz.func5
    (ChangeSpec.witness6 (enc := enc) (C := Tryz.checked) false ⟨#[], #[.int .i64 0, .slice none 0 0, .slice none 0 0, .slice none 0 0, .slice none 0 0], []⟩ 8 (by kernel_rfl) (by kernel_rfl) (by kernel_rfl) (by kernel_rfl)) ?_
  intro W base args ds gs before hval0 hW hcnd _
  have hval : ∀ (j : Nat) t v, Tryz.f5.params[j]? = some t → args[j]? = some v → Value.okWide Tryz.prog W .any base t v := hval0
  have hW' := hW
  obtain ⟨p, q, hA0, hV, rfl, hfz, hnd⟩ := hW
  have hA : DataW.TrodAll enc Tryz.prog W 0 (fun _ => true) true Tryz.f5.params.toList args.toList ds p := hA0
  rw [Tryz.params5] at hA hval
  obtain ⟨v0, vs0, d0, ds0, p0, q0, hargs, rfl, rfl, h0, r0⟩ := trodAll_cons hA
  obtain ⟨v1, vs1, d1, ds1, p1, q1, rfl, rfl, rfl, h1, r1⟩ := trodAll_cons r0
  obtain ⟨v2, vs2, d2, ds2, p2, q2, rfl, rfl, rfl, h2, r2⟩ := trodAll_cons r1
  obtain ⟨v3, vs3, d3, ds3, p3, q3, rfl, rfl, rfl, h3, r3⟩ := trodAll_cons r2
  obtain ⟨v4, vs4, d4, ds4, p4, q4, rfl, rfl, rfl, h4, r4⟩ := trodAll_cons r3
  obtain ⟨rfl, rfl, rfl⟩ := trodAll_nil r4
  obtain rfl : args = #[v0, v1, v2, v3, v4] := by cases args; simp_all
  obtain ⟨rfl, rfl⟩ := trodVars_none hV
  obtain ⟨a0, rfl, rfl, rfl, w0⟩ := open_int Tryz.underlying3 (hval 0 3 v0 rfl rfl) h0
  obtain ⟨a1, len1, cap1, rfl⟩ := okWide_slice Tryz.underlying22 (hval 1 22 v1 rfl rfl)
  have k1 := h1
  have lt1 : ∀ x ∈ p1, x.block < W.heap.size := by obtain ⟨m, hm⟩ := k1; exact DataW.trod_lt m _ _ _ hm
  obtain ⟨l1, len_1, hb1⟩ : ∃ l : List Sf.Op, l.length = len1 ∧ Dv W W.heap.size (.slice a1 len1 cap1) l := by
    obtain ⟨fuel, hf⟩ := h1
    exact deeds_in hf
  obtain ⟨a2, len2, cap2, rfl⟩ := okWide_slice Tryz.underlying39 (hval 2 39 v2 rfl rfl)
  have k2 := h2
  have lt2 : ∀ x ∈ p2, x.block < W.heap.size := by obtain ⟨m, hm⟩ := k2; exact DataW.trod_lt m _ _ _ hm
  obtain ⟨l2, len_2, hb2⟩ : ∃ l : List Int, l.length = len2 ∧ Lv iK W W.heap.size (.slice a2 len2 cap2) l := by
    obtain ⟨fuel, hf⟩ := h2
    rcases open_ints Tryz.underlying39 Tryz.underlying3 (by kernel_rfl) hf with ⟨hcs, _⟩ | ⟨x, l, c, zs, hcs, _, hl, hm, hz, _, hcell, hwz⟩
    · simp [Value.cells] at hcs
      obtain ⟨rfl, rfl, rfl⟩ := hcs
      exact ints_in (.inl ⟨rfl, rfl, rfl⟩)
    · simp [Value.cells] at hcs
      obtain ⟨rfl, rfl, rfl⟩ := hcs
      exact ints_in (.inr ⟨x, zs, rfl, hl, hm, by simpa using hz, hcell, hwz⟩)
  obtain ⟨a3, len3, cap3, rfl⟩ := okWide_slice Tryz.underlying22 (hval 3 22 v3 rfl rfl)
  have k3 := h3
  have lt3 : ∀ x ∈ p3, x.block < W.heap.size := by obtain ⟨m, hm⟩ := k3; exact DataW.trod_lt m _ _ _ hm
  obtain ⟨l3, len_3, hb3⟩ : ∃ l : List Sf.Op, l.length = len3 ∧ Dv W W.heap.size (.slice a3 len3 cap3) l := by
    obtain ⟨fuel, hf⟩ := h3
    exact deeds_in hf
  obtain ⟨a4, len4, cap4, rfl⟩ := okWide_slice Tryz.underlying39 (hval 4 39 v4 rfl rfl)
  have k4 := h4
  have lt4 : ∀ x ∈ p4, x.block < W.heap.size := by obtain ⟨m, hm⟩ := k4; exact DataW.trod_lt m _ _ _ hm
  obtain ⟨l4, len_4, hb4⟩ : ∃ l : List Int, l.length = len4 ∧ Lv iK W W.heap.size (.slice a4 len4 cap4) l := by
    obtain ⟨fuel, hf⟩ := h4
    rcases open_ints Tryz.underlying39 Tryz.underlying3 (by kernel_rfl) hf with ⟨hcs, _⟩ | ⟨x, l, c, zs, hcs, _, hl, hm, hz, _, hcell, hwz⟩
    · simp [Value.cells] at hcs
      obtain ⟨rfl, rfl, rfl⟩ := hcs
      exact ints_in (.inl ⟨rfl, rfl, rfl⟩)
    · simp [Value.cells] at hcs
      obtain ⟨rfl, rfl, rfl⟩ := hcs
      exact ints_in (.inr ⟨x, zs, rfl, hl, hm, by simpa using hz, hcell, hwz⟩)
  clear hA0 hval0
  refine (walk W a0 w0 (.slice a1 len1 cap1) l1 hb1 (.slice a2 len2 cap2) l2 hb2 (.slice a3 len3 cap3) l3 hb3 (.slice a4 len4 cap4) l4 hb4).mono fun e W' ⟨he, bel⟩ => ?_
  subst he
  exact ⟨_, rfl, _, _, _, [], _, [], hW', trodAll_mk1 (shut_bool Tryz.underlying4 _), (trodAll_cons_mk (shut_int Tryz.underlying3 w0) (trodAll_cons_mk (Below.trod laidOut (by kernel_rfl) (of_decide_eq_true (by kernel_rfl)) k1 bel lt1) (trodAll_cons_mk (Below.trod laidOut (by kernel_rfl) (of_decide_eq_true (by kernel_rfl)) k2 bel lt2) (trodAll_cons_mk (Below.trod laidOut (by kernel_rfl) (of_decide_eq_true (by kernel_rfl)) k3 bel lt3) (trodAll_cons_mk (Below.trod laidOut (by kernel_rfl) (of_decide_eq_true (by kernel_rfl)) k4 bel lt4) trodAll_mk0))))), rfl, bel.frame _, fun h => by cases h⟩

theorem proved : Rows.SimfsTwiceSaid :=
  OpenClaim.holds_of_wide 5 Tryz.f5 rfl rfl rfl rfl rfl rfl rfl ⟨rfl, rfl, rfl, rfl, rfl⟩ rfl rfl rfl rfl rfl (by kernel_rfl) Tryz.func5 (by kernel_rfl)
    (of_decide_eq_true (by kernel_rfl)) (by unfold Func.isWrapper; first | (rw [if_pos (by decide +kernel)]; kernel_rfl) | (rw [if_neg (by decide +kernel)]; exact ⟨rfl, rfl⟩))
    (fun os started H enc _ => lifted os started H enc)

end Go.Proofs.YtmcbjcbnckpfkaaGreat.simfsTwice
