/-
  SimfsDead: behind the act at which the power fails nothing is done any more, and nothing is told; what a failure leaves stays the same. No condition.
-/
import Derived.Test.YtmcbjcbnckpfkaaPk24
import Derived.Test.YtmcbjcbnckpfkaaPk23
import Derived.Test.YtmcbjcbnckpfkaaPk11
import Derived.Test.YtmcbjcbnckpfkaaPk25
import Derived.Deep.WholeRow
namespace Go.Proofs.Ytmcbjcbnckpfkaa.simfsDead
open Go.ChangeShapes Go.WideShapes Go.ChangeAt Go.RowKit
open Go.ChangeMaps (open_string shut_string)
set_option linter.unusedVariables false

set_option maxHeartbeats 4000000 in
set_option maxRecDepth 100000 in
theorem walk (w : World) (a0 : Int) (h0 : (Lit.int .i64 a0).wf = true) (v1 : Value) (l1 : List Sf.Op) (h1 : Dv w w.heap.size v1 l1) (x2 : Raw) (o2 : Sf.Op) (k2 : RawOk x2) (h2 : Deed w w.heap.size x2 o2)
    (v3 : Value) (l3 : List Sf.Op) (h3 : Dv w w.heap.size v3 l3) (v4 : Value) (l4 : List Int) (h4 : Lv iK w w.heap.size v4 l4) :
    Calls Try.prog 10 #[.int .i64 a0, v1, .agg (deedC x2), v3, v4] w (IsBool true w) := by
  have hb0 := bounds_i64 h0
  have HI : Hid (I64 a0) := by unfold Hid I64; omega
  have H4 := Lib.hid h4
  have K2 := Lib.hid k2
  have H2 := Lib.hid h2
  clear h0 h4 k2 h2 hb0
  obtain ⟨A, n, c, hv⟩ : ∃ A n c, v1 = .slice A n c := by obtain ⟨us, _, ⟨A, c, e, _⟩, _⟩ := h1; exact ⟨A, _, c, e⟩
  subst hv
  obtain rfl := h1.len_
  have hml1 : l1.length ≤ 9223372036854775807 := by obtain ⟨us, e, h2, _⟩ := h1; have := h2.len_; simp only [maxLen] at this; omega
  have H1 := Lib.hid h1
  clear h1
  obtain ⟨A3, n, c3, hv⟩ : ∃ A n c, v3 = .slice A n c := by obtain ⟨us, _, ⟨A, c, e, _⟩, _⟩ := h3; exact ⟨A, _, c, e⟩
  subst hv
  obtain rfl := h3.len_
  have hml3 : l3.length ≤ 9223372036854775807 := by obtain ⟨us, e, h2, _⟩ := h3; have := h2.len_; simp only [maxLen] at this; omega
  have H3 := Lib.hid h3
  clear h3
  unfold deedC
  obtain ⟨wb, hwb⟩ : ∃ wb, w.alloc (.cells #[.int .u8 (x2.call : Nat), .string x2.name, .string x2.to, .int .i64 x2.at_, .slice x2.A x2.n x2.c] 35) = wb := ⟨_, rfl⟩
  have hbx := heap_alloc_new w (.cells #[.int .u8 (x2.call : Nat), .string x2.name, .string x2.to, .int .i64 x2.at_, .slice x2.A x2.n x2.c] 35)
  have hbb : Below w.heap.size w (w.alloc (.cells #[.int .u8 (x2.call : Nat), .string x2.name, .string x2.to, .int .i64 x2.at_, .slice x2.A x2.n x2.c] 35)) := (Below.refl _ _).alloc (Nat.le_refl _) _
  rw [hwb] at hbx hbb
  have hxs : w.heap.size < wb.heap.size := by rw [← hwb]; simp
  have HX : Hid (∀ w', Below wb.heap.size wb w' → w'.heap[w.heap.size]? = some (.cells #[.int .u8 (x2.call : Nat), .string x2.name, .string x2.to, .int .i64 x2.at_, .slice x2.A x2.n x2.c] 35 (0, 0))) := fun w' hb' => (hb'.block _ hxs).trans hbx
  have HBB := Lib.hid hbb
  have Hin1 := Lib.hid ((H1.out.below_ hbb (Nat.le_refl _)).mono_ (B' := wb.heap.size) (Nat.le_of_lt hxs))
  clear H1
  have H1 := Hin1
  clear Hin1
  have Hin2 := Lib.hid ((H3.out.below_ hbb (Nat.le_refl _)).mono_ (B' := wb.heap.size) (Nat.le_of_lt hxs))
  clear H3
  have H3 := Hin2
  clear Hin2
  have Hin3 := Lib.hid ((H2.out.below_ hbb (Nat.le_refl _)).mono_ (B' := wb.heap.size) (Nat.le_of_lt hxs))
  clear H2
  have H2 := Hin3
  clear Hin3
  have Hin4 := Lib.hid ((H4.out.below_ hbb (Nat.le_refl _)).mono_ (B' := wb.heap.size) (Nat.le_of_lt hxs))
  clear H4
  have H4 := Hin4
  clear Hin4
  clear hbx hbb hxs
  have HB5 := Lib.hid (Below.refl wb.heap.size wb)
  have HN := Lib.hid (pnew_any a0 HI.out wb)
  go_enter Try.func10, Try.ntmps10
  by_cases hbad : a0 < 0 ∨ 1048576 < a0
  · go_wp2_with fail
    refine HN.out.mono ?_
    intro e w1 h
    rw [if_pos hbad] at h
    obtain ⟨rfl, hb⟩ := h
    have HB6 := Lib.hid (HB5.out.trans (hb.mono HB5.out.size))
    clear HB5 hb HN hbad
    have C7 := Lib.hid (works_sf w1)
    go_wp2_with fail
    refine C7.out.mono ?_
    rintro e9 w8 ⟨rfl, hb⟩
    have HB10 := Lib.hid (HB6.out.trans (hb.mono HB6.out.size))
    clear hb C7 HB6
    go_wp2
    go_ret
    exact ⟨rfl, HBB.out.trans (HB10.out.mono HBB.out.size)⟩
  · go_wp2_with fail
    refine HN.out.mono ?_
    intro e w1 h
    rw [if_neg hbad] at h
    obtain ⟨b, f, rfl, hd, hf, hb⟩ := h
    have HF11 := Lib.hid (hf.mono HB5.out.size)
    have HB12 := Lib.hid (HB5.out.trans (hb.mono HB5.out.size))
    have HD13 := Lib.hid hd
    clear HB5 hd hf hb HN hbad
    obtain ⟨g1, hg⟩ : ∃ g, Sf.great l1 = g := ⟨_, rfl⟩
    have HG14 := Lib.hid hg
    have C15 := Lib.hid (great_any (.slice A l1.length c) wb.heap.size l1 w1 (H1.out.below_ HB12.out (Nat.le_refl _)) HB12.out.size)
    rw [hg] at C15
    clear hg
    go_wp2_with fail
    refine C15.out.mono ?_
    rintro e17 w16 ⟨rfl, hb⟩
    have HB18 := Lib.hid (HB12.out.trans (hb.mono HB12.out.size))
    have HD19 := Lib.hid (pdisk_law.below HD13.out hb)
    clear HB12 HD13 hb C15
    cases g1 with
    | true =>
      have C20 := Lib.hid (works_sf w16)
      go_wp2_with fail
      refine C20.out.mono ?_
      rintro e22 w21 ⟨rfl, hb⟩
      have HB23 := Lib.hid (HB18.out.trans (hb.mono HB18.out.size))
      clear hb C20 HB18
      go_wp2
      go_ret
      exact ⟨rfl, HBB.out.trans (HB23.out.mono HBB.out.size)⟩
    | false =>
      have hl1 : l1.length ≤ 120 := by have hg := HG14.out; unfold Sf.great at hg; simp at hg; omega
      obtain ⟨g3, hg⟩ : ∃ g, Sf.great l3 = g := ⟨_, rfl⟩
      have HG24 := Lib.hid hg
      have C25 := Lib.hid (great_any (.slice A3 l3.length c3) wb.heap.size l3 w16 (H3.out.below_ HB18.out (Nat.le_refl _)) HB18.out.size)
      rw [hg] at C25
      clear hg
      go_wp2_with fail
      refine C25.out.mono ?_
      rintro e27 w26 ⟨rfl, hb⟩
      have HB28 := Lib.hid (HB18.out.trans (hb.mono HB18.out.size))
      have HD29 := Lib.hid (pdisk_law.below HD19.out hb)
      clear HB18 HD19 hb C25
      cases g3 with
      | true =>
        have C30 := Lib.hid (works_sf w26)
        go_wp2_with fail
        refine C30.out.mono ?_
        rintro e32 w31 ⟨rfl, hb⟩
        have HB33 := Lib.hid (HB28.out.trans (hb.mono HB28.out.size))
        clear hb C30 HB28
        go_wp2
        go_ret
        exact ⟨rfl, HBB.out.trans (HB33.out.mono HBB.out.size)⟩
      | false =>
        have hl3 : l3.length ≤ 120 := by have hg := HG24.out; unfold Sf.great at hg; simp at hg; omega
        clear HG14 HG24 hwb
        go_wp2
        go_loopw [13] (fun i wr => ∃ (k : Nat) (fp : Fp) (t : Sf.St), k ≤ l1.length ∧ i = .int .i64 (k : Nat) ∧ Hid (PDisk wr fp t b) ∧ Hid (fp.From wb.heap.size) ∧ Hid (t.acts ≤ k) ∧ Below wb.heap.size wb wr) (fun i _ => l1.length - (intOf i).toNat)
        case atStart => exact ⟨0, f, Sf.new a0.toNat, by omega, rfl, HD29.out, HF11.out, Nat.zero_le _, HB28.out⟩
        case round =>
          obtain ⟨k, fp, t, hk, rfl, HDr, HFr, HAr, hbr⟩ := hrel
          have HBr := Lib.hid hbr
          clear hbr HB28 HD29 HF11
          by_cases hlt : k < l1.length
          · have hki : (k : Int) < (l1.length : Int) := by omega
            have hk0 : (0 : Int) ≤ (k : Int) := by omega
            have wk : IntKind.i64.wrap ((k : Int) + 1) = (k : Int) + 1 := by rw [IntKind.wrap_i64]; omega
            obtain ⟨bo, off, x, o, rfl, hbo, hraw, hq, hdd, hrg⟩ := H1.out.at_ hlt
            change wb.rangeAt bo (off + k * 5) [.int .u8 (x.call : Nat), .string x.name, .string x.to, .int .i64 x.at_, .slice x.A x.n x.c] at hrg
            have RGx : Hid (∀ w', Below wb.heap.size wb w' → w'.rangeAt bo (off + k * 5) [.int .u8 (x.call : Nat), .string x.name, .string x.to, .int .i64 x.at_, .slice x.A x.n x.c]) := fun w' hb' j u hj => (hb'.cell (p := ⟨bo, off + k * 5 + j, none⟩) (by show bo < _; omega)).trans (hrg j u hj)
            have DDx := Lib.hid hdd
            have RWx := Lib.hid hraw
            have HQx := Lib.hid hq
            have hcox : o.call = x.call := hdd.1
            clear hrg hq hdd hraw hbo
            have HFEW : Hid (Sf.Few t) := by have := HAr.out; unfold Hid Sf.Few; omega
            have HAL := Lib.hid (Sf.acts_le t o)
            obtain ⟨r, hr⟩ : ∃ r, Sf.doOp t o = r := ⟨_, rfl⟩
            rw [hr] at HAL
            have HR := Lib.hid hr
            clear hr
            have RGN := Lib.hid (RGx.out wr HBr.out)
            have C34 := Lib.hid (pdo_any HDr.out HFEW.out x o wb.heap.size RWx.out (DDx.out.below_ HBr.out (Nat.le_refl _)) HBr.out.size (HFr.out.not_arg DDx.out.2.2.2.2))
            unfold deedC at C34
            rw [HR.out] at C34
            go_wp2_with (refine wpList_load_mid rfl _ _ rfl bo (off + k * 5) rfl [.int .u8 (x.call : Nat), .string x.name, .string x.to, .int .i64 x.at_, .slice x.A x.n x.c] _ RGN.out Try.underlying35 rfl (by kernel_rfl) ?_)
            refine C34.out.mono ?_
            rintro e36 w35 ⟨rfl, f37, hd, hn, ht⟩
            have HB38 := Lib.hid (HFr.out.below HBr.out HBr.out.size ht)
            have HF39 := Lib.hid (hn.from_ HFr.out HBr.out.size)
            have HD40 := Lib.hid hd
            clear HBr HDr HFr hd hn ht C34 RGN
            go_wp2
            go_roundw
            case rel => exact ⟨k + 1, f37, r.2, by omega, by go_num, HD40.out, HF39.out, by have := HAL.out; have := HAr.out; unfold Hid; omega, HB38.out⟩
            case measure => simp [intOf]; omega
          · have hki : ¬ (k : Int) < (l1.length : Int) := by omega
            clear hki
            obtain ⟨r1, hr1⟩ : ∃ r, Sf.arm t 1 = r := ⟨_, rfl⟩
            have HR1 := Lib.hid hr1
            have HAL1 := Lib.hid (Sf.arm_acts t 1)
            rw [hr1] at HAL1
            clear hr1
            have C41 := Lib.hid (parm_any HDr.out 1 (by unfold I64; omega))
            rw [HR1.out] at C41
            go_wp2_with fail
            refine C41.out.mono ?_
            rintro e43 w42 ⟨rfl, f44, hd, hn, ht⟩
            have HB45 := Lib.hid (HFr.out.below HBr.out HBr.out.size ht)
            have HF46 := Lib.hid (hn.from_ HFr.out HBr.out.size)
            have HD47 := Lib.hid hd
            clear HBr HDr HFr hd hn ht C41 HR1
            have HFEW1 : Hid (Sf.Few r1.2) := by have := HAr.out; have := HAL1.out; unfold Hid Sf.Few; omega
            obtain ⟨r2, hr2⟩ : ∃ r, Sf.doOp r1.2 o2 = r := ⟨_, rfl⟩
            have HAL2 := Lib.hid (Sf.acts_le r1.2 o2)
            rw [hr2] at HAL2
            have HR2 := Lib.hid hr2
            clear hr2
            have HXN := Lib.hid (HX.out w42 HB45.out)
            have C2 := Lib.hid (pdo_any HD47.out HFEW1.out x2 o2 wb.heap.size K2.out (H2.out.below_ HB45.out (Nat.le_refl _)) HB45.out.size (HF46.out.not_arg H2.out.2.2.2.2))
            unfold deedC at C2
            rw [HR2.out] at C2
            go_wp2_with (refine wpList_load_row rfl _ _ rfl w.heap.size rfl 35 #[.int .u8 (x2.call : Nat), .string x2.name, .string x2.to, .int .i64 x2.at_, .slice x2.A x2.n x2.c] (0, 0) _ HXN.out Try.underlying35 rfl (by kernel_rfl) ?_)
            refine C2.out.mono ?_
            rintro e9 w9 ⟨rfl, f9, hd, hn, ht⟩
            have HB48 := Lib.hid (HF46.out.below HB45.out HB45.out.size ht)
            have HF49 := Lib.hid (hn.from_ HF46.out HB45.out.size)
            have HD50 := Lib.hid hd
            clear HB45 HD47 HF46 hd hn ht C2 HXN HR2 HFEW1
            obtain ⟨dd, hdd⟩ : ∃ d, r2.2.dead = d := ⟨_, rfl⟩
            have HDD := Lib.hid hdd
            clear hdd
            have C51 := Lib.hid (pdead_any HD50.out)
            rw [HDD.out] at C51
            go_wp2_with fail
            refine C51.out.mono ?_
            rintro e53 w52 ⟨rfl, hb⟩
            have HB54 := Lib.hid (HB48.out.trans (hb.mono HB48.out.size))
            have HD55 := Lib.hid (pdisk_law.below HD50.out hb)
            clear HB48 HD50 hb C51
            cases dd with
            | false =>
              have C56 := Lib.hid (works_sf w52)
              go_wp2_with fail
              refine C56.out.mono ?_
              rintro e58 w57 ⟨rfl, hb⟩
              have HB59 := Lib.hid (HB54.out.trans (hb.mono HB54.out.size))
              clear hb C56 HB54
              go_wp2
              go_ret
              exact ⟨rfl, HBB.out.trans (HB59.out.mono HBB.out.size)⟩
            | true =>
              obtain ⟨T, hT⟩ : ∃ T, r2.2 = T := ⟨_, rfl⟩
              rw [hT] at HDD HAL2 HD55
              have HFT : Hid (Sf.Few T) := by have := HAr.out; have := HAL1.out; have := HAL2.out; unfold Hid Sf.Few; omega
              clear hT HAr HAL1 HAL2
              obtain ⟨AC, hAC⟩ : ∃ n, T.acts = n := ⟨_, rfl⟩
              have HAC := Lib.hid hAC
              have hac : AC < 1099511627776 := by have := HFT.out; unfold Sf.Few at this; omega
              clear hAC
              have C60 := Lib.hid (pacts_any HD55.out)
              rw [HAC.out] at C60
              go_wp2_with fail
              refine C60.out.mono ?_
              rintro e62 w61 ⟨rfl, hb⟩
              have HB63 := Lib.hid (HB54.out.trans (hb.mono HB54.out.size))
              have HD64 := Lib.hid (pdisk_law.below HD55.out hb)
              clear HB54 HD55 hb C60
              obtain ⟨G, hG⟩ : ∃ G, Sf.fail T l4 = G := ⟨_, rfl⟩
              have HG := Lib.hid hG
              clear hG
              have C65 := Lib.hid (pfail_any HD64.out v4 wb.heap.size l4 (H4.out.below_ HB63.out (Nat.le_refl _)) HB63.out.size)
              rw [HG.out] at C65
              go_wp2_with fail
              refine C65.out.mono ?_
              rintro e69 w68 ⟨b66, f67, rfl, hd, hf, hb⟩
              have HA70 := Lib.hid ((pdisk_law.lt HD64.out).apart hf)
              have HF71 := Lib.hid (hf.mono HB63.out.size)
              have HB72 := Lib.hid (HB63.out.trans (hb.mono HB63.out.size))
              have HD73 := Lib.hid (pdisk_law.below HD64.out hb)
              have HD74 := Lib.hid hd
              clear HB63 HD64 hd hf hb C65
              go_wp2
              go_loopw [17] (fun i wr => ∃ (k : Nat) (fp : Fp), k ≤ l3.length ∧ i = .int .i64 (k : Nat) ∧ Hid (PDisk wr fp T b) ∧ Hid (fp.From wb.heap.size) ∧ Hid (PDisk wr f67 G b66) ∧ Hid (fp.Apart f67) ∧ Below wb.heap.size wb wr) (fun i _ => l3.length - (intOf i).toNat)
              case atStart => exact ⟨0, f9, by omega, rfl, HD73.out, HF49.out, HD74.out, HA70.out, HB72.out⟩
              case round =>
                obtain ⟨k3, fp3, hk3, rfl, HDs, HFs, HDa, HPs, hbs⟩ := hrel
                have HBs := Lib.hid hbs
                clear hbs HB72 HD73 HF49 HD74 HA70
                clear hk
                by_cases hlt3 : k3 < l3.length
                · have hki : (k3 : Int) < (l3.length : Int) := by omega
                  have hk0 : (0 : Int) ≤ (k3 : Int) := by omega
                  have wk : IntKind.i64.wrap ((k3 : Int) + 1) = (k3 : Int) + 1 := by rw [IntKind.wrap_i64]; omega
                  obtain ⟨bo3, off3, x3, o3, rfl, hbo, hraw, hq, hdd, hrg⟩ := H3.out.at_ hlt3
                  change wb.rangeAt bo3 (off3 + k3 * 5) [.int .u8 (x3.call : Nat), .string x3.name, .string x3.to, .int .i64 x3.at_, .slice x3.A x3.n x3.c] at hrg
                  have RGx3 : Hid (∀ w', Below wb.heap.size wb w' → w'.rangeAt bo3 (off3 + k3 * 5) [.int .u8 (x3.call : Nat), .string x3.name, .string x3.to, .int .i64 x3.at_, .slice x3.A x3.n x3.c]) := fun w' hb' j u hj => (hb'.cell (p := ⟨bo3, off3 + k3 * 5 + j, none⟩) (by show bo3 < _; omega)).trans (hrg j u hj)
                  have DDx3 := Lib.hid hdd
                  have RWx3 := Lib.hid hraw
                  have HQx3 := Lib.hid hq
                  have hcox3 : o3.call = x3.call := hdd.1
                  clear hrg hq hdd hraw hbo
                  have hcl : wr.cell? ⟨bo3, off3 + k3 * 5, none⟩ = some (.int .u8 (x3.call : Nat)) := RGx3.out wr HBs.out 0 _ rfl
                  by_cases h8 : x3.call ≤ 8
                  · have h8i : (x3.call : Int) ≤ 8 := by omega
                    have HDE : Hid (Sf.doOp T o3 = (13, T)) := by unfold Hid; rw [Sf.dead_deed HDD.out, if_pos (by omega)]
                    have RGN := Lib.hid (RGx3.out wr HBs.out)
                    have C3 := Lib.hid (pdo_any HDs.out HFT.out x3 o3 wb.heap.size RWx3.out (DDx3.out.below_ HBs.out (Nat.le_refl _)) HBs.out.size (HFs.out.not_arg DDx3.out.2.2.2.2))
                    unfold deedC at C3
                    rw [HDE.out] at C3
                    go_wp2_with (first | (refine wpList_load_mid_on (by rfl) _ _ rfl bo3 (off3 + k3 * 5) rfl [.int .u8 (x3.call : Nat), .string x3.name, .string x3.to, .int .i64 x3.at_, .slice x3.A x3.n x3.c] _ RGN.out Try.underlying35 rfl (by kernel_rfl) ?_))
                    refine C3.out.mono ?_
                    rintro e9 w9 ⟨rfl, f9, hd, hn, ht⟩
                    have HB75 := Lib.hid (HFs.out.below HBs.out HBs.out.size ht)
                    have HF76 := Lib.hid (hn.from_ HFs.out HBs.out.size)
                    have HA77 := Lib.hid (HPs.out.next hn (pdisk_law.lt HDa.out))
                    have HD78 := Lib.hid (pdisk_law.turned HDa.out ht HPs.out.2)
                    have HD79 := Lib.hid hd
                    clear HBs HDs HFs HPs HDa hd hn ht C3 RGN HDE
                    go_wp2
                    go_roundw
                    case rel => exact ⟨k3 + 1, f9, by omega, by go_num, HD79.out, HF76.out, HD78.out, HA77.out, HB75.out⟩
                    case measure => simp [intOf]; omega
                  · have h8i : ¬ (x3.call : Int) ≤ 8 := by omega
                    clear RGx3 DDx3 RWx3 HQx3
                    go_wp2
                    go_roundw
                    case rel => exact ⟨k3 + 1, fp3, by omega, by go_num, HDs.out, HFs.out, HDa.out, HPs.out, HBs.out⟩
                    case measure => simp [intOf]; omega
                · have hki : ¬ (k3 : Int) < (l3.length : Int) := by omega
                  have C80 := Lib.hid (pfail_any HDs.out v4 wb.heap.size l4 (H4.out.below_ HBs.out (Nat.le_refl _)) HBs.out.size)
                  rw [HG.out] at C80
                  go_wp2_with fail
                  refine C80.out.mono ?_
                  rintro e84 w83 ⟨b81, f82, rfl, hd, hf, hb⟩
                  have HA85 := Lib.hid ((pdisk_law.lt HDs.out).apart hf)
                  have HA86 := Lib.hid ((pdisk_law.lt HDa.out).apart hf)
                  have HF87 := Lib.hid (hf.mono HBs.out.size)
                  have HB88 := Lib.hid (HBs.out.trans (hb.mono HBs.out.size))
                  have HD89 := Lib.hid (pdisk_law.below HDs.out hb)
                  have HD90 := Lib.hid (pdisk_law.below HDa.out hb)
                  have HD91 := Lib.hid hd
                  clear HBs HDs HDa hd hf hb C80
                  obtain ⟨L, hL⟩ : ∃ L, Sf.names G = L := ⟨_, rfl⟩
                  have HL := Lib.hid hL
                  clear hL hki
                  have CN := Lib.hid (pnames_any HD91.out)
                  rw [HL.out] at CN
                  go_wp2_with fail
                  refine CN.out.mono ?_
                  rintro e20 w20 ⟨AL, cL, rfl, ho, hb⟩
                  have VL := Lib.hid ho.form_
                  have HB92 := Lib.hid (HB88.out.trans (hb.mono HB88.out.size))
                  have HD93 := Lib.hid (pdisk_law.below HD89.out hb)
                  have HD94 := Lib.hid (pdisk_law.below HD90.out hb)
                  have HD95 := Lib.hid (pdisk_law.below HD91.out hb)
                  clear HB88 HD89 HD90 HD91 ho hb CN
                  have q0 : (((AC : Nat) : Int) != ((AC : Nat) : Int)) = false := by simp
                  have C96 := Lib.hid (pacts_any HD93.out)
                  rw [HAC.out] at C96
                  go_wp2_with fail
                  refine C96.out.mono ?_
                  rintro e98 w97 ⟨rfl, hb⟩
                  have V99 := Lib.hid ((VL.out.below_ hb (Nat.le_refl _)).mono_ hb.size)
                  clear VL
                  have HB100 := Lib.hid (HB92.out.trans (hb.mono HB92.out.size))
                  have HD101 := Lib.hid (pdisk_law.below HD93.out hb)
                  have HD102 := Lib.hid (pdisk_law.below HD94.out hb)
                  have HD103 := Lib.hid (pdisk_law.below HD95.out hb)
                  clear HB92 HD93 HD94 HD95 hb C96
                  clear q0
                  have HU0 := Lib.hid (Sf.used_dead HDD.out)
                  have HR0 := Lib.hid (Sf.room_dead HDD.out)
                  have HN0 := Lib.hid (Sf.names_dead HDD.out)
                  have C104 := Lib.hid (pused_any HD101.out)
                  rw [HU0.out] at C104
                  go_wp2_with fail
                  refine C104.out.mono ?_
                  rintro e106 w105 ⟨rfl, hb⟩
                  have V107 := Lib.hid ((V99.out.below_ hb (Nat.le_refl _)).mono_ hb.size)
                  clear V99
                  have HB108 := Lib.hid (HB100.out.trans (hb.mono HB100.out.size))
                  have HD109 := Lib.hid (pdisk_law.below HD101.out hb)
                  have HD110 := Lib.hid (pdisk_law.below HD102.out hb)
                  have HD111 := Lib.hid (pdisk_law.below HD103.out hb)
                  clear HB100 HD101 HD102 HD103 hb C104
                  have C112 := Lib.hid (proom_any HD109.out)
                  rw [HR0.out] at C112
                  go_wp2_with fail
                  refine C112.out.mono ?_
                  rintro e114 w113 ⟨rfl, hb⟩
                  have V115 := Lib.hid ((V107.out.below_ hb (Nat.le_refl _)).mono_ hb.size)
                  clear V107
                  have HB116 := Lib.hid (HB108.out.trans (hb.mono HB108.out.size))
                  have HD117 := Lib.hid (pdisk_law.below HD109.out hb)
                  have HD118 := Lib.hid (pdisk_law.below HD110.out hb)
                  have HD119 := Lib.hid (pdisk_law.below HD111.out hb)
                  clear HB108 HD109 HD110 HD111 hb C112
                  have C120 := Lib.hid (pnames_any HD117.out)
                  rw [HN0.out] at C120
                  go_wp2_with fail
                  refine C120.out.mono ?_
                  rintro e122 w121 ⟨Ax, cx, rfl, ho, hb⟩
                  have V123 := Lib.hid ((V115.out.below_ hb (Nat.le_refl _)).mono_ hb.size)
                  clear V115
                  have Vx := Lib.hid ho.form_
                  have HB124 := Lib.hid (HB116.out.trans (hb.mono HB116.out.size))
                  have HD125 := Lib.hid (pdisk_law.below HD117.out hb)
                  have HD126 := Lib.hid (pdisk_law.below HD118.out hb)
                  have HD127 := Lib.hid (pdisk_law.below HD119.out hb)
                  clear HB116 HD117 HD118 HD119 hb ho C120
                  have C128 := Lib.hid (pnames_any HD126.out)
                  rw [HL.out] at C128
                  go_wp2_with fail
                  refine C128.out.mono ?_
                  rintro e130 w129 ⟨Ay, cy, rfl, ho, hb⟩
                  have V131 := Lib.hid ((V123.out.below_ hb (Nat.le_refl _)).mono_ hb.size)
                  clear V123
                  have V132 := Lib.hid ((Vx.out.below_ hb (Nat.le_refl _)).mono_ hb.size)
                  clear Vx
                  have Vy := Lib.hid ho.form_
                  have HB133 := Lib.hid (HB124.out.trans (hb.mono HB124.out.size))
                  have HD134 := Lib.hid (pdisk_law.below HD125.out hb)
                  have HD135 := Lib.hid (pdisk_law.below HD126.out hb)
                  have HD136 := Lib.hid (pdisk_law.below HD127.out hb)
                  clear HB124 HD125 HD126 HD127 hb ho C128
                  have CT := Lib.hid (texts_lv _ _ _ _ _ _ w129 Vy.out V131.out)
                  simp only [decide_true] at CT
                  go_wp2_with fail
                  refine CT.out.mono ?_
                  rintro e30 w30 ⟨rfl, hb⟩
                  have V137 := Lib.hid ((V131.out.below_ hb (Nat.le_refl _)).mono_ hb.size)
                  clear V131
                  have V138 := Lib.hid ((V132.out.below_ hb (Nat.le_refl _)).mono_ hb.size)
                  clear V132
                  have V139 := Lib.hid ((Vy.out.below_ hb (Nat.le_refl _)).mono_ hb.size)
                  clear Vy
                  have HB140 := Lib.hid (HB133.out.trans (hb.mono HB133.out.size))
                  have HD141 := Lib.hid (pdisk_law.below HD134.out hb)
                  have HD142 := Lib.hid (pdisk_law.below HD135.out hb)
                  have HD143 := Lib.hid (pdisk_law.below HD136.out hb)
                  clear HB133 HD134 HD135 HD136 hb CT V138 V139
                  have hLm : L.length ≤ 9223372036854775807 := by have := V137.out.len_; simp only [maxLen] at this; omega
                  go_wp2
                  go_loopw [21, 22, 23, 24, 25] (fun i _ _ _ _ wr => ∃ (k : Nat), k ≤ L.length ∧ i = .int .i64 (k : Nat) ∧ Hid (PDisk wr f67 G b66) ∧ Hid (PDisk wr f82 G b81) ∧ Hid (Lv sK wr wr.heap.size (.slice AL L.length cL) L) ∧ Below wb.heap.size wb wr) (fun i _ _ _ _ _ => L.length - (intOf i).toNat)
                  case atStart => exact ⟨0, by omega, rfl, HD142.out, HD143.out, V137.out, HB140.out⟩
                  case round =>
                    obtain ⟨k5, hk5, rfl, HDp, HDq, VLr, hbs⟩ := hrel
                    have HBu := Lib.hid hbs
                    clear hbs HB140 HD142 HD143 V137
                    clear hk3
                    by_cases hlt5 : k5 < L.length
                    · have hki : (k5 : Int) < (L.length : Int) := by omega
                      have hk0 : (0 : Int) ≤ (k5 : Int) := by omega
                      have wk : IntKind.i64.wrap ((k5 : Int) + 1) = (k5 : Int) + 1 := by rw [IntKind.wrap_i64]; omega
                      obtain ⟨b6, o6, s6, hA6, hb6, hs6, hq6, hc6⟩ := VLr.out.str_ hlt5
                      subst hA6
                      have HC6 : Hid (∀ w', Below wr.heap.size wr w' → w'.cell? ⟨b6, o6 + k5, none⟩ = some (.string s6)) := fun w' hb' => (hb'.cell (p := ⟨b6, o6 + k5, none⟩) (by show b6 < _; omega)).trans hc6
                      have HS6 := Lib.hid hs6
                      obtain ⟨X, hX⟩ : ∃ X, Sf.read G s6 0 1048576 = X := ⟨_, rfl⟩
                      have HXR := Lib.hid hX
                      clear hX hq6 hs6 hb6
                      have CA := Lib.hid (pread_any HDp.out s6 HS6.out 0 1048576 (by unfold I64; omega) (by unfold I64; omega))
                      rw [HXR.out] at CA
                      go_wp2_with fail
                      refine CA.out.mono ?_
                      rintro e40 w40 ⟨AX, cX, rfl, ho, hb⟩
                      have VX := Lib.hid ho.form_
                      have VL2 := Lib.hid ((VLr.out.below_ hb (Nat.le_refl _)).mono_ hb.size)
                      have hc7 := HC6.out w40 hb
                      clear hc6 HC6 VLr
                      have HB144 := Lib.hid (HBu.out.trans (hb.mono HBu.out.size))
                      have HD145 := Lib.hid (pdisk_law.below HDp.out hb)
                      have HD146 := Lib.hid (pdisk_law.below HDq.out hb)
                      clear HBu HDp HDq hb ho CA
                      have CB := Lib.hid (pread_any HD146.out s6 HS6.out 0 1048576 (by unfold I64; omega) (by unfold I64; omega))
                      rw [HXR.out] at CB
                      go_wp2_with fail
                      refine CB.out.mono ?_
                      rintro e41 w41 ⟨AY, cY, rfl, ho, hb⟩
                      have VY := Lib.hid ho.form_
                      have VX2 := Lib.hid ((VX.out.below_ hb (Nat.le_refl _)).mono_ hb.size)
                      have VL3 := Lib.hid ((VL2.out.below_ hb (Nat.le_refl _)).mono_ hb.size)
                      clear hc7 VX VL2
                      have HB147 := Lib.hid (HB144.out.trans (hb.mono HB144.out.size))
                      have HD148 := Lib.hid (pdisk_law.below HD145.out hb)
                      have HD149 := Lib.hid (pdisk_law.below HD146.out hb)
                      clear HB144 HD145 HD146 hb ho CB
                      have CS := Lib.hid (octs_lv _ _ _ _ _ _ w41 VX2.out VY.out)
                      simp only [decide_true] at CS
                      go_wp2_with fail
                      refine CS.out.mono ?_
                      rintro e42 w42 ⟨rfl, hb⟩
                      have VL4 := Lib.hid ((VL3.out.below_ hb (Nat.le_refl _)).mono_ hb.size)
                      have HB150 := Lib.hid (HB147.out.trans (hb.mono HB147.out.size))
                      have HD151 := Lib.hid (pdisk_law.below HD148.out hb)
                      have HD152 := Lib.hid (pdisk_law.below HD149.out hb)
                      clear HB147 HD148 HD149 hb CS VX2 VY VL3
                      go_wp2
                      go_roundw
                      case rel => exact ⟨k5 + 1, by omega, by go_num, HD151.out, HD152.out, VL4.out, HB150.out⟩
                      case measure => simp [intOf]; omega
                    · have hki : ¬ (k5 : Int) < (L.length : Int) := by omega
                      have C153 := Lib.hid (works_sf wr)
                      go_wp2_with fail
                      refine C153.out.mono ?_
                      rintro e155 w154 ⟨rfl, hb⟩
                      have HB156 := Lib.hid (HBu.out.trans (hb.mono HBu.out.size))
                      clear hb C153 HBu
                      go_wp2
                      go_ret
                      exact ⟨rfl, HBB.out.trans (HB156.out.mono HBB.out.size)⟩
/-! ### From the walk to the row -/
set_option maxRecDepth 100000 in
theorem lifted (os : Os) (started : os.Started) (H : Type) (enc : TypeId × Value → H) :
    ReturnsInHanded {} Try.checked os 10 .any (Rows.simfsDeadSpec.pre6 enc Try.prog Try.f10 Rows.simfsDeadRow.domain false) (Rows.simfsDeadSpec.post enc Try.prog Try.f10 false true false false) := by
  refine returnsInHanded_of_change (C := Try.checked) own started (by kernel_rfl) Try.func10
    (ChangeSpec.witness6 (enc := enc) (C := Try.checked) false ⟨#[], #[.int .i64 0, .slice none 0 0, .agg #[.int .u8 0, .string { data := #[] }, .string { data := #[] }, .int .i64 0, .slice none 0 0], .slice none 0 0, .slice none 0 0], []⟩ 8 (by kernel_rfl) (by kernel_rfl) (by kernel_rfl) (by kernel_rfl)) ?_
  intro W base args ds gs before hval0 hW hcnd _
  have hval : ∀ (j : Nat) t v, Try.f10.params[j]? = some t → args[j]? = some v → Value.okWide Try.prog W .any base t v := hval0
  have hW' := hW
  obtain ⟨p, q, hA0, hV, rfl, hfz, hnd⟩ := hW
  have hA : DataW.TrodAll enc Try.prog W 0 (fun _ => true) true Try.f10.params.toList args.toList ds p := hA0
  rw [Try.params10] at hA hval
  obtain ⟨v0, vs0, d0, ds0, p0, q0, hargs, rfl, rfl, h0, r0⟩ := trodAll_cons hA
  obtain ⟨v1, vs1, d1, ds1, p1, q1, rfl, rfl, rfl, h1, r1⟩ := trodAll_cons r0
  obtain ⟨v2, vs2, d2, ds2, p2, q2, rfl, rfl, rfl, h2, r2⟩ := trodAll_cons r1
  obtain ⟨v3, vs3, d3, ds3, p3, q3, rfl, rfl, rfl, h3, r3⟩ := trodAll_cons r2
  obtain ⟨v4, vs4, d4, ds4, p4, q4, rfl, rfl, rfl, h4, r4⟩ := trodAll_cons r3
  obtain ⟨rfl, rfl, rfl⟩ := trodAll_nil r4
  obtain rfl : args = #[v0, v1, v2, v3, v4] := by cases args; simp_all
  obtain ⟨rfl, rfl⟩ := trodVars_none hV
  obtain ⟨a0, rfl, rfl, rfl, w0⟩ := open_int Try.underlying3 (hval 0 3 v0 rfl rfl) h0
  obtain ⟨a1, len1, cap1, rfl⟩ := okWide_slice Try.underlying23 (hval 1 23 v1 rfl rfl)
  have k1 := h1
  have lt1 : ∀ x ∈ p1, x.block < W.heap.size := by obtain ⟨m, hm⟩ := k1; exact DataW.trod_lt m _ _ _ hm
  obtain ⟨l1, len_1, hb1⟩ : ∃ l : List Sf.Op, l.length = len1 ∧ Dv W W.heap.size (.slice a1 len1 cap1) l := by
    obtain ⟨fuel, hf⟩ := h1
    exact deeds_in hf
  have k2 := h2
  have lt2 : ∀ x ∈ p2, x.block < W.heap.size := by obtain ⟨m, hm⟩ := k2; exact DataW.trod_lt m _ _ _ hm
  obtain ⟨x2, o2, rfl, f2, hb2⟩ := deed_in (hval 2 35 v2 rfl rfl) h2
  obtain ⟨a3, len3, cap3, rfl⟩ := okWide_slice Try.underlying23 (hval 3 23 v3 rfl rfl)
  have k3 := h3
  have lt3 : ∀ x ∈ p3, x.block < W.heap.size := by obtain ⟨m, hm⟩ := k3; exact DataW.trod_lt m _ _ _ hm
  obtain ⟨l3, len_3, hb3⟩ : ∃ l : List Sf.Op, l.length = len3 ∧ Dv W W.heap.size (.slice a3 len3 cap3) l := by
    obtain ⟨fuel, hf⟩ := h3
    exact deeds_in hf
  obtain ⟨a4, len4, cap4, rfl⟩ := okWide_slice Try.underlying24 (hval 4 24 v4 rfl rfl)
  have k4 := h4
  have lt4 : ∀ x ∈ p4, x.block < W.heap.size := by obtain ⟨m, hm⟩ := k4; exact DataW.trod_lt m _ _ _ hm
  obtain ⟨l4, len_4, hb4⟩ : ∃ l : List Int, l.length = len4 ∧ Lv iK W W.heap.size (.slice a4 len4 cap4) l := by
    obtain ⟨fuel, hf⟩ := h4
    rcases open_ints Try.underlying24 Try.underlying3 (by kernel_rfl) hf with ⟨hcs, _⟩ | ⟨x, l, c, zs, hcs, _, hl, hm, hz, _, hcell, hwz⟩
    · simp [Value.cells] at hcs
      obtain ⟨rfl, rfl, rfl⟩ := hcs
      exact ints_in (.inl ⟨rfl, rfl, rfl⟩)
    · simp [Value.cells] at hcs
      obtain ⟨rfl, rfl, rfl⟩ := hcs
      exact ints_in (.inr ⟨x, zs, rfl, hl, hm, by simpa using hz, hcell, hwz⟩)
  clear hA0 hval0
  refine (walk W a0 w0 (.slice a1 len1 cap1) l1 hb1 x2 o2 f2 hb2 (.slice a3 len3 cap3) l3 hb3 (.slice a4 len4 cap4) l4 hb4).mono fun e W' ⟨he, bel⟩ => ?_
  subst he
  exact ⟨_, rfl, _, _, _, [], _, [], hW', trodAll_mk1 (shut_bool Try.underlying4 _), (trodAll_cons_mk (shut_int Try.underlying3 w0) (trodAll_cons_mk (Below.trod laidOut (by kernel_rfl) (of_decide_eq_true (by kernel_rfl)) k1 bel lt1) (trodAll_cons_mk (Below.trod laidOut (by kernel_rfl) (of_decide_eq_true (by kernel_rfl)) k2 bel lt2) (trodAll_cons_mk (Below.trod laidOut (by kernel_rfl) (of_decide_eq_true (by kernel_rfl)) k3 bel lt3) (trodAll_cons_mk (Below.trod laidOut (by kernel_rfl) (of_decide_eq_true (by kernel_rfl)) k4 bel lt4) trodAll_mk0))))), rfl, bel.frame _, fun h => by cases h⟩

theorem proved : Rows.SimfsDeadSaid :=
  OpenClaim.holds_of_wide 10 Try.f10 rfl rfl rfl rfl rfl rfl rfl ⟨rfl, rfl, rfl, rfl, rfl⟩ rfl rfl rfl rfl rfl (by kernel_rfl) Try.func10 (by kernel_rfl)
    (of_decide_eq_true (by kernel_rfl)) (by unfold Func.isWrapper; first | (rw [if_pos (by decide +kernel)]; kernel_rfl) | (rw [if_neg (by decide +kernel)]; exact ⟨rfl, rfl⟩))
    (fun os started H enc _ => lifted os started H enc)

end Go.Proofs.Ytmcbjcbnckpfkaa.simfsDead
