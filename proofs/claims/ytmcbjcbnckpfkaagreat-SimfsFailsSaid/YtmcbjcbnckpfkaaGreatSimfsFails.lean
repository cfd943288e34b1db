/-
  SimfsFails: whatever was done, and whatever numbers say what is kept, what a failure leaves is the document's; the disk itself stays. No condition.
-/
import Derived.Test.YtmcbjcbnckpfkaaGreatPk06
import Derived.Test.YtmcbjcbnckpfkaaGreatPk07
import Derived.Test.YtmcbjcbnckpfkaaGreatPk38
import Derived.Test.YtmcbjcbnckpfkaaGreatPk39
import Derived.Test.YtmcbjcbnckpfkaaGreatPk13
import Derived.Test.YtmcbjcbnckpfkaaGreatPk08
import Derived.Test.YtmcbjcbnckpfkaaGreatPk09
import Derived.Test.YtmcbjcbnckpfkaaGreatPk04
import Derived.Test.YtmcbjcbnckpfkaaGreatPk37
import Derived.Test.YtmcbjcbnckpfkaaGreatPk40
import Derived.Deep.WholeRow
namespace Go.Proofs.YtmcbjcbnckpfkaaGreat.simfsFails
open Go.ChangeShapes Go.WideShapes Go.ChangeAt Go.RowKit
open Go.ChangeMaps (open_string shut_string)
set_option linter.unusedVariables false

set_option maxHeartbeats 4000000 in
set_option maxRecDepth 100000 in
theorem walk (w : World) (a0 : Int) (w0 : (Lit.int .i64 a0).wf = true) (v1 : Value) (l1 : List Sf.Op) (h1 : Dv w w.heap.size v1 l1) (v2 : Value) (l2 : List Int) (h2 : Lv iK w w.heap.size v2 l2) (r2 : l2.length * 8 ≤ 140737488351232) :
    Calls Tryz.prog 4 #[.int .i64 a0, v1, v2] w (IsBool true w) := by
  have hb0 := bounds_i64 w0
  have HI : Hid (I64 a0) := by unfold Hid I64; omega
  clear w0 hb0
  obtain ⟨A, n, c, hv⟩ : ∃ A n c, v1 = .slice A n c := by obtain ⟨us, _, ⟨A, c, e, _⟩, _⟩ := h1; exact ⟨A, _, c, e⟩
  subst hv
  obtain rfl := h1.len_
  have hml1 : l1.length ≤ 9223372036854775807 := by obtain ⟨us, e, h2, _⟩ := h1; have := h2.len_; simp only [maxLen] at this; omega
  have H1 := Lib.hid h1
  clear h1
  have H2 := Lib.hid h2
  clear h2
  have HN := Lib.hid (pnew_any a0 HI.out w)
  go_enter Tryz.func4, Tryz.ntmps4
  have HB1 := Lib.hid (Below.refl w.heap.size w)
  by_cases hbad : a0 < 0 ∨ 1048576 < a0
  · go_wp2_with fail
    refine HN.out.mono ?_
    intro e w1 h
    rw [if_pos hbad] at h
    obtain ⟨rfl, hb⟩ := h
    have HB2 := Lib.hid (HB1.out.trans (hb.mono HB1.out.size))
    clear HB1 hb HN
    have HR := Lib.hid (rfnew_any a0 HI.out w1)
    go_wp2_with fail
    refine HR.out.mono ?_
    intro e w2 h
    rw [if_pos hbad] at h
    obtain ⟨rfl, hb⟩ := h
    have HB3 := Lib.hid (HB2.out.trans (hb.mono HB2.out.size))
    clear HB2 hb HR hbad
    have C4 := Lib.hid (works_sf w2)
    go_wp2_with fail
    refine C4.out.mono ?_
    rintro e6 w5 ⟨rfl, hb⟩
    have HB7 := Lib.hid (HB3.out.trans (hb.mono HB3.out.size))
    clear hb C4 HB3
    go_wp2
    go_ret
    exact ⟨rfl, HB7.out⟩
  · go_wp2_with fail
    refine HN.out.mono ?_
    intro e w1 h
    rw [if_neg hbad] at h
    obtain ⟨b, f, rfl, hd, hf, hb⟩ := h
    have HF8 := Lib.hid (hf.mono HB1.out.size)
    have HB9 := Lib.hid (HB1.out.trans (hb.mono HB1.out.size))
    have HD10 := Lib.hid hd
    clear HB1 hd hf hb HN
    have HR := Lib.hid (rfnew_any a0 HI.out w1)
    go_wp2_with fail
    refine HR.out.mono ?_
    intro e w2 h
    rw [if_neg hbad] at h
    obtain ⟨c2, g, rfl, hd, hf, hb⟩ := h
    have HA11 := Lib.hid ((pdisk_law.lt HD10.out).apart hf)
    have HF12 := Lib.hid (hf.mono HB9.out.size)
    have HB13 := Lib.hid (HB9.out.trans (hb.mono HB9.out.size))
    have HD14 := Lib.hid (pdisk_law.below HD10.out hb)
    have HD15 := Lib.hid hd
    clear HB9 HD10 hd hf hb HR hbad
    obtain ⟨gr, hg⟩ : ∃ g, Sf.great l1 = g := ⟨_, rfl⟩
    have HG16 := Lib.hid hg
    have C17 := Lib.hid (great_any (.slice A l1.length c) w.heap.size l1 w2 (H1.out.below_ HB13.out (Nat.le_refl _)) HB13.out.size)
    rw [hg] at C17
    clear hg
    go_wp2_with fail
    refine C17.out.mono ?_
    rintro e19 w18 ⟨rfl, hb⟩
    have HB20 := Lib.hid (HB13.out.trans (hb.mono HB13.out.size))
    have HD21 := Lib.hid (pdisk_law.below HD14.out hb)
    have HD22 := Lib.hid (rdisk_law.below HD15.out hb)
    clear HB13 HD14 HD15 hb C17
    cases gr with
    | true =>
      have C23 := Lib.hid (works_sf w18)
      go_wp2_with fail
      refine C23.out.mono ?_
      rintro e25 w24 ⟨rfl, hb⟩
      have HB26 := Lib.hid (HB20.out.trans (hb.mono HB20.out.size))
      clear hb C23 HB20
      go_wp2
      go_ret
      exact ⟨rfl, HB26.out⟩
    | false =>
      have hl1 : l1.length ≤ 120 := by have hg := HG16.out; unfold Sf.great at hg; simp at hg; omega
      clear HG16
      go_wp2
      go_loopw [11] (fun i wr => ∃ (k : Nat) (fp gp : Fp) (t : Sf.St), k ≤ l1.length ∧ i = .int .i64 (k : Nat) ∧ Hid (PDisk wr fp t b) ∧ Hid (fp.From w.heap.size) ∧ Hid (RDisk wr gp t c2) ∧ Hid (gp.From w.heap.size) ∧ Hid (fp.Apart gp) ∧ Hid (t.acts ≤ k) ∧ Below w.heap.size w wr) (fun i _ => l1.length - (intOf i).toNat)
      case atStart => exact ⟨0, f, g, Sf.new a0.toNat, by omega, rfl, HD21.out, HF8.out, HD22.out, HF12.out, HA11.out, Nat.zero_le _, HB20.out⟩
      case round =>
        obtain ⟨k, fp, gp, t, hk, rfl, HDf, HFf, HDg, HFg, HPA, HAr, hbr⟩ := hrel
        have HBr := Lib.hid hbr
        clear hbr HB20 HD21 HF8 HD22 HF12 HA11
        by_cases hlt : k < l1.length
        · have hki : (k : Int) < (l1.length : Int) := by omega
          have hk0 : (0 : Int) ≤ (k : Int) := by omega
          have wk : IntKind.i64.wrap ((k : Int) + 1) = (k : Int) + 1 := by rw [IntKind.wrap_i64]; omega
          obtain ⟨bo, off, x, o, rfl, hbo, hraw, hq, hdd, hrg⟩ := H1.out.at_ hlt
          change w.rangeAt bo (off + k * 5) [.int .u8 (x.call : Nat), .string x.name, .string x.to, .int .i64 x.at_, .slice x.A x.n x.c] at hrg
          have RGx : Hid (∀ w', Below w.heap.size w w' → w'.rangeAt bo (off + k * 5) [.int .u8 (x.call : Nat), .string x.name, .string x.to, .int .i64 x.at_, .slice x.A x.n x.c]) := fun w' hb' j u hj => (hb'.cell (p := ⟨bo, off + k * 5 + j, none⟩) (by show bo < _; omega)).trans (hrg j u hj)
          have DDx := Lib.hid hdd
          have RWx := Lib.hid hraw
          have HQx := Lib.hid hq
          have hcox : o.call = x.call := hdd.1
          clear hrg hq hdd hraw hbo
          have HFEW : Hid (Sf.Few t) := by have := HAr.out; unfold Hid Sf.Few; omega
          have HAL := Lib.hid (Sf.acts_le t o)
          obtain ⟨r, hr⟩ : ∃ r, Sf.doOp t o = r := ⟨_, rfl⟩
          rw [hr] at HAL
          have HR := Lib.hid hr
          clear hr
          have RGN := Lib.hid (RGx.out wr HBr.out)
          have C27 := Lib.hid (pdo_any HDf.out HFEW.out x o w.heap.size RWx.out (DDx.out.below_ HBr.out (Nat.le_refl _)) HBr.out.size (HFf.out.not_arg DDx.out.2.2.2.2))
          unfold deedC at C27
          rw [HR.out] at C27
          go_wp2_with (refine wpList_load_mid rfl _ _ rfl bo (off + k * 5) rfl [.int .u8 (x.call : Nat), .string x.name, .string x.to, .int .i64 x.at_, .slice x.A x.n x.c] _ RGN.out Tryz.underlying35 rfl (by kernel_rfl) ?_)
          refine C27.out.mono ?_
          rintro e29 w28 ⟨rfl, f30, hd, hn, ht⟩
          have HB31 := Lib.hid (HFf.out.below HBr.out HBr.out.size ht)
          have HF32 := Lib.hid (hn.from_ HFf.out HBr.out.size)
          have HA33 := Lib.hid (HPA.out.next hn (rdisk_law.lt HDg.out))
          have HD34 := Lib.hid (rdisk_law.turned HDg.out ht HPA.out.2)
          have HD35 := Lib.hid hd
          clear HBr HDf HFf HPA HDg hd hn ht C27 RGN
          have RGN := Lib.hid (RGx.out w28 HB31.out)
          have C36 := Lib.hid (rdid_any HD34.out HFEW.out x o w.heap.size RWx.out (DDx.out.below_ HB31.out (Nat.le_refl _)) HB31.out.size (HFg.out.not_arg DDx.out.2.2.2.2))
          unfold deedC at C36
          rw [HR.out] at C36
          go_wp2_with (refine wpList_load_mid rfl _ _ rfl bo (off + k * 5) rfl [.int .u8 (x.call : Nat), .string x.name, .string x.to, .int .i64 x.at_, .slice x.A x.n x.c] _ RGN.out Tryz.underlying35 rfl (by kernel_rfl) ?_)
          refine C36.out.mono ?_
          rintro e38 w37 ⟨rfl, f39, hd, hn, ht⟩
          have HB40 := Lib.hid (HFg.out.below HB31.out HB31.out.size ht)
          have HF41 := Lib.hid (hn.from_ HFg.out HB31.out.size)
          have HA42 := Lib.hid ((HA33.out.symm.next hn (pdisk_law.lt HD35.out)).symm)
          have HD43 := Lib.hid (pdisk_law.turned HD35.out ht HA33.out.1)
          have HD44 := Lib.hid hd
          clear HB31 HD34 HFg HA33 HD35 hd hn ht C36 RGN
          go_wp2
          go_roundw
          case rel => exact ⟨k + 1, f30, f39, r.2, by omega, by go_num, HD43.out, HF32.out, HD44.out, HF41.out, HA42.out, by have := HAL.out; have := HAr.out; unfold Hid; omega, HB40.out⟩
          case measure => simp [intOf]; omega
        · have hki : ¬ (k : Int) < (l1.length : Int) := by omega
          have CI := Lib.hid (copyInts_any v2 l2 w.heap.size wr (H2.out.below_ HBr.out (Nat.le_refl _)) (by omega))
          go_wp2_with fail
          refine CI.out.mono ?_
          rintro e20 w20 ⟨AI, cI, rfl, ho, hb⟩
          have VI := Lib.hid ho.form_
          have HB45 := Lib.hid (HBr.out.trans (hb.mono HBr.out.size))
          have HD46 := Lib.hid (pdisk_law.below HDf.out hb)
          have HD47 := Lib.hid (rdisk_law.below HDg.out hb)
          clear HBr HDf HDg hb ho CI
          obtain ⟨Q, hQ⟩ : ∃ Q, Sf.fail t l2 = Q := ⟨_, rfl⟩
          have HQ := Lib.hid hQ
          clear hQ
          have CF := Lib.hid (pfail_any HD46.out _ w20.heap.size l2 VI.out (Nat.le_refl _))
          rw [HQ.out] at CF
          go_wp2_with fail
          refine CF.out.mono ?_
          rintro e21 w21 ⟨bx, fx, rfl, hd, hf, hb⟩
          have VI2 := Lib.hid ((VI.out.below_ hb (Nat.le_refl _)).mono_ hb.size)
          have HA48 := Lib.hid ((pdisk_law.lt HD46.out).apart hf)
          have HA49 := Lib.hid ((rdisk_law.lt HD47.out).apart hf)
          have HF50 := Lib.hid (hf.mono HB45.out.size)
          have HB51 := Lib.hid (HB45.out.trans (hb.mono HB45.out.size))
          have HD52 := Lib.hid (pdisk_law.below HD46.out hb)
          have HD53 := Lib.hid (rdisk_law.below HD47.out hb)
          have HD54 := Lib.hid hd
          clear HB45 HD46 HD47 hd hf hb CF VI
          have CG := Lib.hid (rffail_any HD53.out v2 w.heap.size l2 (H2.out.below_ HB51.out (Nat.le_refl _)) HB51.out.size)
          rw [HQ.out] at CG
          go_wp2_with fail
          refine CG.out.mono ?_
          rintro e22 w22 ⟨by2, fy, rfl, hd, hf, hb⟩
          have VI3 := Lib.hid ((VI2.out.below_ hb (Nat.le_refl _)).mono_ hb.size)
          have HA55 := Lib.hid ((pdisk_law.lt HD52.out).apart hf)
          have HA56 := Lib.hid ((rdisk_law.lt HD53.out).apart hf)
          have HA57 := Lib.hid ((pdisk_law.lt HD54.out).apart hf)
          have HF58 := Lib.hid (hf.mono HB51.out.size)
          have HB59 := Lib.hid (HB51.out.trans (hb.mono HB51.out.size))
          have HD60 := Lib.hid (pdisk_law.below HD52.out hb)
          have HD61 := Lib.hid (rdisk_law.below HD53.out hb)
          have HD62 := Lib.hid (pdisk_law.below HD54.out hb)
          have HD63 := Lib.hid hd
          clear HB51 HD52 HD53 HD54 hd hf hb CG VI2
          have hYb : Below w22.heap.size w22 (w22.alloc (.cells #[.int .u8 0, .string { data := #[97] }, .string { data := #[] }, .int .i64 0, .slice none 0 0] 35)) := (Below.refl _ _).alloc (Nat.le_refl _) _
          have hYh := heap_alloc_new w22 (.cells #[.int .u8 0, .string { data := #[97] }, .string { data := #[] }, .int .i64 0, .slice none 0 0] 35)
          have hYs : w22.heap.size < (w22.alloc (.cells #[.int .u8 0, .string { data := #[97] }, .string { data := #[] }, .int .i64 0, .slice none 0 0] 35)).heap.size := by simp
          obtain ⟨YY, hYY⟩ : ∃ Y, w22.alloc (.cells #[.int .u8 0, .string { data := #[97] }, .string { data := #[] }, .int .i64 0, .slice none 0 0] 35) = Y := ⟨_, rfl⟩
          rw [hYY] at hYb hYh hYs
          have HLAST : Hid (∀ w', Below YY.heap.size YY w' → w'.heap[w22.heap.size]? = some (.cells #[.int .u8 0, .string { data := #[97] }, .string { data := #[] }, .int .i64 0, .slice none 0 0] 35 (0, 0))) := fun w' hb' => (hb'.block _ hYs).trans hYh
          have hb := hYb
          have VI3' := Lib.hid ((VI3.out.below_ hb (Nat.le_refl _)).mono_ hb.size)
          clear VI3
          have VI3 := VI3'
          clear VI3'
          have HB64 := Lib.hid (HB59.out.trans (hb.mono HB59.out.size))
          have HD65 := Lib.hid (pdisk_law.below HD60.out hb)
          have HD66 := Lib.hid (rdisk_law.below HD61.out hb)
          have HD67 := Lib.hid (pdisk_law.below HD62.out hb)
          have HD68 := Lib.hid (rdisk_law.below HD63.out hb)
          have HBY := Lib.hid (Below.refl YY.heap.size YY)
          clear HB59 HD60 HD61 HD62 HD63 hb hYb hYh hYs
          have HYY := Lib.hid hYY
          clear hYY
          have CS := Lib.hid (ints_lv _ _ _ _ _ _ YY VI3.out (H2.out.below_ HB64.out (Nat.le_refl _)))
          simp only [decide_true] at CS
          go_wp2_with fail
          rw [HYY.out]
          refine CS.out.mono ?_
          rintro e30 w30 ⟨rfl, hb⟩
          have HBY69 := Lib.hid (HBY.out.trans (hb.mono HBY.out.size))
          clear HBY
          have HB70 := Lib.hid (HB64.out.trans (hb.mono HB64.out.size))
          have HD71 := Lib.hid (pdisk_law.below HD65.out hb)
          have HD72 := Lib.hid (rdisk_law.below HD66.out hb)
          have HD73 := Lib.hid (pdisk_law.below HD67.out hb)
          have HD74 := Lib.hid (rdisk_law.below HD68.out hb)
          clear HB64 HD65 HD66 HD67 HD68 hb CS VI3 HYY
          have HXL78 := Lib.hid (HLAST.out w30 HBY69.out)
          have C75 := Lib.hid (alike_any HD73.out HD74.out (⟨0, ⟨#[97]⟩, ⟨#[]⟩, 0, none, 0, 0⟩ : Raw) ⟨by decide, by decide +kernel, by decide +kernel, by unfold I64; decide⟩)
          change Hid (Calls _ _ #[_, _, .agg #[.int .u8 0, .string { data := #[97] }, .string { data := #[] }, .int .i64 0, .slice none 0 0]] _ _) at C75
          go_wp2_with (first | (refine wpList_load_row_onT (by rfl) _ _ rfl w22.heap.size rfl 35 #[.int .u8 0, .string { data := #[97] }, .string { data := #[] }, .int .i64 0, .slice none 0 0] (0, 0) _ HXL78.out Tryz.underlying35 rfl (by kernel_rfl) ?_) | (refine wpList_load_row rfl _ _ rfl w22.heap.size rfl 35 #[.int .u8 0, .string { data := #[97] }, .string { data := #[] }, .int .i64 0, .slice none 0 0] (0, 0) _ HXL78.out Tryz.underlying35 rfl (by kernel_rfl) ?_))
          refine C75.out.mono ?_
          rintro e77 w76 ⟨rfl, hb⟩
          have HBY79 := Lib.hid (HBY69.out.trans (hb.mono HBY69.out.size))
          clear HBY69
          have HB80 := Lib.hid (HB70.out.trans (hb.mono HB70.out.size))
          have HD81 := Lib.hid (pdisk_law.below HD71.out hb)
          have HD82 := Lib.hid (rdisk_law.below HD72.out hb)
          have HD83 := Lib.hid (pdisk_law.below HD73.out hb)
          have HD84 := Lib.hid (rdisk_law.below HD74.out hb)
          clear HB70 HD71 HD72 HD73 HD74 hb C75 HXL78
          have HXL88 := Lib.hid (HLAST.out w76 HBY79.out)
          have C85 := Lib.hid (alike_any HD81.out HD82.out (⟨0, ⟨#[97]⟩, ⟨#[]⟩, 0, none, 0, 0⟩ : Raw) ⟨by decide, by decide +kernel, by decide +kernel, by unfold I64; decide⟩)
          change Hid (Calls _ _ #[_, _, .agg #[.int .u8 0, .string { data := #[97] }, .string { data := #[] }, .int .i64 0, .slice none 0 0]] _ _) at C85
          go_wp2_with (first | (refine wpList_load_row_onT (by rfl) _ _ rfl w22.heap.size rfl 35 #[.int .u8 0, .string { data := #[97] }, .string { data := #[] }, .int .i64 0, .slice none 0 0] (0, 0) _ HXL88.out Tryz.underlying35 rfl (by kernel_rfl) ?_) | (refine wpList_load_row rfl _ _ rfl w22.heap.size rfl 35 #[.int .u8 0, .string { data := #[97] }, .string { data := #[] }, .int .i64 0, .slice none 0 0] (0, 0) _ HXL88.out Tryz.underlying35 rfl (by kernel_rfl) ?_))
          refine C85.out.mono ?_
          rintro e87 w86 ⟨rfl, hb⟩
          have HBY89 := Lib.hid (HBY79.out.trans (hb.mono HBY79.out.size))
          clear HBY79
          have HB90 := Lib.hid (HB80.out.trans (hb.mono HB80.out.size))
          have HD91 := Lib.hid (pdisk_law.below HD81.out hb)
          have HD92 := Lib.hid (rdisk_law.below HD82.out hb)
          have HD93 := Lib.hid (pdisk_law.below HD83.out hb)
          have HD94 := Lib.hid (rdisk_law.below HD84.out hb)
          clear HB80 HD81 HD82 HD83 HD84 hb C85 HXL88
          have C95 := Lib.hid (works_sf w86)
          go_wp2_with fail
          refine C95.out.mono ?_
          rintro e97 w96 ⟨rfl, hb⟩
          have HB98 := Lib.hid (HB90.out.trans (hb.mono HB90.out.size))
          clear hb C95 HB90
          go_wp2
          go_ret
          exact ⟨rfl, HB98.out⟩
/-! ### From the walk to the row -/
set_option maxRecDepth 100000 in
theorem lifted (os : Os) (started : os.Started) (H : Type) (enc : TypeId × Value → H) :
    ReturnsInHanded {} Tryz.checked os 4 .any (Rows.simfsFailsSpec.pre6 enc Tryz.prog Tryz.f4 Rows.simfsFailsRow.domain false) (Rows.simfsFailsSpec.post enc Tryz.prog Tryz.f4 false true false false) := by
  refine returnsInHanded_of_change_sized (C := Tryz.checked) own started (by kernel_rfl) Tryz.func4
    (ChangeSpec.witness6 (enc := enc) (C := Tryz.checked) false ⟨#[], #[.int .i64 0, .slice none 0 0, .slice none 0 0], []⟩ 8 (by kernel_rfl) (by kernel_rfl) (by kernel_rfl) (by kernel_rfl)) ?_
  intro W base args ds gs before hval0 hW hcnd hreach _
  have hval : ∀ (j : Nat) t v, Tryz.f4.params[j]? = some t → args[j]? = some v → Value.okWide Tryz.prog W .any base t v := hval0
  have hW' := hW
  obtain ⟨p, q, hA0, hV, rfl, hfz, hnd⟩ := hW
  have hA : DataW.TrodAll enc Tryz.prog W 0 (fun _ => true) true Tryz.f4.params.toList args.toList ds p := hA0
  rw [Tryz.params4] at hA hval
  obtain ⟨v0, vs0, d0, ds0, p0, q0, hargs, rfl, rfl, h0, r0⟩ := trodAll_cons hA
  obtain ⟨v1, vs1, d1, ds1, p1, q1, rfl, rfl, rfl, h1, r1⟩ := trodAll_cons r0
  obtain ⟨v2, vs2, d2, ds2, p2, q2, rfl, rfl, rfl, h2, r2⟩ := trodAll_cons r1
  obtain ⟨rfl, rfl, rfl⟩ := trodAll_nil r2
  obtain rfl : args = #[v0, v1, v2] := by cases args; simp_all
  obtain ⟨rfl, rfl⟩ := trodVars_none hV
  obtain ⟨a0, rfl, rfl, rfl, w0⟩ := open_int Tryz.underlying3 (hval 0 3 v0 rfl rfl) h0
  obtain ⟨a1, len1, cap1, rfl⟩ := okWide_slice Tryz.underlying22 (hval 1 22 v1 rfl rfl)
  have k1 := h1
  have lt1 : ∀ x ∈ p1, x.block < W.heap.size := by obtain ⟨m, hm⟩ := k1; exact DataW.trod_lt m _ _ _ hm
  obtain ⟨l1, len_1, hb1⟩ : ∃ l : List Sf.Op, l.length = len1 ∧ Dv W W.heap.size (.slice a1 len1 cap1) l := by
    obtain ⟨fuel, hf⟩ := h1
    exact deeds_in hf
  obtain ⟨a2, len2, cap2, rfl⟩ := okWide_slice Tryz.underlying39 (hval 2 39 v2 rfl rfl)
  have k2 := h2
  have lt2 : ∀ x ∈ p2, x.block < W.heap.size := by obtain ⟨m, hm⟩ := k2; exact DataW.trod_lt m _ _ _ hm
  obtain ⟨l2, len_2, hb2⟩ : ∃ l : List Int, l.length = len2 ∧ Lv iK W W.heap.size (.slice a2 len2 cap2) l := by
    obtain ⟨fuel, hf⟩ := h2
    rcases open_ints Tryz.underlying39 Tryz.underlying3 (by kernel_rfl) hf with ⟨hcs, _⟩ | ⟨x, l, c, zs, hcs, _, hl, hm, hz, _, hcell, hwz⟩
    · simp [Value.cells] at hcs
      obtain ⟨rfl, rfl, rfl⟩ := hcs
      exact ints_in (.inl ⟨rfl, rfl, rfl⟩)
    · simp [Value.cells] at hcs
      obtain ⟨rfl, rfl, rfl⟩ := hcs
      exact ints_in (.inr ⟨x, zs, rfl, hl, hm, by simpa using hz, hcell, hwz⟩)
  have reach2 : len2 * 8 ≤ 140737488351232 := by
    obtain ⟨fuel, hf⟩ := k2
    rcases open_ints Tryz.underlying39 Tryz.underlying3 (by kernel_rfl) hf with ⟨hcs, _⟩ | ⟨x, l, c, zs, hcs, _, hl, hm, hz, hx, hcell, hwz⟩
    · simp [Value.cells] at hcs
      omega
    · simp [Value.cells] at hcs
      obtain ⟨rfl, rfl, rfl⟩ := hcs
      rw [Prod.mk.injEq] at hx
      have hs := sized_slice hreach (j := 2) (t := 39) (e := 3) (elems := lits .i64 (zs.take len2)) (spare := lits .i64 (zs.drop len2)) rfl (by rw [hx.1]; rfl) Tryz.underlying39
      have hb : Tryz.prog.bytesOf 3 = 8 := by kernel_rfl
      change _ * Tryz.prog.bytesOf 3 ≤ _ at hs
      rw [hb] at hs
      simp [lits, reachBytes] at hs hz
      omega
  clear hA0 hval0
  refine (walk W a0 w0 (.slice a1 len1 cap1) l1 hb1 (.slice a2 len2 cap2) l2 hb2 (by rw [len_2]; exact reach2)).mono fun e W' ⟨he, bel⟩ => ?_
  subst he
  exact ⟨_, rfl, _, _, _, [], _, [], hW', trodAll_mk1 (shut_bool Tryz.underlying4 _), (trodAll_cons_mk (shut_int Tryz.underlying3 w0) (trodAll_cons_mk (Below.trod laidOut (by kernel_rfl) (of_decide_eq_true (by kernel_rfl)) k1 bel lt1) (trodAll_cons_mk (Below.trod laidOut (by kernel_rfl) (of_decide_eq_true (by kernel_rfl)) k2 bel lt2) trodAll_mk0))), rfl, bel.frame _, fun h => by cases h⟩

theorem proved : Rows.SimfsFailsSaid :=
  OpenClaim.holds_of_wide 4 Tryz.f4 rfl rfl rfl rfl rfl rfl rfl ⟨rfl, rfl, rfl, rfl, rfl⟩ rfl rfl rfl rfl rfl (by kernel_rfl) Tryz.func4 (by kernel_rfl)
    (of_decide_eq_true (by kernel_rfl)) (by unfold Func.isWrapper; first | (rw [if_pos (by decide +kernel)]; kernel_rfl) | (rw [if_neg (by decide +kernel)]; exact ⟨rfl, rfl⟩))
    (fun os started H enc _ => lifted os started H enc)

end Go.Proofs.YtmcbjcbnckpfkaaGreat.simfsFails
