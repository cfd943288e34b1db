/-
  SimfsPlays: whatever is done, in whatever order, also where the power fails, each answer, and all that is seen behind it, is the document's. No condition.
-/
import Derived.Test.YtmcbjcbnckpfkaaGreatPk06
import Derived.Test.YtmcbjcbnckpfkaaGreatPk07
import Derived.Test.YtmcbjcbnckpfkaaGreatPk38
import Derived.Test.YtmcbjcbnckpfkaaGreatPk39
import Derived.Test.YtmcbjcbnckpfkaaGreatPk13
import Derived.Test.YtmcbjcbnckpfkaaGreatPk08
import Derived.Test.YtmcbjcbnckpfkaaGreatPk09
import Derived.Test.YtmcbjcbnckpfkaaGreatPk04
import Derived.Test.YtmcbjcbnckpfkaaGreatPk37
import Derived.Deep.WholeRow
import Derived.Deep.RegionHeld3
import Derived.Deep.MidRow
namespace Go.Proofs.YtmcbjcbnckpfkaaGreat.simfsPlays
open Go.ChangeShapes Go.WideShapes Go.ChangeAt Go.RowKit
open Go.ChangeMaps (open_string shut_string)
set_option linter.unusedVariables false

set_option maxHeartbeats 4000000 in
set_option maxRecDepth 100000 in
theorem walk (w : World) (a0 : Int) (w0 : (Lit.int .i64 a0).wf = true) (v1 : Value) (l1 : List Sf.Op) (h1 : Dv w w.heap.size v1 l1) :
    Calls Tryz.prog 3 #[.int .i64 a0, v1] w (IsBool true w) := by
  have hb0 := bounds_i64 w0
  have HI : Hid (I64 a0) := by unfold Hid I64; omega
  clear w0 hb0
  obtain ⟨A, n, c, hv⟩ : ∃ A n c, v1 = .slice A n c := by obtain ⟨us, _, ⟨A, c, e, _⟩, _⟩ := h1; exact ⟨A, _, c, e⟩
  subst hv
  obtain rfl := h1.len_
  have hml1 : l1.length ≤ 9223372036854775807 := by obtain ⟨us, e, h2, _⟩ := h1; have := h2.len_; simp only [maxLen] at this; omega
  have H1 := Lib.hid h1
  clear h1
  have HN := Lib.hid (pnew_any a0 HI.out w)
  go_enter Tryz.func3, Tryz.ntmps3
  have HB1 := Lib.hid (Below.refl w.heap.size w)
  by_cases hbad : a0 < 0 ∨ 1048576 < a0
  · go_wp2_with fail
    refine HN.out.mono ?_
    intro e w1 h
    rw [if_pos hbad] at h
    obtain ⟨rfl, hb⟩ := h
    have HB2 := Lib.hid (HB1.out.trans (hb.mono HB1.out.size))
    clear HB1 hb HN
    have HR := Lib.hid (rfnew_any a0 HI.out w1)
    go_wp2_with fail
    refine HR.out.mono ?_
    intro e w2 h
    rw [if_pos hbad] at h
    obtain ⟨rfl, hb⟩ := h
    have HB3 := Lib.hid (HB2.out.trans (hb.mono HB2.out.size))
    clear HB2 hb HR hbad
    have hnn : (binOp .eql 23 (.pointer none) (.pointer none)).run Tryz.prog w2 = .ok (.bool true) w2 := by kernel_rfl
    have C4 := Lib.hid (works_sf w2)
    go_wp2_with fail
    refine C4.out.mono ?_
    rintro e6 w5 ⟨rfl, hb⟩
    have HB7 := Lib.hid (HB3.out.trans (hb.mono HB3.out.size))
    clear hb C4 HB3
    go_wp2
    go_ret
    exact ⟨rfl, HB7.out⟩
  · go_wp2_with fail
    refine HN.out.mono ?_
    intro e w1 h
    rw [if_neg hbad] at h
    obtain ⟨b, f, rfl, hd, hf, hb⟩ := h
    have HF8 := Lib.hid (hf.mono HB1.out.size)
    have HB9 := Lib.hid (HB1.out.trans (hb.mono HB1.out.size))
    have HD10 := Lib.hid hd
    clear HB1 hd hf hb HN
    have HR := Lib.hid (rfnew_any a0 HI.out w1)
    go_wp2_with fail
    refine HR.out.mono ?_
    intro e w2 h
    rw [if_neg hbad] at h
    obtain ⟨c2, g, rfl, hd, hf, hb⟩ := h
    have HA11 := Lib.hid ((pdisk_law.lt HD10.out).apart hf)
    have HF12 := Lib.hid (hf.mono HB9.out.size)
    have HB13 := Lib.hid (HB9.out.trans (hb.mono HB9.out.size))
    have HD14 := Lib.hid (pdisk_law.below HD10.out hb)
    have HD15 := Lib.hid hd
    clear HB9 HD10 hd hf hb HR hbad
    have hnn := disk_not_nil b w2
    obtain ⟨gr, hg⟩ : ∃ g, Sf.great l1 = g := ⟨_, rfl⟩
    have HG16 := Lib.hid hg
    have C17 := Lib.hid (great_any (.slice A l1.length c) w.heap.size l1 w2 (H1.out.below_ HB13.out (Nat.le_refl _)) HB13.out.size)
    rw [hg] at C17
    clear hg
    go_wp2_with fail
    refine C17.out.mono ?_
    rintro e19 w18 ⟨rfl, hb⟩
    have HB20 := Lib.hid (HB13.out.trans (hb.mono HB13.out.size))
    have HD21 := Lib.hid (pdisk_law.below HD14.out hb)
    have HD22 := Lib.hid (rdisk_law.below HD15.out hb)
    clear HB13 HD14 HD15 hb C17
    clear hnn
    cases gr with
    | true =>
      have C23 := Lib.hid (works_sf w18)
      go_wp2_with fail
      refine C23.out.mono ?_
      rintro e25 w24 ⟨rfl, hb⟩
      have HB26 := Lib.hid (HB20.out.trans (hb.mono HB20.out.size))
      clear hb C23 HB20
      go_wp2
      go_ret
      exact ⟨rfl, HB26.out⟩
    | false =>
      have hl1 : l1.length ≤ 120 := by have hg := HG16.out; unfold Sf.great at hg; simp at hg; omega
      clear HG16
      go_wp2
      go_loopw [9] (fun i wr => ∃ (k : Nat) (fp gp : Fp) (t : Sf.St), k ≤ l1.length ∧ i = .int .i64 (k : Nat) ∧ Hid (PDisk wr fp t b) ∧ Hid (fp.From w.heap.size) ∧ Hid (RDisk wr gp t c2) ∧ Hid (gp.From w.heap.size) ∧ Hid (fp.Apart gp) ∧ Hid (t.acts ≤ k) ∧ Below w.heap.size w wr) (fun i _ => l1.length - (intOf i).toNat)
      case atStart => exact ⟨0, f, g, Sf.new a0.toNat, by omega, rfl, HD21.out, HF8.out, HD22.out, HF12.out, HA11.out, Nat.zero_le _, HB20.out⟩
      case round =>
        obtain ⟨k, fp, gp, t, hk, rfl, HDf, HFf, HDg, HFg, HPA, HAr, hbr⟩ := hrel
        have HBr := Lib.hid hbr
        clear hbr HB20 HD21 HF8 HD22 HF12 HA11
        by_cases hlt : k < l1.length
        · have hki : (k : Int) < (l1.length : Int) := by omega
          have hk0 : (0 : Int) ≤ (k : Int) := by omega
          have wk : IntKind.i64.wrap ((k : Int) + 1) = (k : Int) + 1 := by rw [IntKind.wrap_i64]; omega
          obtain ⟨bo, off, x, o, rfl, hbo, hraw, hq, hdd, hrg⟩ := H1.out.at_ hlt
          change w.rangeAt bo (off + k * 5) [.int .u8 (x.call : Nat), .string x.name, .string x.to, .int .i64 x.at_, .slice x.A x.n x.c] at hrg
          have RGx : Hid (∀ w', Below w.heap.size w w' → w'.rangeAt bo (off + k * 5) [.int .u8 (x.call : Nat), .string x.name, .string x.to, .int .i64 x.at_, .slice x.A x.n x.c]) := fun w' hb' j u hj => (hb'.cell (p := ⟨bo, off + k * 5 + j, none⟩) (by show bo < _; omega)).trans (hrg j u hj)
          have DDx := Lib.hid hdd
          have RWx := Lib.hid hraw
          have HQx := Lib.hid hq
          have hcox : o.call = x.call := hdd.1
          clear hrg hq hdd hraw hbo
          have HFEW : Hid (Sf.Few t) := by have := HAr.out; unfold Hid Sf.Few; omega
          have HAL := Lib.hid (Sf.acts_le t o)
          obtain ⟨r, hr⟩ : ∃ r, Sf.doOp t o = r := ⟨_, rfl⟩
          rw [hr] at HAL
          have HR := Lib.hid hr
          clear hr
          have X0 := Lib.hid HBr.out.drew
          have F0 := Lib.hid (pdisk_law.drew HDf.out)
          have G0 := Lib.hid (rdisk_law.drew HDg.out)
          have SC : Hid (∀ w', Below w.heap.size w w' → (w'.cell? ⟨bo, off + k * 5, none⟩ = some (.int .u8 (x.call : Nat)) ∧ w'.cell? ⟨bo, off + k * 5 + 1, none⟩ = some (.string x.name) ∧ w'.cell? ⟨bo, off + k * 5 + 2, none⟩ = some (.string x.to) ∧ w'.cell? ⟨bo, off + k * 5 + 3, none⟩ = some (.int .i64 x.at_) ∧ w'.cell? ⟨bo, off + k * 5 + 4, none⟩ = some (.slice x.A x.n x.c))) := fun w' hb' => ⟨RGx.out w' hb' 0 _ rfl, RGx.out w' hb' 1 _ rfl, RGx.out w' hb' 2 _ rfl, RGx.out w' hb' 3 _ rfl, RGx.out w' hb' 4 _ rfl⟩
          have s0 := SC.out wr.drew X0.out
          have J1 := Lib.hid (pdo_any F0.out HFEW.out x o w.heap.size RWx.out (DDx.out.below_ X0.out (Nat.le_refl _)) X0.out.size (HFf.out.not_arg DDx.out.2.2.2.2))
          unfold deedC at J1
          rw [HR.out] at J1
          have q0 : (((r.1 : Nat) : Int) != ((r.1 : Nat) : Int)) = false := by simp
          go_wp2
          go_region_held3 (fun w' => w'.cell? ⟨bo, off + k * 5, none⟩ = some (.int .u8 (x.call : Nat)) ∧ w'.cell? ⟨bo, off + k * 5 + 1, none⟩ = some (.string x.name) ∧ w'.cell? ⟨bo, off + k * 5 + 2, none⟩ = some (.string x.to) ∧ w'.cell? ⟨bo, off + k * 5 + 3, none⟩ = some (.int .i64 x.at_) ∧ w'.cell? ⟨bo, off + k * 5 + 4, none⟩ = some (.slice x.A x.n x.c)) (first | exact s0 | exact s1 | exact s2 | exact s3)
            (first
              | (go_at_call 10; (with_reducible refine J1.out.mono ?_); rintro e1 x1 ⟨rfl, f1, hd, hn, ht⟩; have X1 := Lib.hid (HFf.out.below X0.out X0.out.size ht); have F1 := Lib.hid hd; have HF1 := Lib.hid (hn.from_ HFf.out X0.out.size); have G1 := Lib.hid (rdisk_law.turned G0.out ht HPA.out.2); have HP1 := Lib.hid (HPA.out.next hn (rdisk_law.lt G0.out)); have s1 := SC.out x1 X1.out; have J2 := Lib.hid (rdid_any G1.out HFEW.out x o w.heap.size RWx.out (DDx.out.below_ X1.out (Nat.le_refl _)) X1.out.size (HFg.out.not_arg DDx.out.2.2.2.2)); unfold deedC at J2; rw [HR.out] at J2; clear hd hn ht J1 s0)
              | (go_at_call 11; (with_reducible refine J2.out.mono ?_); rintro e2 x2 ⟨rfl, g2, hd, hn, ht⟩; have X2 := Lib.hid (HFg.out.below X1.out X1.out.size ht); have G2 := Lib.hid hd; have HG2 := Lib.hid (hn.from_ HFg.out X1.out.size); have F2 := Lib.hid (pdisk_law.turned F1.out ht HP1.out.1); have HP2 := Lib.hid ((HP1.out.symm.next hn (pdisk_law.lt F1.out)).symm); have s2 := SC.out x2 X2.out; have J3 := Lib.hid (alike_any F2.out G2.out x RWx.out); unfold deedC at J3; clear hd hn ht J2 s1)
              | (go_at_call 12; (with_reducible refine J3.out.mono ?_); rintro e3 x3 ⟨rfl, hb⟩; have X3 := Lib.hid (X2.out.trans (hb.mono X2.out.size)); have F3 := Lib.hid (pdisk_law.below F2.out hb); have G3 := Lib.hid (rdisk_law.below G2.out hb); have s3 := SC.out x3 X3.out; clear hb J3 s2))
          all_goals
            clear RGx DDx RWx HQx SC s3
            go_wp2
            go_roundw
            case rel => exact ⟨k + 1, f1, g2, r.2, by omega, by go_num, F3.out, HF1.out, G3.out, HG2.out, HP2.out, by have := HAL.out; have := HAr.out; unfold Hid; omega, X3.out⟩
            case measure => simp [intOf]; omega
        · have hki : ¬ (k : Int) < (l1.length : Int) := by omega
          have C27 := Lib.hid (works_sf wr)
          go_wp2_with fail
          refine C27.out.mono ?_
          rintro e29 w28 ⟨rfl, hb⟩
          have HB30 := Lib.hid (HBr.out.trans (hb.mono HBr.out.size))
          clear hb C27 HBr
          go_wp2
          go_ret
          exact ⟨rfl, HB30.out⟩
/-! ### From the walk to the row -/
set_option maxRecDepth 100000 in
theorem lifted (os : Os) (started : os.Started) (H : Type) (enc : TypeId × Value → H) :
    ReturnsInHanded {} Tryz.checked os 3 .any (Rows.simfsPlaysSpec.pre6 enc Tryz.prog Tryz.f3 Rows.simfsPlaysRow.domain false) (Rows.simfsPlaysSpec.post enc Tryz.prog Tryz.f3 false true false false) := by
  refine returnsInHanded_of_change (C := Tryz.checked) own started (by kernel_rfl) Tryz.func3
    (ChangeSpec.witness6 (enc := enc) (C := Tryz.checked) false ⟨#[], #[.int .i64 0, .slice none 0 0], []⟩ 8 (by kernel_rfl) (by kernel_rfl) (by kernel_rfl) (by kernel_rfl)) ?_
  intro W base args ds gs before hval0 hW hcnd _
  have hval : ∀ (j : Nat) t v, Tryz.f3.params[j]? = some t → args[j]? = some v → Value.okWide Tryz.prog W .any base t v := hval0
  have hW' := hW
  obtain ⟨p, q, hA0, hV, rfl, hfz, hnd⟩ := hW
  have hA : DataW.TrodAll enc Tryz.prog W 0 (fun _ => true) true Tryz.f3.params.toList args.toList ds p := hA0
  rw [Tryz.params3] at hA hval
  obtain ⟨v0, vs0, d0, ds0, p0, q0, hargs, rfl, rfl, h0, r0⟩ := trodAll_cons hA
  obtain ⟨v1, vs1, d1, ds1, p1, q1, rfl, rfl, rfl, h1, r1⟩ := trodAll_cons r0
  obtain ⟨rfl, rfl, rfl⟩ := trodAll_nil r1
  obtain rfl : args = #[v0, v1] := by cases args; simp_all
  obtain ⟨rfl, rfl⟩ := trodVars_none hV
  obtain ⟨a0, rfl, rfl, rfl, w0⟩ := open_int Tryz.underlying3 (hval 0 3 v0 rfl rfl) h0
  obtain ⟨a1, len1, cap1, rfl⟩ := okWide_slice Tryz.underlying22 (hval 1 22 v1 rfl rfl)
  have k1 := h1
  have lt1 : ∀ x ∈ p1, x.block < W.heap.size := by obtain ⟨m, hm⟩ := k1; exact DataW.trod_lt m _ _ _ hm
  obtain ⟨l1, len_1, hb1⟩ : ∃ l : List Sf.Op, l.length = len1 ∧ Dv W W.heap.size (.slice a1 len1 cap1) l := by
    obtain ⟨fuel, hf⟩ := h1
    exact deeds_in hf
  clear hA0 hval0
  refine (walk W a0 w0 (.slice a1 len1 cap1) l1 hb1).mono fun e W' ⟨he, bel⟩ => ?_
  subst he
  exact ⟨_, rfl, _, _, _, [], _, [], hW', trodAll_mk1 (shut_bool Tryz.underlying4 _), (trodAll_cons_mk (shut_int Tryz.underlying3 w0) (trodAll_cons_mk (Below.trod laidOut (by kernel_rfl) (of_decide_eq_true (by kernel_rfl)) k1 bel lt1) trodAll_mk0)), rfl, bel.frame _, fun h => by cases h⟩

theorem proved : Rows.SimfsPlaysSaid :=
  OpenClaim.holds_of_wide 3 Tryz.f3 rfl rfl rfl rfl rfl rfl rfl ⟨rfl, rfl, rfl, rfl, rfl⟩ rfl rfl rfl rfl rfl (by kernel_rfl) Tryz.func3 (by kernel_rfl)
    (of_decide_eq_true (by kernel_rfl)) (by unfold Func.isWrapper; first | (rw [if_pos (by decide +kernel)]; kernel_rfl) | (rw [if_neg (by decide +kernel)]; exact ⟨rfl, rfl⟩))
    (fun os started H enc _ => lifted os started H enc)

end Go.Proofs.YtmcbjcbnckpfkaaGreat.simfsPlays
