/-
  SimfsSure: a file that was synced, of a name that is there for sure, and to which nothing was done since, is there behind any failure, as it was. No condition.
-/
import Derived.Test.YtmcbjcbnckpfkaaPk24
import Derived.Test.YtmcbjcbnckpfkaaPk23
import Derived.Test.YtmcbjcbnckpfkaaPk11
import Derived.Test.YtmcbjcbnckpfkaaPk25
import Derived.Test.YtmcbjcbnckpfkaaPk03
import Derived.Deep.WholeRow
namespace Go.Proofs.Ytmcbjcbnckpfkaa.simfsSure
open Go.ChangeShapes Go.WideShapes Go.ChangeAt Go.RowKit
open Go.ChangeMaps (open_string shut_string)
set_option linter.unusedVariables false

set_option maxHeartbeats 4000000 in
set_option maxRecDepth 100000 in
theorem walk (w : World) (v0 : Value) (l0 : List Nat) (h0 : Lv yK w w.heap.size v0 l0) (v1 : Value) (l1 : List Sf.Op) (h1 : Dv w w.heap.size v1 l1) (v2 : Value) (l2 : List Int) (h2 : Lv iK w w.heap.size v2 l2) :
    Calls Try.prog 3 #[v0, v1, v2] w (IsBool true w) := by
  have H0 := Lib.hid h0
  have hml0 : l0.length ≤ 9223372036854775807 := by have := h0; obtain ⟨_, _, _, h2, h3, _⟩ := this; simp only [maxLen] at h3; omega
  obtain ⟨A0, c0, hv, _⟩ := h0
  subst hv
  obtain ⟨A, n, c, hv⟩ : ∃ A n c, v1 = .slice A n c := by obtain ⟨us, _, ⟨A, c, e, _⟩, _⟩ := h1; exact ⟨A, _, c, e⟩
  subst hv
  obtain rfl := h1.len_
  have hml1 : l1.length ≤ 9223372036854775807 := by obtain ⟨us, e, h2, _⟩ := h1; have := h2.len_; simp only [maxLen] at this; omega
  have H1 := Lib.hid h1
  clear h1
  have H2 := Lib.hid h2
  clear h2
  have NQ : Hid (∀ s : ByteArray, (s.toList == [115, 117, 114, 101]) = decide (s = ⟨#[115, 117, 114, 101]⟩)) := fun s => by rw [Bool.eq_iff_iff, beq_iff_eq, decide_eq_true_eq]; exact ⟨fun h => str_inj (h.trans (by decide +kernel)), fun h => by rw [h]; decide +kernel⟩
  go_enter Try.func3, Try.ntmps3
  have HB1 := Lib.hid (Below.refl w.heap.size w)
  obtain ⟨g, hg⟩ : ∃ g, Sf.great l1 = g := ⟨_, rfl⟩
  have HG2 := Lib.hid hg
  have C3 := Lib.hid (great_any (.slice A l1.length c) w.heap.size l1 w (H1.out.below_ HB1.out (Nat.le_refl _)) HB1.out.size)
  rw [hg] at C3
  clear hg
  go_wp2_with fail
  refine C3.out.mono ?_
  rintro e5 w4 ⟨rfl, hb⟩
  have HB6 := Lib.hid (HB1.out.trans (hb.mono HB1.out.size))
  clear HB1 hb C3
  cases g with
  | true =>
    have C7 := Lib.hid (works_sf w4)
    go_wp2_with fail
    refine C7.out.mono ?_
    rintro e9 w8 ⟨rfl, hb⟩
    have HB10 := Lib.hid (HB6.out.trans (hb.mono HB6.out.size))
    clear hb C7 HB6
    go_wp2
    go_ret
    exact ⟨rfl, HB10.out⟩
  | false =>
    have hl1 : l1.length ≤ 120 := by have hg := HG2.out; unfold Sf.great at hg; simp at hg; omega
    clear HG2
    by_cases hbig : (10000 : Int) < (l0.length : Int)
    · skip
      have C11 := Lib.hid (works_sf w4)
      go_wp2_with fail
      refine C11.out.mono ?_
      rintro e13 w12 ⟨rfl, hb⟩
      have HB14 := Lib.hid (HB6.out.trans (hb.mono HB6.out.size))
      clear hb C11 HB6
      go_wp2
      go_ret
      exact ⟨rfl, HB14.out⟩
    · skip
      have hl0 : l0.length ≤ 1048576 := by omega
      have C15 := Lib.hid (pnew_any 1048576 (by unfold I64; omega) w4)
      go_wp2_with fail
      refine C15.out.mono ?_
      intro e17 w16 h
      rw [if_neg (by omega)] at h
      obtain ⟨b18, f19, rfl, hd, hf, hb⟩ := h
      have HF20 := Lib.hid (hf.mono HB6.out.size)
      have HB21 := Lib.hid (HB6.out.trans (hb.mono HB6.out.size))
      have HD22 := Lib.hid hd
      clear HB6 hd hf hb C15
      have EQ1 : Hid (Sf.create (Sf.new (1048576 : Int).toNat) ⟨#[115, 117, 114, 101]⟩ = (0, Sf.one1S ⟨#[115, 117, 114, 101]⟩)) := Sf.one1 (by decide +kernel)
      have C23 := Lib.hid (pcreate_any HD22.out (by unfold Sf.Few; simp [Sf.new]) ⟨#[115, 117, 114, 101]⟩ (by decide +kernel))
      rw [EQ1.out] at C23
      go_wp2_with fail
      refine C23.out.mono ?_
      rintro e25 w24 ⟨rfl, f26, hd, hn, ht⟩
      have HB27 := Lib.hid (HF20.out.below HB21.out HB21.out.size ht)
      have HF28 := Lib.hid (hn.from_ HF20.out HB21.out.size)
      have HD29 := Lib.hid hd
      clear HB21 HD22 HF20 hd hn ht C23 EQ1
      have EQ2 := Lib.hid (Sf.one2 ⟨#[115, 117, 114, 101]⟩ (b := l0) hl0)
      have C30 := Lib.hid (pappend_any HD29.out (by unfold Sf.Few; simp [Sf.one1S]) ⟨#[115, 117, 114, 101]⟩ (by decide +kernel) (.slice A0 l0.length c0) w.heap.size l0 (H0.out.below_ HB27.out (Nat.le_refl _)) HB27.out.size (HF28.out.not_arg H0.out))
      rw [EQ2.out] at C30
      go_wp2_with fail
      refine C30.out.mono ?_
      rintro e32 w31 ⟨rfl, f33, hd, hn, ht⟩
      have HB34 := Lib.hid (HF28.out.below HB27.out HB27.out.size ht)
      have HF35 := Lib.hid (hn.from_ HF28.out HB27.out.size)
      have HD36 := Lib.hid hd
      clear HB27 HD29 HF28 hd hn ht C30 EQ2
      have EQ3 := Lib.hid (Sf.one3 ⟨#[115, 117, 114, 101]⟩ l0)
      have C37 := Lib.hid (psync_any HD36.out (by unfold Sf.Few; simp [Sf.one2S]) ⟨#[115, 117, 114, 101]⟩ (by decide +kernel))
      rw [EQ3.out] at C37
      go_wp2_with fail
      refine C37.out.mono ?_
      rintro e39 w38 ⟨rfl, f40, hd, hn, ht⟩
      have HB41 := Lib.hid (HF35.out.below HB34.out HB34.out.size ht)
      have HF42 := Lib.hid (hn.from_ HF35.out HB34.out.size)
      have HD43 := Lib.hid hd
      clear HB34 HD36 HF35 hd hn ht C37 EQ3
      have EQ4 := Lib.hid (Sf.one4 ⟨#[115, 117, 114, 101]⟩ l0)
      have C44 := Lib.hid (psyncDir_any HD43.out (by unfold Sf.Few; simp [Sf.one3S]))
      rw [EQ4.out] at C44
      go_wp2_with fail
      refine C44.out.mono ?_
      rintro e46 w45 ⟨rfl, f47, hd, hn, ht⟩
      have HB48 := Lib.hid (HF42.out.below HB41.out HB41.out.size ht)
      have HF49 := Lib.hid (hn.from_ HF42.out HB41.out.size)
      have HD50 := Lib.hid hd
      clear HB41 HD43 HF42 hd hn ht C44 EQ4
      have HS0 := Lib.hid (Sf.sure_one ⟨#[115, 117, 114, 101]⟩ l0 4)
      go_wp2
      go_loopw [9] (fun i wr => ∃ (k : Nat) (fp : Fp) (t : Sf.St), k ≤ l1.length ∧ i = .int .i64 (k : Nat) ∧ Hid (PDisk wr fp t b18) ∧ Hid (fp.From w.heap.size) ∧ Hid (t.acts ≤ 4 + k) ∧ Hid (Sf.SureInv ⟨#[115, 117, 114, 101]⟩ l0 t) ∧ Below w.heap.size w wr) (fun i _ => l1.length - (intOf i).toNat)
      case atStart => exact ⟨0, f47, _, by omega, rfl, HD50.out, HF49.out, Nat.le_refl _, HS0.out, HB48.out⟩
      case round =>
        obtain ⟨k, fp, t, hk, rfl, HDr, HFr, HAr, HSr, hbr⟩ := hrel
        have HBr := Lib.hid hbr
        clear hbr HB48 HD50 HF49 HS0
        by_cases hlt : k < l1.length
        · have hki : (k : Int) < (l1.length : Int) := by omega
          have hk0 : (0 : Int) ≤ (k : Int) := by omega
          have wk : IntKind.i64.wrap ((k : Int) + 1) = (k : Int) + 1 := by rw [IntKind.wrap_i64]; omega
          obtain ⟨bo, off, x, o, rfl, hbo, hraw, hq, hdd, hrg⟩ := H1.out.at_ hlt
          change w.rangeAt bo (off + k * 5) [.int .u8 (x.call : Nat), .string x.name, .string x.to, .int .i64 x.at_, .slice x.A x.n x.c] at hrg
          have RGx : Hid (∀ w', Below w.heap.size w w' → w'.rangeAt bo (off + k * 5) [.int .u8 (x.call : Nat), .string x.name, .string x.to, .int .i64 x.at_, .slice x.A x.n x.c]) := fun w' hb' j u hj => (hb'.cell (p := ⟨bo, off + k * 5 + j, none⟩) (by show bo < _; omega)).trans (hrg j u hj)
          have DDx := Lib.hid hdd
          have RWx := Lib.hid hraw
          have HQx := Lib.hid hq
          have hcox : o.call = x.call := hdd.1
          clear hrg hq hdd hraw hbo
          have hc1 : wr.cell? ⟨bo, off + k * 5 + 1, none⟩ = some (.string x.name) := RGx.out wr HBr.out 1 _ rfl
          have hc2 : wr.cell? ⟨bo, off + k * 5 + 2, none⟩ = some (.string x.to) := RGx.out wr HBr.out 2 _ rfl
          have hno : Hid (o.name = x.name ∧ o.to = x.to) := ⟨DDx.out.2.1, DDx.out.2.2.1⟩
          by_cases hn1 : x.name = ⟨#[115, 117, 114, 101]⟩
          · have q1 : (x.name.toList == [115, 117, 114, 101]) = true := by rw [NQ.out]; simpa using hn1
            clear RGx DDx RWx HQx hno
            go_wp2
            go_roundw
            case rel => exact ⟨k + 1, fp, t, by omega, by go_num, HDr.out, HFr.out, by have := HAr.out; unfold Hid; omega, HSr.out, HBr.out⟩
            case measure => simp [intOf]; omega
          · have q1 : (x.name.toList == [115, 117, 114, 101]) = false := by rw [NQ.out]; simpa using hn1
            by_cases hn2 : x.to = ⟨#[115, 117, 114, 101]⟩
            · have q2 : (x.to.toList == [115, 117, 114, 101]) = true := by rw [NQ.out]; simpa using hn2
              clear RGx DDx RWx HQx hno
              go_wp2
              go_roundw
              case rel => exact ⟨k + 1, fp, t, by omega, by go_num, HDr.out, HFr.out, by have := HAr.out; unfold Hid; omega, HSr.out, HBr.out⟩
              case measure => simp [intOf]; omega
            · have q2 : (x.to.toList == [115, 117, 114, 101]) = false := by rw [NQ.out]; simpa using hn2
              have HFEW : Hid (Sf.Few t) := by have := HAr.out; unfold Hid Sf.Few; omega
              have HAL := Lib.hid (Sf.acts_le t o)
              have HSI := Lib.hid (HSr.out.deed o (by rw [hno.out.1]; exact hn1) (by rw [hno.out.2]; exact hn2))
              obtain ⟨r, hr⟩ : ∃ r, Sf.doOp t o = r := ⟨_, rfl⟩
              rw [hr] at HAL HSI
              have HR := Lib.hid hr
              clear hr hn1 hn2 hno
              have RGN := Lib.hid (RGx.out wr HBr.out)
              have C51 := Lib.hid (pdo_any HDr.out HFEW.out x o w.heap.size RWx.out (DDx.out.below_ HBr.out (Nat.le_refl _)) HBr.out.size (HFr.out.not_arg DDx.out.2.2.2.2))
              unfold deedC at C51
              rw [HR.out] at C51
              go_wp2_with (refine wpList_load_mid rfl _ _ rfl bo (off + k * 5) rfl [.int .u8 (x.call : Nat), .string x.name, .string x.to, .int .i64 x.at_, .slice x.A x.n x.c] _ RGN.out Try.underlying35 rfl (by kernel_rfl) ?_)
              refine C51.out.mono ?_
              rintro e53 w52 ⟨rfl, f54, hd, hn, ht⟩
              have HB55 := Lib.hid (HFr.out.below HBr.out HBr.out.size ht)
              have HF56 := Lib.hid (hn.from_ HFr.out HBr.out.size)
              have HD57 := Lib.hid hd
              clear HBr HDr HFr hd hn ht C51 RGN
              go_wp2
              go_roundw
              case rel => exact ⟨k + 1, f54, r.2, by omega, by go_num, HD57.out, HF56.out, by have := HAL.out; have := HAr.out; unfold Hid; omega, HSI.out, HB55.out⟩
              case measure => simp [intOf]; omega
        · have hki : ¬ (k : Int) < (l1.length : Int) := by omega
          have HLF := Lib.hid (HSr.out.left_ l2 hl0)
          have C58 := Lib.hid (pfail_any HDr.out v2 w.heap.size l2 (H2.out.below_ HBr.out (Nat.le_refl _)) HBr.out.size)
          go_wp2_with fail
          refine C58.out.mono ?_
          rintro e62 w61 ⟨b59, f60, rfl, hd, hf, hb⟩
          have HA63 := Lib.hid ((pdisk_law.lt HDr.out).apart hf)
          have HF64 := Lib.hid (hf.mono HBr.out.size)
          have HB65 := Lib.hid (HBr.out.trans (hb.mono HBr.out.size))
          have HD66 := Lib.hid (pdisk_law.below HDr.out hb)
          have HD67 := Lib.hid hd
          clear HBr HDr hd hf hb C58
          clear hki
          have C68 := Lib.hid (pread_any HD67.out ⟨#[115, 117, 114, 101]⟩ (by decide +kernel) 0 1048576 (by unfold I64; omega) (by unfold I64; omega))
          rw [HLF.out] at C68
          go_wp2_with fail
          refine C68.out.mono ?_
          rintro e70 w69 ⟨Ac, cc, rfl, ho, hb⟩
          have Vc := Lib.hid ho.form_
          have HB71 := Lib.hid (HB65.out.trans (hb.mono HB65.out.size))
          have HD72 := Lib.hid (pdisk_law.below HD66.out hb)
          have HD73 := Lib.hid (pdisk_law.below HD67.out hb)
          clear HB65 HD66 HD67 hb ho C68
          have CS := Lib.hid (octs_lv _ _ _ _ _ _ w69 (H0.out.below_ HB71.out (Nat.le_refl _)) Vc.out)
          simp only [decide_true] at CS
          go_wp2_with fail
          refine CS.out.mono ?_
          rintro e75 w74 ⟨rfl, hb⟩
          have HB76 := Lib.hid (HB71.out.trans (hb.mono HB71.out.size))
          have HD77 := Lib.hid (pdisk_law.below HD72.out hb)
          have HD78 := Lib.hid (pdisk_law.below HD73.out hb)
          clear HB71 HD72 HD73 hb CS Vc
          have C79 := Lib.hid (works_sf w74)
          go_wp2_with fail
          refine C79.out.mono ?_
          rintro e81 w80 ⟨rfl, hb⟩
          have HB82 := Lib.hid (HB76.out.trans (hb.mono HB76.out.size))
          clear hb C79 HB76
          go_wp2
          go_ret
          exact ⟨rfl, HB82.out⟩
/-! ### From the walk to the row -/
set_option maxRecDepth 100000 in
theorem lifted (os : Os) (started : os.Started) (H : Type) (enc : TypeId × Value → H) :
    ReturnsInHanded {} Try.checked os 3 .any (Rows.simfsSureSpec.pre6 enc Try.prog Try.f3 Rows.simfsSureRow.domain false) (Rows.simfsSureSpec.post enc Try.prog Try.f3 false true false false) := by
  refine returnsInHanded_of_change (C := Try.checked) own started (by kernel_rfl) Try.func3
    (ChangeSpec.witness6 (enc := enc) (C := Try.checked) false ⟨#[], #[.slice none 0 0, .slice none 0 0, .slice none 0 0], []⟩ 8 (by kernel_rfl) (by kernel_rfl) (by kernel_rfl) (by kernel_rfl)) ?_
  intro W base args ds gs before hval0 hW hcnd _
  have hval : ∀ (j : Nat) t v, Try.f3.params[j]? = some t → args[j]? = some v → Value.okWide Try.prog W .any base t v := hval0
  have hW' := hW
  obtain ⟨p, q, hA0, hV, rfl, hfz, hnd⟩ := hW
  have hA : DataW.TrodAll enc Try.prog W 0 (fun _ => true) true Try.f3.params.toList args.toList ds p := hA0
  rw [Try.params3] at hA hval
  obtain ⟨v0, vs0, d0, ds0, p0, q0, hargs, rfl, rfl, h0, r0⟩ := trodAll_cons hA
  obtain ⟨v1, vs1, d1, ds1, p1, q1, rfl, rfl, rfl, h1, r1⟩ := trodAll_cons r0
  obtain ⟨v2, vs2, d2, ds2, p2, q2, rfl, rfl, rfl, h2, r2⟩ := trodAll_cons r1
  obtain ⟨rfl, rfl, rfl⟩ := trodAll_nil r2
  obtain rfl : args = #[v0, v1, v2] := by cases args; simp_all
  obtain ⟨rfl, rfl⟩ := trodVars_none hV
  obtain ⟨a0, len0, cap0, rfl⟩ := okWide_slice Try.underlying22 (hval 0 22 v0 rfl rfl)
  have k0 := h0
  have lt0 : ∀ x ∈ p0, x.block < W.heap.size := by obtain ⟨m, hm⟩ := k0; exact DataW.trod_lt m _ _ _ hm
  obtain ⟨l0, len_0, hb0⟩ : ∃ l : List Nat, l.length = len0 ∧ Lv yK W W.heap.size (.slice a0 len0 cap0) l := by
    obtain ⟨fuel, hf⟩ := h0
    exact octs_in hf
  obtain ⟨a1, len1, cap1, rfl⟩ := okWide_slice Try.underlying23 (hval 1 23 v1 rfl rfl)
  have k1 := h1
  have lt1 : ∀ x ∈ p1, x.block < W.heap.size := by obtain ⟨m, hm⟩ := k1; exact DataW.trod_lt m _ _ _ hm
  obtain ⟨l1, len_1, hb1⟩ : ∃ l : List Sf.Op, l.length = len1 ∧ Dv W W.heap.size (.slice a1 len1 cap1) l := by
    obtain ⟨fuel, hf⟩ := h1
    exact deeds_in hf
  obtain ⟨a2, len2, cap2, rfl⟩ := okWide_slice Try.underlying24 (hval 2 24 v2 rfl rfl)
  have k2 := h2
  have lt2 : ∀ x ∈ p2, x.block < W.heap.size := by obtain ⟨m, hm⟩ := k2; exact DataW.trod_lt m _ _ _ hm
  obtain ⟨l2, len_2, hb2⟩ : ∃ l : List Int, l.length = len2 ∧ Lv iK W W.heap.size (.slice a2 len2 cap2) l := by
    obtain ⟨fuel, hf⟩ := h2
    rcases open_ints Try.underlying24 Try.underlying3 (by kernel_rfl) hf with ⟨hcs, _⟩ | ⟨x, l, c, zs, hcs, _, hl, hm, hz, _, hcell, hwz⟩
    · simp [Value.cells] at hcs
      obtain ⟨rfl, rfl, rfl⟩ := hcs
      exact ints_in (.inl ⟨rfl, rfl, rfl⟩)
    · simp [Value.cells] at hcs
      obtain ⟨rfl, rfl, rfl⟩ := hcs
      exact ints_in (.inr ⟨x, zs, rfl, hl, hm, by simpa using hz, hcell, hwz⟩)
  clear hA0 hval0
  refine (walk W (.slice a0 len0 cap0) l0 hb0 (.slice a1 len1 cap1) l1 hb1 (.slice a2 len2 cap2) l2 hb2).mono fun e W' ⟨he, bel⟩ => ?_
  subst he
  exact ⟨_, rfl, _, _, _, [], _, [], hW', trodAll_mk1 (shut_bool Try.underlying4 _), (trodAll_cons_mk (Below.trod laidOut (by kernel_rfl) (of_decide_eq_true (by kernel_rfl)) k0 bel lt0) (trodAll_cons_mk (Below.trod laidOut (by kernel_rfl) (of_decide_eq_true (by kernel_rfl)) k1 bel lt1) (trodAll_cons_mk (Below.trod laidOut (by kernel_rfl) (of_decide_eq_true (by kernel_rfl)) k2 bel lt2) trodAll_mk0))), rfl, bel.frame _, fun h => by cases h⟩

theorem proved : Rows.SimfsSureSaid :=
  OpenClaim.holds_of_wide 3 Try.f3 rfl rfl rfl rfl rfl rfl rfl ⟨rfl, rfl, rfl, rfl, rfl⟩ rfl rfl rfl rfl rfl (by kernel_rfl) Try.func3 (by kernel_rfl)
    (of_decide_eq_true (by kernel_rfl)) (by unfold Func.isWrapper; first | (rw [if_pos (by decide +kernel)]; kernel_rfl) | (rw [if_neg (by decide +kernel)]; exact ⟨rfl, rfl⟩))
    (fun os started H enc _ => lifted os started H enc)

end Go.Proofs.Ytmcbjcbnckpfkaa.simfsSure
