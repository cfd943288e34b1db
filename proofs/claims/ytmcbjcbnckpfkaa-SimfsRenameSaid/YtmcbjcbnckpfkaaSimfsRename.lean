/-
  SimfsRename: where a file that is sure is renamed over another one that is, there is, behind whatever failure, the one or the other, whole. No condition.
-/
import Derived.Test.YtmcbjcbnckpfkaaPk24
import Derived.Test.YtmcbjcbnckpfkaaPk23
import Derived.Test.YtmcbjcbnckpfkaaPk11
import Derived.Test.YtmcbjcbnckpfkaaPk25
import Derived.Test.YtmcbjcbnckpfkaaPk03
import Derived.Test.YtmcbjcbnckpfkaaPk30
import Derived.Deep.WholeRow
namespace Go.Proofs.Ytmcbjcbnckpfkaa.simfsRename
open Go.ChangeShapes Go.WideShapes Go.ChangeAt Go.RowKit
open Go.ChangeMaps (open_string shut_string)
set_option linter.unusedVariables false

set_option maxHeartbeats 4000000 in
set_option maxRecDepth 100000 in
theorem walk (w : World) (v0 : Value) (l0 : List Nat) (h0 : Lv yK w w.heap.size v0 l0) (v1 : Value) (l1 : List Nat) (h1 : Lv yK w w.heap.size v1 l1) (v2 : Value) (l2 : List Int) (h2 : Lv iK w w.heap.size v2 l2) (s : Bool) (r0 : l0.length * 1 ≤ 140737488351232) (r1 : l1.length * 1 ≤ 140737488351232) (r2 : l2.length * 8 ≤ 140737488351232) :
    Calls Try.prog 7 #[v0, v1, v2, .bool s] w (IsBool true w) := by
  have H0 := Lib.hid h0
  have hml0 : l0.length ≤ 9223372036854775807 := by have := h0; obtain ⟨_, _, _, h2, h3, _⟩ := this; simp only [maxLen] at h3; omega
  obtain ⟨A0, c0, hv, _⟩ := h0
  subst hv
  have H1 := Lib.hid h1
  have hml1 : l1.length ≤ 9223372036854775807 := by have := h1; obtain ⟨_, _, _, h2, h3, _⟩ := this; simp only [maxLen] at h3; omega
  obtain ⟨A1, c1, hv, _⟩ := h1
  subst hv
  have H2 := Lib.hid h2
  clear h2
  have wsum : IntKind.i64.wrap ((l0.length : Int) + (l1.length : Int)) = (l0.length : Int) + (l1.length : Int) := by rw [IntKind.wrap_i64]; omega
  by_cases hbig : (10000 : Int) < (l0.length : Int) + (l1.length : Int)
  · go_enter Try.func7, Try.ntmps7
    have HB1 := Lib.hid (Below.refl w.heap.size w)
    have C2 := Lib.hid (works_sf w)
    go_wp2_with fail
    refine C2.out.mono ?_
    rintro e4 w3 ⟨rfl, hb⟩
    have HB5 := Lib.hid (HB1.out.trans (hb.mono HB1.out.size))
    clear hb C2 HB1
    go_wp2
    go_ret
    exact ⟨rfl, HB5.out⟩
  · go_enter Try.func7, Try.ntmps7
    have HB6 := Lib.hid (Below.refl w.heap.size w)
    have hl0 : l0.length ≤ 1048576 := by omega
    have HLL : Hid (l0.length + l1.length ≤ 1048576) := by unfold Hid; omega
    have C7 := Lib.hid (pnew_any 1048576 (by unfold I64; omega) w)
    go_wp2_with fail
    refine C7.out.mono ?_
    intro e9 w8 h
    rw [if_neg (by omega)] at h
    obtain ⟨b10, f11, rfl, hd, hf, hb⟩ := h
    have HF12 := Lib.hid (hf.mono HB6.out.size)
    have HB13 := Lib.hid (HB6.out.trans (hb.mono HB6.out.size))
    have HD14 := Lib.hid hd
    clear HB6 hd hf hb C7
    have EQ1 : Hid (Sf.create (Sf.new (1048576 : Int).toNat) ⟨#[97]⟩ = (0, Sf.one1S ⟨#[97]⟩)) := Sf.one1 (by decide +kernel)
    have C15 := Lib.hid (pcreate_any HD14.out (by unfold Sf.Few; simp [Sf.new]) ⟨#[97]⟩ (by decide +kernel))
    rw [EQ1.out] at C15
    go_wp2_with fail
    refine C15.out.mono ?_
    rintro e17 w16 ⟨rfl, f18, hd, hn, ht⟩
    have HB19 := Lib.hid (HF12.out.below HB13.out HB13.out.size ht)
    have HF20 := Lib.hid (hn.from_ HF12.out HB13.out.size)
    have HD21 := Lib.hid hd
    clear HB13 HD14 HF12 hd hn ht C15 EQ1
    have EQ := Lib.hid (Sf.one2 ⟨#[97]⟩ hl0)
    have C22 := Lib.hid (pappend_any HD21.out (by unfold Sf.Few; simp [Sf.one1S]) ⟨#[97]⟩ (by decide +kernel) _ w.heap.size l0 (H0.out.below_ HB19.out (Nat.le_refl _)) HB19.out.size (HF20.out.not_arg H0.out))
    rw [EQ.out] at C22
    go_wp2_with fail
    refine C22.out.mono ?_
    rintro e24 w23 ⟨rfl, f25, hd, hn, ht⟩
    have HB26 := Lib.hid (HF20.out.below HB19.out HB19.out.size ht)
    have HF27 := Lib.hid (hn.from_ HF20.out HB19.out.size)
    have HD28 := Lib.hid hd
    clear HB19 HD21 HF20 hd hn ht C22 EQ
    have EQ := Lib.hid (Sf.one3 ⟨#[97]⟩ l0)
    have C29 := Lib.hid (psync_any HD28.out (by unfold Sf.Few; simp [Sf.one2S]) ⟨#[97]⟩ (by decide +kernel))
    rw [EQ.out] at C29
    go_wp2_with fail
    refine C29.out.mono ?_
    rintro e31 w30 ⟨rfl, f32, hd, hn, ht⟩
    have HB33 := Lib.hid (HF27.out.below HB26.out HB26.out.size ht)
    have HF34 := Lib.hid (hn.from_ HF27.out HB26.out.size)
    have HD35 := Lib.hid hd
    clear HB26 HD28 HF27 hd hn ht C29 EQ
    have EQ := Lib.hid (Sf.rn4 l0)
    have C36 := Lib.hid (pcreate_any HD35.out (by unfold Sf.Few; simp [Sf.one3S]) ⟨#[110]⟩ (by decide +kernel))
    rw [EQ.out] at C36
    go_wp2_with fail
    refine C36.out.mono ?_
    rintro e38 w37 ⟨rfl, f39, hd, hn, ht⟩
    have HB40 := Lib.hid (HF34.out.below HB33.out HB33.out.size ht)
    have HF41 := Lib.hid (hn.from_ HF34.out HB33.out.size)
    have HD42 := Lib.hid hd
    clear HB33 HD35 HF34 hd hn ht C36 EQ
    have EQ := Lib.hid (Sf.rn5 HLL.out)
    have C43 := Lib.hid (pappend_any HD42.out (by unfold Sf.Few; simp [Sf.rn4S]) ⟨#[110]⟩ (by decide +kernel) _ w.heap.size l1 (H1.out.below_ HB40.out (Nat.le_refl _)) HB40.out.size (HF41.out.not_arg H1.out))
    rw [EQ.out] at C43
    go_wp2_with fail
    refine C43.out.mono ?_
    rintro e45 w44 ⟨rfl, f46, hd, hn, ht⟩
    have HB47 := Lib.hid (HF41.out.below HB40.out HB40.out.size ht)
    have HF48 := Lib.hid (hn.from_ HF41.out HB40.out.size)
    have HD49 := Lib.hid hd
    clear HB40 HD42 HF41 hd hn ht C43 EQ
    have EQ := Lib.hid (Sf.rn6 l0 l1)
    have C50 := Lib.hid (psync_any HD49.out (by unfold Sf.Few; simp [Sf.rn5S]) ⟨#[110]⟩ (by decide +kernel))
    rw [EQ.out] at C50
    go_wp2_with fail
    refine C50.out.mono ?_
    rintro e52 w51 ⟨rfl, f53, hd, hn, ht⟩
    have HB54 := Lib.hid (HF48.out.below HB47.out HB47.out.size ht)
    have HF55 := Lib.hid (hn.from_ HF48.out HB47.out.size)
    have HD56 := Lib.hid hd
    clear HB47 HD49 HF48 hd hn ht C50 EQ
    have EQ := Lib.hid (Sf.rn7 l0 l1)
    have C57 := Lib.hid (psyncDir_any HD56.out (by unfold Sf.Few; simp [Sf.rn6S]))
    rw [EQ.out] at C57
    go_wp2_with fail
    refine C57.out.mono ?_
    rintro e59 w58 ⟨rfl, f60, hd, hn, ht⟩
    have HB61 := Lib.hid (HF55.out.below HB54.out HB54.out.size ht)
    have HF62 := Lib.hid (hn.from_ HF55.out HB54.out.size)
    have HD63 := Lib.hid hd
    clear HB54 HD56 HF55 hd hn ht C57 EQ
    have EQ := Lib.hid (Sf.rn8 l0 l1)
    have C64 := Lib.hid (prename_any HD63.out (by unfold Sf.Few; simp [Sf.rn7S]) ⟨#[110]⟩ ⟨#[97]⟩ (by decide +kernel) (by decide +kernel))
    rw [EQ.out] at C64
    go_wp2_with fail
    refine C64.out.mono ?_
    rintro e66 w65 ⟨rfl, f67, hd, hn, ht⟩
    have HB68 := Lib.hid (HF62.out.below HB61.out HB61.out.size ht)
    have HF69 := Lib.hid (hn.from_ HF62.out HB61.out.size)
    have HD70 := Lib.hid hd
    clear HB61 HD63 HF62 hd hn ht C64 EQ
    cases s with
    | true =>
      have EQ := Lib.hid (Sf.rn9 l0 l1)
      have C71 := Lib.hid (psyncDir_any HD70.out (by unfold Sf.Few; simp [Sf.rn8S]))
      rw [EQ.out] at C71
      go_wp2_with fail
      refine C71.out.mono ?_
      rintro e73 w72 ⟨rfl, f74, hd, hn, ht⟩
      have HB75 := Lib.hid (HF69.out.below HB68.out HB68.out.size ht)
      have HF76 := Lib.hid (hn.from_ HF69.out HB68.out.size)
      have HD77 := Lib.hid hd
      clear HB68 HD70 HF69 hd hn ht C71 EQ
      have HLF := Lib.hid (Sf.rn_left9 HLL.out l2)
      have C78 := Lib.hid (pfail_any HD77.out v2 w.heap.size l2 (H2.out.below_ HB75.out (Nat.le_refl _)) HB75.out.size)
      go_wp2_with fail
      refine C78.out.mono ?_
      rintro e82 w81 ⟨b79, f80, rfl, hd, hf, hb⟩
      have HA83 := Lib.hid ((pdisk_law.lt HD77.out).apart hf)
      have HF84 := Lib.hid (hf.mono HB75.out.size)
      have HB85 := Lib.hid (HB75.out.trans (hb.mono HB75.out.size))
      have HD86 := Lib.hid (pdisk_law.below HD77.out hb)
      have HD87 := Lib.hid hd
      clear HB75 HD77 hd hf hb C78
      have C88 := Lib.hid (pread_any HD87.out ⟨#[97]⟩ (by decide +kernel) 0 1048576 (by unfold I64; omega) (by unfold I64; omega))
      rw [HLF.out] at C88
      go_wp2_with fail
      refine C88.out.mono ?_
      rintro e90 w89 ⟨Ac, cc, rfl, ho, hb⟩
      have Vc := Lib.hid ho.form_
      have HB91 := Lib.hid (HB85.out.trans (hb.mono HB85.out.size))
      have HD92 := Lib.hid (pdisk_law.below HD86.out hb)
      have HD93 := Lib.hid (pdisk_law.below HD87.out hb)
      clear HB85 HD86 HD87 hb ho C88
      have CS := Lib.hid (octs_lv _ _ _ _ _ _ w89 Vc.out (H1.out.below_ HB91.out (Nat.le_refl _)))
      simp only [decide_true] at CS
      go_wp2_with fail
      refine CS.out.mono ?_
      rintro e95 w94 ⟨rfl, hb⟩
      have HB96 := Lib.hid (HB91.out.trans (hb.mono HB91.out.size))
      have HD97 := Lib.hid (pdisk_law.below HD92.out hb)
      have HD98 := Lib.hid (pdisk_law.below HD93.out hb)
      clear HB91 HD92 HD93 hb CS Vc
      have C99 := Lib.hid (works_sf w94)
      go_wp2_with fail
      refine C99.out.mono ?_
      rintro e101 w100 ⟨rfl, hb⟩
      have HB102 := Lib.hid (HB96.out.trans (hb.mono HB96.out.size))
      clear hb C99 HB96
      go_wp2
      go_ret
      exact ⟨rfl, HB102.out⟩
    | false =>
      have HLF := Lib.hid (Sf.rn_left8 HLL.out l2)
      have C103 := Lib.hid (pfail_any HD70.out v2 w.heap.size l2 (H2.out.below_ HB68.out (Nat.le_refl _)) HB68.out.size)
      go_wp2_with fail
      refine C103.out.mono ?_
      rintro e107 w106 ⟨b104, f105, rfl, hd, hf, hb⟩
      have HA108 := Lib.hid ((pdisk_law.lt HD70.out).apart hf)
      have HF109 := Lib.hid (hf.mono HB68.out.size)
      have HB110 := Lib.hid (HB68.out.trans (hb.mono HB68.out.size))
      have HD111 := Lib.hid (pdisk_law.below HD70.out hb)
      have HD112 := Lib.hid hd
      clear HB68 HD70 hd hf hb C103
      obtain ⟨D, HLD, hD⟩ : ∃ D : List Nat, Hid (Sf.read (Sf.fail (Sf.rn8S l0 l1) l2) ⟨#[97]⟩ 0 1048576 = (D, 0)) ∧ (D = l0 ∨ D = l1) := HLF.out.elim (fun h => ⟨_, h, .inl rfl⟩) (fun h => ⟨_, h, .inr rfl⟩)
      have HDD := Lib.hid hD
      clear hD HLF
      have C113 := Lib.hid (pread_any HD112.out ⟨#[97]⟩ (by decide +kernel) 0 1048576 (by unfold I64; omega) (by unfold I64; omega))
      rw [HLD.out] at C113
      go_wp2_with fail
      refine C113.out.mono ?_
      rintro e115 w114 ⟨Ac, cc, rfl, ho, hb⟩
      have Vc := Lib.hid ho.form_
      have HB116 := Lib.hid (HB110.out.trans (hb.mono HB110.out.size))
      have HD117 := Lib.hid (pdisk_law.below HD111.out hb)
      have HD118 := Lib.hid (pdisk_law.below HD112.out hb)
      clear HB110 HD111 HD112 hb ho C113
      by_cases hc : D = l1
      · have HT : Hid (decide (D = l1) = true) := by unfold Hid; simp [hc]
        clear hc
        have CS := Lib.hid (octs_lv _ _ _ _ _ _ w114 Vc.out (H1.out.below_ HB116.out (Nat.le_refl _)))
        rw [HT.out] at CS
        go_wp2_with fail
        refine CS.out.mono ?_
        rintro e120 w119 ⟨rfl, hb⟩
        have HB121 := Lib.hid (HB116.out.trans (hb.mono HB116.out.size))
        have HD122 := Lib.hid (pdisk_law.below HD117.out hb)
        have HD123 := Lib.hid (pdisk_law.below HD118.out hb)
        clear HB116 HD117 HD118 hb CS Vc
        have C124 := Lib.hid (works_sf w119)
        go_wp2_with fail
        refine C124.out.mono ?_
        rintro e126 w125 ⟨rfl, hb⟩
        have HB127 := Lib.hid (HB121.out.trans (hb.mono HB121.out.size))
        clear hb C124 HB121
        go_wp2
        go_ret
        exact ⟨rfl, HB127.out⟩
      · have HT : Hid (decide (D = l1) = false) := by unfold Hid; simp [hc]
        have HT2 : Hid (decide (D = l0) = true) := decide_eq_true (HDD.out.resolve_right hc)
        clear hc
        have CS := Lib.hid (octs_lv _ _ _ _ _ _ w114 Vc.out (H1.out.below_ HB116.out (Nat.le_refl _)))
        rw [HT.out] at CS
        go_wp2_with fail
        refine CS.out.mono ?_
        rintro e70 w70 ⟨rfl, hb⟩
        have Vd := Lib.hid ((Vc.out.below_ hb (Nat.le_refl _)).mono_ hb.size)
        have HB128 := Lib.hid (HB116.out.trans (hb.mono HB116.out.size))
        have HD129 := Lib.hid (pdisk_law.below HD117.out hb)
        have HD130 := Lib.hid (pdisk_law.below HD118.out hb)
        clear HB116 HD117 HD118 hb CS Vc
        have CS := Lib.hid (octs_lv _ _ _ _ _ _ w70 Vd.out (H0.out.below_ HB128.out (Nat.le_refl _)))
        rw [HT2.out] at CS
        go_wp2_with fail
        refine CS.out.mono ?_
        rintro e132 w131 ⟨rfl, hb⟩
        have HB133 := Lib.hid (HB128.out.trans (hb.mono HB128.out.size))
        have HD134 := Lib.hid (pdisk_law.below HD129.out hb)
        have HD135 := Lib.hid (pdisk_law.below HD130.out hb)
        clear HB128 HD129 HD130 hb CS Vd
        have C136 := Lib.hid (works_sf w131)
        go_wp2_with fail
        refine C136.out.mono ?_
        rintro e138 w137 ⟨rfl, hb⟩
        have HB139 := Lib.hid (HB133.out.trans (hb.mono HB133.out.size))
        clear hb C136 HB133
        go_wp2
        go_ret
        exact ⟨rfl, HB139.out⟩
/-! ### From the walk to the row -/
set_option maxRecDepth 100000 in
theorem lifted (os : Os) (started : os.Started) (H : Type) (enc : TypeId × Value → H) :
    ReturnsInHanded {} Try.checked os 7 .any (Rows.simfsRenameSpec.pre6 enc Try.prog Try.f7 Rows.simfsRenameRow.domain false) (Rows.simfsRenameSpec.post enc Try.prog Try.f7 false true false false) := by
  refine returnsInHanded_of_change_sized (C := Try.checked) own started (by kernel_rfl) Try.func7
    (ChangeSpec.witness6 (enc := enc) (C := Try.checked) false ⟨#[], #[.slice none 0 0, .slice none 0 0, .slice none 0 0, .bool false], []⟩ 8 (by kernel_rfl) (by kernel_rfl) (by kernel_rfl) (by kernel_rfl)) ?_
  intro W base args ds gs before hval0 hW hcnd hreach _
  have hval : ∀ (j : Nat) t v, Try.f7.params[j]? = some t → args[j]? = some v → Value.okWide Try.prog W .any base t v := hval0
  have hW' := hW
  obtain ⟨p, q, hA0, hV, rfl, hfz, hnd⟩ := hW
  have hA : DataW.TrodAll enc Try.prog W 0 (fun _ => true) true Try.f7.params.toList args.toList ds p := hA0
  rw [Try.params7] at hA hval
  obtain ⟨v0, vs0, d0, ds0, p0, q0, hargs, rfl, rfl, h0, r0⟩ := trodAll_cons hA
  obtain ⟨v1, vs1, d1, ds1, p1, q1, rfl, rfl, rfl, h1, r1⟩ := trodAll_cons r0
  obtain ⟨v2, vs2, d2, ds2, p2, q2, rfl, rfl, rfl, h2, r2⟩ := trodAll_cons r1
  obtain ⟨v3, vs3, d3, ds3, p3, q3, rfl, rfl, rfl, h3, r3⟩ := trodAll_cons r2
  obtain ⟨rfl, rfl, rfl⟩ := trodAll_nil r3
  obtain rfl : args = #[v0, v1, v2, v3] := by cases args; simp_all
  obtain ⟨rfl, rfl⟩ := trodVars_none hV
  obtain ⟨a0, len0, cap0, rfl⟩ := okWide_slice Try.underlying22 (hval 0 22 v0 rfl rfl)
  have k0 := h0
  have lt0 : ∀ x ∈ p0, x.block < W.heap.size := by obtain ⟨m, hm⟩ := k0; exact DataW.trod_lt m _ _ _ hm
  obtain ⟨l0, len_0, hb0⟩ : ∃ l : List Nat, l.length = len0 ∧ Lv yK W W.heap.size (.slice a0 len0 cap0) l := by
    obtain ⟨fuel, hf⟩ := h0
    exact octs_in hf
  obtain ⟨a1, len1, cap1, rfl⟩ := okWide_slice Try.underlying22 (hval 1 22 v1 rfl rfl)
  have k1 := h1
  have lt1 : ∀ x ∈ p1, x.block < W.heap.size := by obtain ⟨m, hm⟩ := k1; exact DataW.trod_lt m _ _ _ hm
  obtain ⟨l1, len_1, hb1⟩ : ∃ l : List Nat, l.length = len1 ∧ Lv yK W W.heap.size (.slice a1 len1 cap1) l := by
    obtain ⟨fuel, hf⟩ := h1
    exact octs_in hf
  obtain ⟨a2, len2, cap2, rfl⟩ := okWide_slice Try.underlying24 (hval 2 24 v2 rfl rfl)
  have k2 := h2
  have lt2 : ∀ x ∈ p2, x.block < W.heap.size := by obtain ⟨m, hm⟩ := k2; exact DataW.trod_lt m _ _ _ hm
  obtain ⟨l2, len_2, hb2⟩ : ∃ l : List Int, l.length = len2 ∧ Lv iK W W.heap.size (.slice a2 len2 cap2) l := by
    obtain ⟨fuel, hf⟩ := h2
    rcases open_ints Try.underlying24 Try.underlying3 (by kernel_rfl) hf with ⟨hcs, _⟩ | ⟨x, l, c, zs, hcs, _, hl, hm, hz, _, hcell, hwz⟩
    · simp [Value.cells] at hcs
      obtain ⟨rfl, rfl, rfl⟩ := hcs
      exact ints_in (.inl ⟨rfl, rfl, rfl⟩)
    · simp [Value.cells] at hcs
      obtain ⟨rfl, rfl, rfl⟩ := hcs
      exact ints_in (.inr ⟨x, zs, rfl, hl, hm, by simpa using hz, hcell, hwz⟩)
  obtain ⟨a3, rfl, rfl, rfl⟩ := open_bool Try.underlying4 (hval 3 4 v3 rfl rfl) h3
  have reach0 : len0 * 1 ≤ 140737488351232 := by
    obtain ⟨fuel, hf⟩ := k0
    rcases open_ints Try.underlying22 Try.underlying5 (by kernel_rfl) hf with ⟨hcs, _⟩ | ⟨x, l, c, zs, hcs, _, hl, hm, hz, hx, hcell, hwz⟩
    · simp [Value.cells] at hcs
      omega
    · simp [Value.cells] at hcs
      obtain ⟨rfl, rfl, rfl⟩ := hcs
      rw [Prod.mk.injEq] at hx
      have hs := sized_slice hreach (j := 0) (t := 22) (e := 5) (elems := lits .u8 (zs.take len0)) (spare := lits .u8 (zs.drop len0)) rfl (by rw [hx.1]; rfl) Try.underlying22
      have hb : Try.prog.bytesOf 5 = 1 := by kernel_rfl
      change _ * Try.prog.bytesOf 5 ≤ _ at hs
      rw [hb] at hs
      simp [lits, reachBytes] at hs hz
      omega
  have reach1 : len1 * 1 ≤ 140737488351232 := by
    obtain ⟨fuel, hf⟩ := k1
    rcases open_ints Try.underlying22 Try.underlying5 (by kernel_rfl) hf with ⟨hcs, _⟩ | ⟨x, l, c, zs, hcs, _, hl, hm, hz, hx, hcell, hwz⟩
    · simp [Value.cells] at hcs
      omega
    · simp [Value.cells] at hcs
      obtain ⟨rfl, rfl, rfl⟩ := hcs
      rw [Prod.mk.injEq] at hx
      have hs := sized_slice hreach (j := 1) (t := 22) (e := 5) (elems := lits .u8 (zs.take len1)) (spare := lits .u8 (zs.drop len1)) rfl (by rw [hx.1]; rfl) Try.underlying22
      have hb : Try.prog.bytesOf 5 = 1 := by kernel_rfl
      change _ * Try.prog.bytesOf 5 ≤ _ at hs
      rw [hb] at hs
      simp [lits, reachBytes] at hs hz
      omega
  have reach2 : len2 * 8 ≤ 140737488351232 := by
    obtain ⟨fuel, hf⟩ := k2
    rcases open_ints Try.underlying24 Try.underlying3 (by kernel_rfl) hf with ⟨hcs, _⟩ | ⟨x, l, c, zs, hcs, _, hl, hm, hz, hx, hcell, hwz⟩
    · simp [Value.cells] at hcs
      omega
    · simp [Value.cells] at hcs
      obtain ⟨rfl, rfl, rfl⟩ := hcs
      rw [Prod.mk.injEq] at hx
      have hs := sized_slice hreach (j := 2) (t := 24) (e := 3) (elems := lits .i64 (zs.take len2)) (spare := lits .i64 (zs.drop len2)) rfl (by rw [hx.1]; rfl) Try.underlying24
      have hb : Try.prog.bytesOf 3 = 8 := by kernel_rfl
      change _ * Try.prog.bytesOf 3 ≤ _ at hs
      rw [hb] at hs
      simp [lits, reachBytes] at hs hz
      omega
  clear hA0 hval0
  refine (walk W (.slice a0 len0 cap0) l0 hb0 (.slice a1 len1 cap1) l1 hb1 (.slice a2 len2 cap2) l2 hb2 a3 (by rw [len_0]; exact reach0) (by rw [len_1]; exact reach1) (by rw [len_2]; exact reach2)).mono fun e W' ⟨he, bel⟩ => ?_
  subst he
  exact ⟨_, rfl, _, _, _, [], _, [], hW', trodAll_mk1 (shut_bool Try.underlying4 _), (trodAll_cons_mk (Below.trod laidOut (by kernel_rfl) (of_decide_eq_true (by kernel_rfl)) k0 bel lt0) (trodAll_cons_mk (Below.trod laidOut (by kernel_rfl) (of_decide_eq_true (by kernel_rfl)) k1 bel lt1) (trodAll_cons_mk (Below.trod laidOut (by kernel_rfl) (of_decide_eq_true (by kernel_rfl)) k2 bel lt2) (trodAll_cons_mk (shut_bool Try.underlying4 a3) trodAll_mk0)))), rfl, bel.frame _, fun h => by cases h⟩

theorem proved : Rows.SimfsRenameSaid :=
  OpenClaim.holds_of_wide 7 Try.f7 rfl rfl rfl rfl rfl rfl rfl ⟨rfl, rfl, rfl, rfl, rfl⟩ rfl rfl rfl rfl rfl (by kernel_rfl) Try.func7 (by kernel_rfl)
    (of_decide_eq_true (by kernel_rfl)) (by unfold Func.isWrapper; first | (rw [if_pos (by decide +kernel)]; kernel_rfl) | (rw [if_neg (by decide +kernel)]; exact ⟨rfl, rfl⟩))
    (fun os started H enc _ => lifted os started H enc)

end Go.Proofs.Ytmcbjcbnckpfkaa.simfsRename
