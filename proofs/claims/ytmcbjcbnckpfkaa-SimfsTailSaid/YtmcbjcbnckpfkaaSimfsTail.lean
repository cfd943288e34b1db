/-
  SimfsTail: of a file that was synced, and to which pieces were put behind, there is, behind whatever failure, a beginning that has all that was synced. No condition.
-/
import Derived.Test.YtmcbjcbnckpfkaaPk24
import Derived.Test.YtmcbjcbnckpfkaaPk25
import Derived.Test.YtmcbjcbnckpfkaaPk23
import Derived.Test.YtmcbjcbnckpfkaaPk11
import Derived.Test.YtmcbjcbnckpfkaaPk03
import Derived.Test.YtmcbjcbnckpfkaaPk30
import Derived.Test.YtmcbjcbnckpfkaaPk31
import Derived.Test.YtmcbjcbnckpfkaaPk33
import Derived.Test.YtmcbjcbnckpfkaaPk27
import Derived.Deep.WholeRow
namespace Go.Proofs.Ytmcbjcbnckpfkaa.simfsTail
open Go.ChangeShapes Go.WideShapes Go.ChangeAt Go.RowKit
open Go.ChangeMaps (open_string shut_string)
set_option linter.unusedVariables false

set_option maxHeartbeats 4000000 in
set_option maxRecDepth 100000 in
theorem walk (w : World) (v0 : Value) (l0 : List Nat) (h0 : Lv yK w w.heap.size v0 l0) (v1 : Value) (l1 : List (List Nat)) (h1 : Rv w w.heap.size v1 l1) (v2 : Value) (l2 : List Int) (h2 : Lv iK w w.heap.size v2 l2) (r0 : l0.length * 1 ≤ 140737488351232) (r1 : l1.length * 24 ≤ 140737488351232) (r2 : l2.length * 8 ≤ 140737488351232) :
    Calls Try.prog 8 #[v0, v1, v2] w (IsBool true w) := by
  have H0 := Lib.hid h0
  have hml0 : l0.length ≤ 9223372036854775807 := by have := h0; obtain ⟨_, _, _, h2, h3, _⟩ := this; simp only [maxLen] at h3; omega
  obtain ⟨A0, c0, hv, _⟩ := h0
  subst hv
  have H1 := Lib.hid h1
  have H2 := Lib.hid h2
  clear h2
  obtain ⟨A, c, hv, _⟩ := h1
  subst hv
  have HSZ := Lib.hid (sizeR_any (.slice A l1.length c) w.heap.size l1 w H1.out (Nat.le_refl _) (by omega))
  obtain ⟨m, hm⟩ : ∃ m, min (rowsBulk l1 10001) 10001 = m := ⟨_, rfl⟩
  rw [hm] at HSZ
  have HM := Lib.hid hm
  clear hm
  go_enter Try.func8, Try.ntmps8
  have HB1 := Lib.hid (Below.refl w.heap.size w)
  go_wp2_with fail
  refine HSZ.out.mono ?_
  rintro e1 w1 ⟨rfl, rfl⟩
  clear HSZ
  by_cases hbig : (10000 : Int) < (m : Int)
  · skip
    have C2 := Lib.hid (works_sf w)
    go_wp2_with fail
    refine C2.out.mono ?_
    rintro e4 w3 ⟨rfl, hb⟩
    have HB5 := Lib.hid (HB1.out.trans (hb.mono HB1.out.size))
    clear hb C2 HB1
    go_wp2
    go_ret
    exact ⟨rfl, HB5.out⟩
  · skip
    by_cases hbig2 : (10000 : Int) < (l0.length : Int)
    · skip
      have C6 := Lib.hid (works_sf w)
      go_wp2_with fail
      refine C6.out.mono ?_
      rintro e8 w7 ⟨rfl, hb⟩
      have HB9 := Lib.hid (HB1.out.trans (hb.mono HB1.out.size))
      clear hb C6 HB1
      go_wp2
      go_ret
      exact ⟨rfl, HB9.out⟩
    · skip
      have HCAT : Hid (l1.length ≤ 10000 ∧ l1.flatten.length ≤ 10000) := by
        have h1 := HM.out
        have h2 : (l1.map fun x => min x.length 10001).sum < 10001 := by unfold rowsBulk at h1; omega
        have h3 := cat_bulkN l1 h2
        unfold rowsBulk at h1
        unfold Hid
        omega
      have hl0 : l0.length ≤ 1048576 := by omega
      have hl1 : l1.length ≤ 10000 := HCAT.out.1
      have C10 := Lib.hid (pnew_any 1048576 (by unfold I64; omega) w)
      go_wp2_with fail
      refine C10.out.mono ?_
      intro e12 w11 h
      rw [if_neg (by omega)] at h
      obtain ⟨b13, f14, rfl, hd, hf, hb⟩ := h
      have HF15 := Lib.hid (hf.mono HB1.out.size)
      have HB16 := Lib.hid (HB1.out.trans (hb.mono HB1.out.size))
      have HD17 := Lib.hid hd
      clear HB1 hd hf hb C10
      have EQ1 : Hid (Sf.create (Sf.new (1048576 : Int).toNat) ⟨#[97]⟩ = (0, Sf.one1S ⟨#[97]⟩)) := Sf.one1 (by decide +kernel)
      have C18 := Lib.hid (pcreate_any HD17.out (by unfold Sf.Few; simp [Sf.new]) ⟨#[97]⟩ (by decide +kernel))
      rw [EQ1.out] at C18
      go_wp2_with fail
      refine C18.out.mono ?_
      rintro e20 w19 ⟨rfl, f21, hd, hn, ht⟩
      have HB22 := Lib.hid (HF15.out.below HB16.out HB16.out.size ht)
      have HF23 := Lib.hid (hn.from_ HF15.out HB16.out.size)
      have HD24 := Lib.hid hd
      clear HB16 HD17 HF15 hd hn ht C18 EQ1
      have EQ2 := Lib.hid (Sf.one2 ⟨#[97]⟩ (b := l0) hl0)
      have C25 := Lib.hid (pappend_any HD24.out (by unfold Sf.Few; simp [Sf.one1S]) ⟨#[97]⟩ (by decide +kernel) (.slice A0 l0.length c0) w.heap.size l0 (H0.out.below_ HB22.out (Nat.le_refl _)) HB22.out.size (HF23.out.not_arg H0.out))
      rw [EQ2.out] at C25
      go_wp2_with fail
      refine C25.out.mono ?_
      rintro e27 w26 ⟨rfl, f28, hd, hn, ht⟩
      have HB29 := Lib.hid (HF23.out.below HB22.out HB22.out.size ht)
      have HF30 := Lib.hid (hn.from_ HF23.out HB22.out.size)
      have HD31 := Lib.hid hd
      clear HB22 HD24 HF23 hd hn ht C25 EQ2
      have EQ3 := Lib.hid (Sf.one3 ⟨#[97]⟩ l0)
      have C32 := Lib.hid (psync_any HD31.out (by unfold Sf.Few; simp [Sf.one2S]) ⟨#[97]⟩ (by decide +kernel))
      rw [EQ3.out] at C32
      go_wp2_with fail
      refine C32.out.mono ?_
      rintro e34 w33 ⟨rfl, f35, hd, hn, ht⟩
      have HB36 := Lib.hid (HF30.out.below HB29.out HB29.out.size ht)
      have HF37 := Lib.hid (hn.from_ HF30.out HB29.out.size)
      have HD38 := Lib.hid hd
      clear HB29 HD31 HF30 hd hn ht C32 EQ3
      have EQ4 := Lib.hid (Sf.one4 ⟨#[97]⟩ l0)
      have C39 := Lib.hid (psyncDir_any HD38.out (by unfold Sf.Few; simp [Sf.one3S]))
      rw [EQ4.out] at C39
      go_wp2_with fail
      refine C39.out.mono ?_
      rintro e41 w40 ⟨rfl, f42, hd, hn, ht⟩
      have HB43 := Lib.hid (HF37.out.below HB36.out HB36.out.size ht)
      have HF44 := Lib.hid (hn.from_ HF37.out HB36.out.size)
      have HD45 := Lib.hid hd
      clear HB36 HD38 HF37 hd hn ht C39 EQ4
      have HN0 : Hid (OwnL yK w40 w.heap.size (.slice none 0 0) []) := OwnL.nil_ _ _ _
      go_wp2_with (at_builtin; go_must (refine wpList_append_m _ yK rfl _ _ rfl w.heap.size _ rfl [] HN0.out _ rfl w.heap.size l0 (H0.out.below_ HB43.out (Nat.le_refl _)) (by show (0 + l0.length) * 1 ≤ _; omega) (by simp only [maxLen, List.length_nil]; omega) HB43.out.size ?_; intro A5 c5 w50 hA hG hM))
      have HOF := Lib.hid (off_moved off_nil hM (pdisk_law.lt HD45.out))
      have HAL := Lib.hid hA
      have HBn := Lib.hid (HB43.out.grown hG HB43.out.size (fun k hk => (HN0.out.lt_ k hk).1))
      have HDn := Lib.hid (pdisk_law.turned HD45.out (Turned.of_grown hG) off_nil)
      rw [List.nil_append] at HOF HAL
      clear hA hG hM HN0 HB43 HD45
      go_wp2
      go_loopw [9, 10] (fun u i wr => ∃ (k : Nat) (fp : Fp) (Ax : Option Addr) (cx : Nat) (y : List Nat), k ≤ l1.length ∧ i = .int .i64 (k : Nat) ∧ u = .slice Ax y.length cx ∧ Hid (y = l0 ++ (l1.take k).flatten) ∧ Hid (OwnL yK wr w.heap.size (.slice Ax y.length cx) y) ∧ Hid (fp.Off (fun j => (Value.slice Ax y.length cx).ownBlock = some j)) ∧ Hid (PDisk wr fp (Sf.tlS ⟨#[97]⟩ l0 (l1.take k)) b13) ∧ Hid (fp.From w.heap.size) ∧ Below w.heap.size w wr) (fun _ i _ => l1.length - (intOf i).toNat)
      case atStart => exact ⟨0, f42, A5, c5, l0, by omega, rfl, by first | rfl | simp, by simp [Hid], HAL.out, HOF.out, HDn.out, HF44.out, HBn.out⟩
      case round =>
        obtain ⟨k, fp, Ax, cx, y, hk, rfl, rfl, HE, HY, HOr, HDr, HFr, hbr⟩ := hrel
        have HBr := Lib.hid hbr
        clear hbr HAL HOF HDn HBn HF44
        by_cases hlt : k < l1.length
        · have hki : (k : Int) < (l1.length : Int) := by omega
          have hk0 : (0 : Int) ≤ (k : Int) := by omega
          have wk : IntKind.i64.wrap ((k : Int) + 1) = (k : Int) + 1 := by rw [IntKind.wrap_i64]; omega
          obtain ⟨bo, off, Ap, cp, x, rfl, hbo, hq, hcell, hx⟩ := H1.out.at_ hlt
          have HX := Lib.hid hx.lv_
          have HCL : Hid (∀ w', Below w.heap.size w w' → w'.cell? ⟨bo, off + k, none⟩ = some (.slice Ap x.length cp)) := fun w' hb' => (hb'.cell (p := ⟨bo, off + k, none⟩) (by show bo < _; omega)).trans hcell
          have hc1 := HCL.out wr HBr.out
          have hsum : l0.length + (l1.take k).flatten.length + x.length ≤ 20000 := by
            have h1 := HCAT.out.2
            have e1 : l1 = l1.take k ++ x :: l1.drop (k + 1) := by
              conv => lhs; rw [← List.take_append_drop k l1]
              rw [List.drop_eq_getElem_cons hlt]
              congr 2
              rw [List.getElem?_eq_getElem hlt] at hq
              exact Option.some.inj hq
            rw [e1, List.flatten_append, List.flatten_cons, List.length_append, List.length_append] at h1
            omega
          have HET : Hid (l1.take k ++ [x] = l1.take (k + 1)) := by unfold Hid; rw [List.take_add_one, hq]; rfl
          have EQ := Lib.hid (Sf.tl_put ⟨#[97]⟩ (b := l0) (p := x) (ps := l1.take k) (by omega))
          have HYL : Hid (y.length + x.length ≤ 20000) := by unfold Hid; rw [HE.out, List.length_append]; exact hsum
          have HE2 : Hid (y ++ x = l0 ++ (l1.take (k + 1)).flatten) := by unfold Hid; rw [← HET.out, List.flatten_append, HE.out]; simp
          rw [HET.out] at EQ
          have hxm : x.length ≤ 20000 := by have := HYL.out; omega
          clear hx hcell hq hsum HET HE hbo
          have HA1 := Lib.hid (pappend_any HDr.out (by unfold Sf.Few; simp [Sf.tlS]; omega) ⟨#[97]⟩ (by decide +kernel) _ w.heap.size x (HX.out.below_ HBr.out (Nat.le_refl _)) HBr.out.size (HFr.out.not_arg HX.out))
          rw [EQ.out] at HA1
          go_wp2_with fail
          refine HA1.out.mono ?_
          rintro e60 w60 ⟨rfl, f60, hd, hn, ht⟩
          have HOf2 := Lib.hid (off_next HOr.out hn (fun j hj => (HY.out.lt_ j hj).2))
          have HY2 := Lib.hid (HY.out.turned_ ht (fun j hj => (HOr.out j hj).1))
          have HB46 := Lib.hid (HFr.out.below HBr.out HBr.out.size ht)
          have HF47 := Lib.hid (hn.from_ HFr.out HBr.out.size)
          have HD48 := Lib.hid hd
          clear HBr HDr HFr hd hn ht HA1 EQ HOr HY
          have hc2 := HCL.out w60 HB46.out
          have HS := Lib.hid (HX.out.below_ HB46.out (Nat.le_refl _))
          clear hc1 HCL
          go_wp2_with (at_builtin; go_must (refine wpList_append_m _ yK rfl _ _ rfl w.heap.size _ rfl y HY2.out _ rfl w.heap.size x HS.out (by have := HYL.out; show (y.length + x.length) * 1 ≤ _; omega) (by have := HYL.out; simp only [maxLen]; omega) HB46.out.size ?_; intro A7 c7 w70 hA hG hM))
          have HOF := Lib.hid (off_moved HOf2.out hM (pdisk_law.lt HD48.out))
          have HAL := Lib.hid hA
          have HBn := Lib.hid (HB46.out.grown hG HB46.out.size (fun k hk => (HY2.out.lt_ k hk).1))
          have HDn := Lib.hid (pdisk_law.turned HD48.out (Turned.of_grown hG) HOf2.out)
          clear hA hG hM hc2 HS HX
          go_roundw
          case rel => exact ⟨k + 1, f60, A7, c7, y ++ x, by omega, by go_num, by rw [List.length_append], HE2.out, HAL.out, HOF.out, HDn.out, HF47.out, HBn.out⟩
          case measure => simp [intOf]; omega
        · have hki : ¬ (k : Int) < (l1.length : Int) := by omega
          have hkk : k = l1.length := by omega
          have HEA : Hid (y = l0 ++ l1.flatten) := by unfold Hid; rw [HE.out, hkk, List.take_length]
          have HTK : Hid (l1.take k = l1) := by unfold Hid; rw [hkk, List.take_length]
          rw [HTK.out] at HDr
          have HTL := Sf.tl_left ⟨#[97]⟩ (b := l0) (ps := l1) (by have := HCAT.out.2; omega) l2
          obtain ⟨R, hR1, hR2, hR3, hR4⟩ := HTL
          have HR1 := Lib.hid hR1
          rw [← HEA.out] at hR3 hR4
          have hyb : y.length ≤ 20000 := by have := HCAT.out.2; rw [HEA.out, List.length_append]; omega
          have HR4 := Lib.hid hR4
          clear hki hkk hR1 hR4 HEA HTK HE HOr
          have VA := Lib.hid HY.out.form_
          have CF := Lib.hid (pfail_any HDr.out v2 w.heap.size l2 (H2.out.below_ HBr.out (Nat.le_refl _)) HBr.out.size)
          go_wp2_with fail
          refine CF.out.mono ?_
          rintro e80 w80 ⟨b80, f80, rfl, hd, hf, hb⟩
          have VA2 := Lib.hid ((VA.out.below_ hb (Nat.le_refl _)).mono_ hb.size)
          have HA49 := Lib.hid ((pdisk_law.lt HDr.out).apart hf)
          have HF50 := Lib.hid (hf.mono HBr.out.size)
          have HB51 := Lib.hid (HBr.out.trans (hb.mono HBr.out.size))
          have HD52 := Lib.hid (pdisk_law.below HDr.out hb)
          have HD53 := Lib.hid hd
          clear HBr HDr hd hf hb CF VA HY
          have CR := Lib.hid (pread_any HD53.out ⟨#[97]⟩ (by decide +kernel) 0 1048576 (by unfold I64; omega) (by unfold I64; omega))
          rw [HR1.out] at CR
          go_wp2_with fail
          refine CR.out.mono ?_
          rintro e90 w90 ⟨AR, cR, rfl, ho, hb⟩
          have VA3 := Lib.hid ((VA2.out.below_ hb (Nat.le_refl _)).mono_ hb.size)
          have VR := Lib.hid ho.form_
          change Hid (Lv yK w90 w90.heap.size (.slice AR R.length cR) R) at VR
          have HB54 := Lib.hid (HB51.out.trans (hb.mono HB51.out.size))
          have HD55 := Lib.hid (pdisk_law.below HD52.out hb)
          have HD56 := Lib.hid (pdisk_law.below HD53.out hb)
          clear HB51 HD52 HD53 hb ho CR VA2 HR1
          have hcx := VA3.out.len_.2.1
          have kc := fun w => cut_to yK rfl Ax y.length cx R.length (by omega) w
          have kd := fun w => cutAt_to yK rfl Ax y.length cx R.length (by omega) w
          change ∀ w, (Instr.slice 22 (.slice Ax y.length cx) none (some (.int .i64 (R.length : Nat))) none).run Try.prog w = .ok (.slice Ax R.length cx) w at kc
          change ∀ w, (Instr.sliceAt 22 (.slice Ax y.length cx) none (some (.int .i64 (R.length : Nat))) none).run Try.prog w = .ok (.slice Ax R.length cx) w at kd
          have VT := Lib.hid (VA3.out.take_ (k := R.length) hR3)
          rw [← HR4.out] at VT
          have CS := Lib.hid (octs_lv _ _ _ _ _ _ w90 VR.out VT.out)
          simp only [decide_true] at CS
          have hr1 : (l0.length : Int) ≤ (R.length : Int) := by omega
          have hr2 : (R.length : Int) ≤ (y.length : Int) := by omega
          clear hcx hR2 VA3 HR4 hyb
          go_wp2_with fail
          refine CS.out.mono ?_
          rintro e91 w91 ⟨rfl, hb⟩
          have HB57 := Lib.hid (HB54.out.trans (hb.mono HB54.out.size))
          have HD58 := Lib.hid (pdisk_law.below HD55.out hb)
          have HD59 := Lib.hid (pdisk_law.below HD56.out hb)
          clear HB54 HD55 HD56 hb CS VR VT kc kd
          have C60 := Lib.hid (works_sf w91)
          go_wp2_with fail
          refine C60.out.mono ?_
          rintro e62 w61 ⟨rfl, hb⟩
          have HB63 := Lib.hid (HB57.out.trans (hb.mono HB57.out.size))
          clear hb C60 HB57
          go_wp2
          go_ret
          exact ⟨rfl, HB63.out⟩
/-! ### From the walk to the row -/
set_option maxRecDepth 100000 in
theorem lifted (os : Os) (started : os.Started) (H : Type) (enc : TypeId × Value → H) :
    ReturnsInHanded {} Try.checked os 8 .any (Rows.simfsTailSpec.pre6 enc Try.prog Try.f8 Rows.simfsTailRow.domain false) (Rows.simfsTailSpec.post enc Try.prog Try.f8 false true false false) := by
  refine returnsInHanded_of_change_sized (C := Try.checked) own started (by kernel_rfl) Try.func8
    (ChangeSpec.witness6 (enc := enc) (C := Try.checked) false ⟨#[], #[.slice none 0 0, .slice none 0 0, .slice none 0 0], []⟩ 8 (by kernel_rfl) (by kernel_rfl) (by kernel_rfl) (by kernel_rfl)) ?_
  intro W base args ds gs before hval0 hW hcnd hreach _
  have hval : ∀ (j : Nat) t v, Try.f8.params[j]? = some t → args[j]? = some v → Value.okWide Try.prog W .any base t v := hval0
  have hW' := hW
  obtain ⟨p, q, hA0, hV, rfl, hfz, hnd⟩ := hW
  have hA : DataW.TrodAll enc Try.prog W 0 (fun _ => true) true Try.f8.params.toList args.toList ds p := hA0
  rw [Try.params8] at hA hval
  obtain ⟨v0, vs0, d0, ds0, p0, q0, hargs, rfl, rfl, h0, r0⟩ := trodAll_cons hA
  obtain ⟨v1, vs1, d1, ds1, p1, q1, rfl, rfl, rfl, h1, r1⟩ := trodAll_cons r0
  obtain ⟨v2, vs2, d2, ds2, p2, q2, rfl, rfl, rfl, h2, r2⟩ := trodAll_cons r1
  obtain ⟨rfl, rfl, rfl⟩ := trodAll_nil r2
  obtain rfl : args = #[v0, v1, v2] := by cases args; simp_all
  obtain ⟨rfl, rfl⟩ := trodVars_none hV
  obtain ⟨a0, len0, cap0, rfl⟩ := okWide_slice Try.underlying22 (hval 0 22 v0 rfl rfl)
  have k0 := h0
  have lt0 : ∀ x ∈ p0, x.block < W.heap.size := by obtain ⟨m, hm⟩ := k0; exact DataW.trod_lt m _ _ _ hm
  obtain ⟨l0, len_0, hb0⟩ : ∃ l : List Nat, l.length = len0 ∧ Lv yK W W.heap.size (.slice a0 len0 cap0) l := by
    obtain ⟨fuel, hf⟩ := h0
    exact octs_in hf
  obtain ⟨a1, len1, cap1, rfl⟩ := okWide_slice Try.underlying64 (hval 1 64 v1 rfl rfl)
  have k1 := h1
  have lt1 : ∀ x ∈ p1, x.block < W.heap.size := by obtain ⟨m, hm⟩ := k1; exact DataW.trod_lt m _ _ _ hm
  obtain ⟨l1, hb1, count1, bulk1⟩ : ∃ ls : List (List Nat), Rv W W.heap.size (.slice a1 len1 cap1) ls ∧ ls.length ≤ Rows.uptoBulk d1 ∧ (cat ls).length ≤ Rows.uptoBulk d1 := by
    obtain ⟨fuel, hf⟩ := h1
    rcases Go.Deep.open_int_rows Try.underlying64 Try.underlying22 Try.underlying5 (by kernel_rfl) (by kernel_rfl) hf with ⟨hcs, hx⟩ | ⟨x, l, c, A, L, C, Z, hcs, _, hl, hm, hx, hcell⟩
    · simp [Value.cells] at hcs
      obtain ⟨rfl, rfl, rfl⟩ := hcs
      exact ⟨[], Rv.nil_ _ _, by simp, by simp [cat]⟩
    · simp [Value.cells] at hcs
      obtain ⟨rfl, rfl, rfl⟩ := hcs
      rw [Prod.mk.injEq] at hx
      exact rows_in hl hm hx.1 hcell
  obtain ⟨a2, len2, cap2, rfl⟩ := okWide_slice Try.underlying24 (hval 2 24 v2 rfl rfl)
  have k2 := h2
  have lt2 : ∀ x ∈ p2, x.block < W.heap.size := by obtain ⟨m, hm⟩ := k2; exact DataW.trod_lt m _ _ _ hm
  obtain ⟨l2, len_2, hb2⟩ : ∃ l : List Int, l.length = len2 ∧ Lv iK W W.heap.size (.slice a2 len2 cap2) l := by
    obtain ⟨fuel, hf⟩ := h2
    rcases open_ints Try.underlying24 Try.underlying3 (by kernel_rfl) hf with ⟨hcs, _⟩ | ⟨x, l, c, zs, hcs, _, hl, hm, hz, _, hcell, hwz⟩
    · simp [Value.cells] at hcs
      obtain ⟨rfl, rfl, rfl⟩ := hcs
      exact ints_in (.inl ⟨rfl, rfl, rfl⟩)
    · simp [Value.cells] at hcs
      obtain ⟨rfl, rfl, rfl⟩ := hcs
      exact ints_in (.inr ⟨x, zs, rfl, hl, hm, by simpa using hz, hcell, hwz⟩)
  have reach0 : len0 * 1 ≤ 140737488351232 := by
    obtain ⟨fuel, hf⟩ := k0
    rcases open_ints Try.underlying22 Try.underlying5 (by kernel_rfl) hf with ⟨hcs, _⟩ | ⟨x, l, c, zs, hcs, _, hl, hm, hz, hx, hcell, hwz⟩
    · simp [Value.cells] at hcs
      omega
    · simp [Value.cells] at hcs
      obtain ⟨rfl, rfl, rfl⟩ := hcs
      rw [Prod.mk.injEq] at hx
      have hs := sized_slice hreach (j := 0) (t := 22) (e := 5) (elems := lits .u8 (zs.take len0)) (spare := lits .u8 (zs.drop len0)) rfl (by rw [hx.1]; rfl) Try.underlying22
      have hb : Try.prog.bytesOf 5 = 1 := by kernel_rfl
      change _ * Try.prog.bytesOf 5 ≤ _ at hs
      rw [hb] at hs
      simp [lits, reachBytes] at hs hz
      omega
  have reach2 : len2 * 8 ≤ 140737488351232 := by
    obtain ⟨fuel, hf⟩ := k2
    rcases open_ints Try.underlying24 Try.underlying3 (by kernel_rfl) hf with ⟨hcs, _⟩ | ⟨x, l, c, zs, hcs, _, hl, hm, hz, hx, hcell, hwz⟩
    · simp [Value.cells] at hcs
      omega
    · simp [Value.cells] at hcs
      obtain ⟨rfl, rfl, rfl⟩ := hcs
      rw [Prod.mk.injEq] at hx
      have hs := sized_slice hreach (j := 2) (t := 24) (e := 3) (elems := lits .i64 (zs.take len2)) (spare := lits .i64 (zs.drop len2)) rfl (by rw [hx.1]; rfl) Try.underlying24
      have hb : Try.prog.bytesOf 3 = 8 := by kernel_rfl
      change _ * Try.prog.bytesOf 3 ≤ _ at hs
      rw [hb] at hs
      simp [lits, reachBytes] at hs hz
      omega
  have reach1 : len1 * 24 ≤ 140737488351232 := by
    obtain ⟨fuel, hf⟩ := k1
    rcases Go.Deep.open_int_rows Try.underlying64 Try.underlying22 Try.underlying5 (by kernel_rfl) (by kernel_rfl) hf with ⟨hcs, hx⟩ | ⟨x, l, c, A, L, C, Z, hcs, _, hl, hm, hx, hcell⟩
    · simp [Value.cells] at hcs
      omega
    · simp [Value.cells] at hcs
      obtain ⟨rfl, rfl, rfl⟩ := hcs
      rw [Prod.mk.injEq] at hx
      have hs := sized_slice hreach (j := 1) (t := 64) (e := 22) (elems := _) (spare := _) rfl (by rw [hx.1]; rfl) Try.underlying64
      have hb : Try.prog.bytesOf 22 = 24 := by kernel_rfl
      change _ * Try.prog.bytesOf 22 ≤ _ at hs
      rw [hb] at hs
      simp only [List.length_map, List.length_range, reachBytes] at hs
      omega
  clear hA0 hval0
  refine (walk W (.slice a0 len0 cap0) l0 hb0 (.slice a1 len1 cap1) l1 hb1 (.slice a2 len2 cap2) l2 hb2 (by rw [len_0]; exact reach0) (by obtain ⟨_, _, e, _⟩ := hb1; simp only [Value.slice.injEq] at e; rw [← e.2.1]; exact reach1) (by rw [len_2]; exact reach2)).mono fun e W' ⟨he, bel⟩ => ?_
  subst he
  exact ⟨_, rfl, _, _, _, [], _, [], hW', trodAll_mk1 (shut_bool Try.underlying4 _), (trodAll_cons_mk (Below.trod laidOut (by kernel_rfl) (of_decide_eq_true (by kernel_rfl)) k0 bel lt0) (trodAll_cons_mk (Below.trod laidOut (by kernel_rfl) (of_decide_eq_true (by kernel_rfl)) k1 bel lt1) (trodAll_cons_mk (Below.trod laidOut (by kernel_rfl) (of_decide_eq_true (by kernel_rfl)) k2 bel lt2) trodAll_mk0))), rfl, bel.frame _, fun h => by cases h⟩

theorem proved : Rows.SimfsTailSaid :=
  OpenClaim.holds_of_wide 8 Try.f8 rfl rfl rfl rfl rfl rfl rfl ⟨rfl, rfl, rfl, rfl, rfl⟩ rfl rfl rfl rfl rfl (by kernel_rfl) Try.func8 (by kernel_rfl)
    (of_decide_eq_true (by kernel_rfl)) (by unfold Func.isWrapper; first | (rw [if_pos (by decide +kernel)]; kernel_rfl) | (rw [if_neg (by decide +kernel)]; exact ⟨rfl, rfl⟩))
    (fun os started H enc _ => lifted os started H enc)

end Go.Proofs.Ytmcbjcbnckpfkaa.simfsTail
