/-
  SfAlike: stooklaw14: files, alike: both disks tell the same, where they stand for one.
  SfDo: stooklaw14.do: a deed, of the program's disk.
  SfGreat: stooklaw14.great: more than a statement goes through.
-/
import Derived.Test.YtmcbjcbnckpfkaaGreatPt25
import Derived.Test.YtmcbjcbnckpfkaaGreatPt38
import Derived.Test.YtmcbjcbnckpfkaaGreatPt05
import Derived.Test.YtmcbjcbnckpfkaaGreatPt08
import Derived.Test.YtmcbjcbnckpfkaaGreatPt10
import Derived.BigRegion
import Derived.Test.YtmcbjcbnckpfkaaGreatPt06
import Derived.JoinedCond
namespace Go.Proofs.YtmcbjcbnckpfkaaGreat
open Go.RowKit
set_option linter.unusedVariables false
set_option maxHeartbeats 2000000 in
set_option maxRecDepth 100000 in
theorem files_any {w : World} {f g : Fp} {t : Sf.St} {b c : Nat} (hf : PDisk w f t b) (hg : RDisk w g t c) (v : Value) (l : List ByteArray) (hv : Lv sK w w.heap.size v l) :
    Calls Tryz.prog 54 #[.pointer (some ⟨b, 0, none⟩), .pointer (some ⟨c, 0, none⟩), v] w (IsBool true w) := by
  have V0 := Lib.hid hv
  obtain ⟨A, n, hv, hc1, hc2, _⟩ := hv
  subst hv
  have hlm : l.length ≤ 9223372036854775807 := by simp only [maxLen] at hc2; omega
  have D1 := Lib.hid hf
  have D2 := Lib.hid hg
  have HB0 := Lib.hid (Below.refl w.heap.size w)
  clear hf hg hc1 hc2
  go_enter Tryz.func54, Tryz.ntmps54
  go_wp2
  go_loopw [7, 8, 9, 10, 11] (fun i _ _ _ _ wr => ∃ (k : Nat), k ≤ l.length ∧ i = .int .i64 (k : Nat) ∧ Hid (PDisk wr f t b) ∧ Hid (RDisk wr g t c) ∧ Hid (Lv sK wr wr.heap.size (.slice A l.length n) l) ∧ Below w.heap.size w wr) (fun i _ _ _ _ _ => l.length - (intOf i).toNat)
  case atStart => exact ⟨0, by omega, rfl, D1.out, D2.out, V0.out, HB0.out⟩
  case round =>
    obtain ⟨k, hk, rfl, E1, E2, V1, hbr⟩ := hrel
    have HBr := Lib.hid hbr
    clear D1 D2 V0 HB0 hbr
    by_cases hlt : k < l.length
    · have hki : (k : Int) < (l.length : Int) := by omega
      have hk0 : (0 : Int) ≤ (k : Int) := by omega
      have wk : IntKind.i64.wrap ((k : Int) + 1) = (k : Int) + 1 := by rw [IntKind.wrap_i64]; omega
      obtain ⟨b6, o6, s6, hA6, hb6, hs6, hq6, hc6⟩ := V1.out.str_ hlt
      subst hA6
      have HC6 : Hid (∀ w', Below wr.heap.size wr w' → w'.cell? ⟨b6, o6 + k, none⟩ = some (.string s6)) := fun w' hb' => (hb'.cell (p := ⟨b6, o6 + k, none⟩) (by show b6 < _; omega)).trans hc6
      have HS6 := Lib.hid hs6
      obtain ⟨X, hX⟩ : ∃ X, Sf.read t s6 0 1048576 = X := ⟨_, rfl⟩
      have HX := Lib.hid hX
      have CA := Lib.hid (pread_any E1.out s6 hs6 0 1048576 (by unfold I64; omega) (by unfold I64; omega))
      rw [hX] at CA
      clear hX hq6 hs6 hb6
      go_wp2_with fail
      refine CA.out.mono ?_
      rintro e1 w1 ⟨AX, cX, rfl, ho, hb⟩
      have VX := Lib.hid ho.form_
      have V2 := Lib.hid ((V1.out.below_ hb (Nat.le_refl _)).mono_ hb.size)
      have G1 := Lib.hid (pdisk_law.below E1.out hb)
      have G2 := Lib.hid (rdisk_law.below E2.out hb)
      have HB1 := Lib.hid (HBr.out.trans (hb.mono HBr.out.size))
      have hc7 := HC6.out w1 hb
      have CB := Lib.hid (rfread_any G2.out s6 HS6.out 0 1048576 (by unfold I64; omega) (by unfold I64; omega))
      rw [HX.out] at CB
      clear hc6 HC6 V1 E1 E2 ho hb CA HBr
      go_wp2_with fail
      refine CB.out.mono ?_
      rintro e2 w2 ⟨AY, cY, rfl, ho, hb⟩
      have VY := Lib.hid ho.form_
      have VX2 := Lib.hid ((VX.out.below_ hb (Nat.le_refl _)).mono_ hb.size)
      have V3 := Lib.hid ((V2.out.below_ hb (Nat.le_refl _)).mono_ hb.size)
      have F1 := Lib.hid (pdisk_law.below G1.out hb)
      have F2 := Lib.hid (rdisk_law.below G2.out hb)
      have HB2 := Lib.hid (HB1.out.trans (hb.mono HB1.out.size))
      have CS := Lib.hid (octs_lv _ _ _ _ _ _ w2 VX2.out VY.out)
      simp only [decide_true] at CS
      have q0 : (((X.2 : Nat) : Int) != ((X.2 : Nat) : Int)) = false := by simp
      clear hc7 VX V2 G1 G2 ho hb CB HB1
      go_wp2_with fail
      refine CS.out.mono ?_
      rintro e3 w3 ⟨rfl, hb⟩
      have V4 := Lib.hid ((V3.out.below_ hb (Nat.le_refl _)).mono_ hb.size)
      have K1 := Lib.hid (pdisk_law.below F1.out hb)
      have K2 := Lib.hid (rdisk_law.below F2.out hb)
      have HB3 := Lib.hid (HB2.out.trans (hb.mono HB2.out.size))
      clear V3 F1 F2 hb CS HB2 VX2 VY
      go_wp2
      go_roundw
      case rel => exact ⟨k + 1, by omega, by go_num, K1.out, K2.out, V4.out, HB3.out⟩
      case measure => simp [intOf]; omega
    · have hki : ¬ (k : Int) < (l.length : Int) := by omega
      clear E1 E2 V1
      go_wp2
      go_ret
      exact ⟨rfl, HBr.out⟩
set_option maxHeartbeats 4000000 in
set_option maxRecDepth 100000 in
theorem alike_any {w0 : World} {f g : Fp} {t : Sf.St} {b c : Nat} (hf : PDisk w0 f t b) (hg : RDisk w0 g t c) (x : Raw) (hx : RawOk x) :
    Calls Tryz.prog 12 #[.pointer (some ⟨b, 0, none⟩), .pointer (some ⟨c, 0, none⟩), .agg (deedC x)] w0 (IsBool true w0) := by
  unfold deedC
  obtain ⟨w, hw⟩ : ∃ w, w0.alloc (.cells #[.int .u8 (x.call : Nat), .string x.name, .string x.to, .int .i64 x.at_, .slice x.A x.n x.c] 35) = w := ⟨_, rfl⟩
  have hbx := heap_alloc_new w0 (.cells #[.int .u8 (x.call : Nat), .string x.name, .string x.to, .int .i64 x.at_, .slice x.A x.n x.c] 35)
  have hbb : Below w0.heap.size w0 (w0.alloc (.cells #[.int .u8 (x.call : Nat), .string x.name, .string x.to, .int .i64 x.at_, .slice x.A x.n x.c] 35)) := (Below.refl _ _).alloc (Nat.le_refl _) _
  have hd1 := pdisk_law.alloc hf (.cells #[.int .u8 (x.call : Nat), .string x.name, .string x.to, .int .i64 x.at_, .slice x.A x.n x.c] 35)
  have hd2 := rdisk_law.alloc hg (.cells #[.int .u8 (x.call : Nat), .string x.name, .string x.to, .int .i64 x.at_, .slice x.A x.n x.c] 35)
  rw [hw] at hbx hbb hd1 hd2
  have hxs : w0.heap.size < w.heap.size := by rw [← hw]; simp
  have HX : Hid (∀ w', Below w.heap.size w w' → w'.cell? ⟨w0.heap.size, 1, none⟩ = some (.string x.name) ∧ w'.cell? ⟨w0.heap.size, 3, none⟩ = some (.int .i64 x.at_)) := fun w' hb' => by have h := (hb'.block _ hxs).trans hbx; exact ⟨by rw [cell_of_row _ _ 1 _ _ _ h]; rfl, by rw [cell_of_row _ _ 3 _ _ _ h]; rfl⟩
  have HBB := Lib.hid hbb
  have HDf := Lib.hid hd1
  have HDg := Lib.hid hd2
  have HXO := Lib.hid hx
  clear hf hg hbx hbb hd1 hd2 hxs hx
  have HB0 := Lib.hid (Below.refl w.heap.size w)
  go_enter Tryz.func12, Tryz.ntmps12
  obtain ⟨L, hL⟩ : ∃ L, Sf.names t = L := ⟨_, rfl⟩
  have HL := Lib.hid hL
  clear hL
  have C1 := Lib.hid (rfnames_any HDg.out)
  rw [HL.out] at C1
  go_wp2_with fail
  refine C1.out.mono ?_
  rintro e3 w2 ⟨AL, cL, rfl, ho, hb⟩
  have VL := Lib.hid ho.form_
  have HB4 := Lib.hid (HB0.out.trans (hb.mono HB0.out.size))
  have HD5 := Lib.hid (pdisk_law.below HDf.out hb)
  have HD6 := Lib.hid (rdisk_law.below HDg.out hb)
  clear HB0 HDf HDg hb C1 ho
  have C7 := Lib.hid (pnames_any HD5.out)
  rw [HL.out] at C7
  go_wp2_with fail
  refine C7.out.mono ?_
  rintro e9 w8 ⟨AM, cM, rfl, ho, hb⟩
  have VL' := Lib.hid ((VL.out.below_ hb (Nat.le_refl _)).mono_ hb.size)
  clear VL
  have VL := VL'
  clear VL'
  have VM := Lib.hid ho.form_
  have HB10 := Lib.hid (HB4.out.trans (hb.mono HB4.out.size))
  have HD11 := Lib.hid (pdisk_law.below HD5.out hb)
  have HD12 := Lib.hid (rdisk_law.below HD6.out hb)
  clear HB4 HD5 HD6 hb C7 ho
  have C13 := Lib.hid (texts_lv _ _ _ _ _ _ w8 VM.out VL.out)
  simp only [decide_true] at C13
  go_wp2_with fail
  refine C13.out.mono ?_
  rintro e15 w14 ⟨rfl, hb⟩
  have VL' := Lib.hid ((VL.out.below_ hb (Nat.le_refl _)).mono_ hb.size)
  clear VL
  have VL := VL'
  clear VL'
  have VM' := Lib.hid ((VM.out.below_ hb (Nat.le_refl _)).mono_ hb.size)
  clear VM
  have VM := VM'
  clear VM'
  have HB16 := Lib.hid (HB10.out.trans (hb.mono HB10.out.size))
  have HD17 := Lib.hid (pdisk_law.below HD11.out hb)
  have HD18 := Lib.hid (rdisk_law.below HD12.out hb)
  clear HB10 HD11 HD12 hb C13
  clear VM
  obtain ⟨nU, hU⟩ : ∃ n, Sf.used t = n := ⟨_, rfl⟩
  have HU := Lib.hid hU
  clear hU
  have qU : (((nU : Nat) : Int) != ((nU : Nat) : Int)) = false := by simp
  have C19 := Lib.hid (pused_any HD17.out)
  rw [HU.out] at C19
  go_wp2_with fail
  refine C19.out.mono ?_
  rintro e21 w20 ⟨rfl, hb⟩
  have VL' := Lib.hid ((VL.out.below_ hb (Nat.le_refl _)).mono_ hb.size)
  clear VL
  have VL := VL'
  clear VL'
  have HB22 := Lib.hid (HB16.out.trans (hb.mono HB16.out.size))
  have HD23 := Lib.hid (pdisk_law.below HD17.out hb)
  have HD24 := Lib.hid (rdisk_law.below HD18.out hb)
  clear HB16 HD17 HD18 hb C19
  have C25 := Lib.hid (rfused_any HD24.out)
  rw [HU.out] at C25
  go_wp2_with fail
  refine C25.out.mono ?_
  rintro e27 w26 ⟨rfl, hb⟩
  have VL' := Lib.hid ((VL.out.below_ hb (Nat.le_refl _)).mono_ hb.size)
  clear VL
  have VL := VL'
  clear VL'
  have HB28 := Lib.hid (HB22.out.trans (hb.mono HB22.out.size))
  have HD29 := Lib.hid (pdisk_law.below HD23.out hb)
  have HD30 := Lib.hid (rdisk_law.below HD24.out hb)
  clear HB22 HD23 HD24 hb C25
  obtain ⟨nO, hO⟩ : ∃ n, Sf.roomOf t = n := ⟨_, rfl⟩
  have HO := Lib.hid hO
  clear hO
  have qO : (((nO : Nat) : Int) != ((nO : Nat) : Int)) = false := by simp
  have C31 := Lib.hid (proom_any HD29.out)
  rw [HO.out] at C31
  go_wp2_with fail
  refine C31.out.mono ?_
  rintro e33 w32 ⟨rfl, hb⟩
  have VL' := Lib.hid ((VL.out.below_ hb (Nat.le_refl _)).mono_ hb.size)
  clear VL
  have VL := VL'
  clear VL'
  have HB34 := Lib.hid (HB28.out.trans (hb.mono HB28.out.size))
  have HD35 := Lib.hid (pdisk_law.below HD29.out hb)
  have HD36 := Lib.hid (rdisk_law.below HD30.out hb)
  clear HB28 HD29 HD30 hb C31
  have C37 := Lib.hid (rfroom_any HD36.out)
  rw [HO.out] at C37
  go_wp2_with fail
  refine C37.out.mono ?_
  rintro e39 w38 ⟨rfl, hb⟩
  have VL' := Lib.hid ((VL.out.below_ hb (Nat.le_refl _)).mono_ hb.size)
  clear VL
  have VL := VL'
  clear VL'
  have HB40 := Lib.hid (HB34.out.trans (hb.mono HB34.out.size))
  have HD41 := Lib.hid (pdisk_law.below HD35.out hb)
  have HD42 := Lib.hid (rdisk_law.below HD36.out hb)
  clear HB34 HD35 HD36 hb C37
  obtain ⟨nK, hK⟩ : ∃ n, t.acts = n := ⟨_, rfl⟩
  have HK := Lib.hid hK
  clear hK
  have qK : (((nK : Nat) : Int) != ((nK : Nat) : Int)) = false := by simp
  have C43 := Lib.hid (pacts_any HD41.out)
  rw [HK.out] at C43
  go_wp2_with fail
  refine C43.out.mono ?_
  rintro e45 w44 ⟨rfl, hb⟩
  have VL' := Lib.hid ((VL.out.below_ hb (Nat.le_refl _)).mono_ hb.size)
  clear VL
  have VL := VL'
  clear VL'
  have HB46 := Lib.hid (HB40.out.trans (hb.mono HB40.out.size))
  have HD47 := Lib.hid (pdisk_law.below HD41.out hb)
  have HD48 := Lib.hid (rdisk_law.below HD42.out hb)
  clear HB40 HD41 HD42 hb C43
  have C49 := Lib.hid (rfacts_any HD48.out)
  rw [HK.out] at C49
  go_wp2_with fail
  refine C49.out.mono ?_
  rintro e51 w50 ⟨rfl, hb⟩
  have VL' := Lib.hid ((VL.out.below_ hb (Nat.le_refl _)).mono_ hb.size)
  clear VL
  have VL := VL'
  clear VL'
  have HB52 := Lib.hid (HB46.out.trans (hb.mono HB46.out.size))
  have HD53 := Lib.hid (pdisk_law.below HD47.out hb)
  have HD54 := Lib.hid (rdisk_law.below HD48.out hb)
  clear HB46 HD47 HD48 hb C49
  obtain ⟨nD, hD⟩ : ∃ n, t.dead = n := ⟨_, rfl⟩
  have HDe := Lib.hid hD
  clear hD
  have qD : ((nD : Bool) != nD) = false := by cases nD <;> rfl
  have C55 := Lib.hid (pdead_any HD53.out)
  rw [HDe.out] at C55
  go_wp2_with fail
  refine C55.out.mono ?_
  rintro e57 w56 ⟨rfl, hb⟩
  have VL' := Lib.hid ((VL.out.below_ hb (Nat.le_refl _)).mono_ hb.size)
  clear VL
  have VL := VL'
  clear VL'
  have HB58 := Lib.hid (HB52.out.trans (hb.mono HB52.out.size))
  have HD59 := Lib.hid (pdisk_law.below HD53.out hb)
  have HD60 := Lib.hid (rdisk_law.below HD54.out hb)
  clear HB52 HD53 HD54 hb C55
  have C61 := Lib.hid (rfdead_any HD60.out)
  rw [HDe.out] at C61
  go_wp2_with fail
  refine C61.out.mono ?_
  rintro e63 w62 ⟨rfl, hb⟩
  have VL' := Lib.hid ((VL.out.below_ hb (Nat.le_refl _)).mono_ hb.size)
  clear VL
  have VL := VL'
  clear VL'
  have HB64 := Lib.hid (HB58.out.trans (hb.mono HB58.out.size))
  have HD65 := Lib.hid (pdisk_law.below HD59.out hb)
  have HD66 := Lib.hid (rdisk_law.below HD60.out hb)
  clear HB58 HD59 HD60 hb C61
  obtain ⟨X, hX⟩ : ∃ X, Sf.read t x.name x.at_ 5 = X := ⟨_, rfl⟩
  have HXR := Lib.hid hX
  clear hX
  obtain ⟨hx1, hx3⟩ := HX.out w62 HB64.out
  have C67 := Lib.hid (pread_any HD65.out x.name HXO.out.2.1 x.at_ 5 HXO.out.2.2.2 (by unfold I64; omega))
  rw [HXR.out] at C67
  go_wp2_with fail
  refine C67.out.mono ?_
  rintro e69 w68 ⟨AX, cX, rfl, ho, hb⟩
  have VL' := Lib.hid ((VL.out.below_ hb (Nat.le_refl _)).mono_ hb.size)
  clear VL
  have VL := VL'
  clear VL'
  have VX := Lib.hid ho.form_
  have HB70 := Lib.hid (HB64.out.trans (hb.mono HB64.out.size))
  have HD71 := Lib.hid (pdisk_law.below HD65.out hb)
  have HD72 := Lib.hid (rdisk_law.below HD66.out hb)
  clear HB64 HD65 HD66 hb C67 ho hx1 hx3
  obtain ⟨hx1, hx3⟩ := HX.out w68 HB70.out
  have C73 := Lib.hid (rfread_any HD72.out x.name HXO.out.2.1 x.at_ 5 HXO.out.2.2.2 (by unfold I64; omega))
  rw [HXR.out] at C73
  go_wp2_with fail
  refine C73.out.mono ?_
  rintro e75 w74 ⟨AY, cY, rfl, ho, hb⟩
  have VL' := Lib.hid ((VL.out.below_ hb (Nat.le_refl _)).mono_ hb.size)
  clear VL
  have VL := VL'
  clear VL'
  have VX' := Lib.hid ((VX.out.below_ hb (Nat.le_refl _)).mono_ hb.size)
  clear VX
  have VX := VX'
  clear VX'
  have VY := Lib.hid ho.form_
  have HB76 := Lib.hid (HB70.out.trans (hb.mono HB70.out.size))
  have HD77 := Lib.hid (pdisk_law.below HD71.out hb)
  have HD78 := Lib.hid (rdisk_law.below HD72.out hb)
  clear HB70 HD71 HD72 hb C73 ho hx1 hx3
  obtain ⟨Z, hZ⟩ : ∃ Z, Sf.size t x.name = Z := ⟨_, rfl⟩
  have HZR := Lib.hid hZ
  clear hZ
  obtain ⟨hx1, hx3⟩ := HX.out w74 HB76.out
  have C79 := Lib.hid (psizeOf_any HD77.out x.name HXO.out.2.1)
  rw [HZR.out] at C79
  go_wp2_with fail
  refine C79.out.mono ?_
  rintro e81 w80 ⟨rfl, hb⟩
  have VL' := Lib.hid ((VL.out.below_ hb (Nat.le_refl _)).mono_ hb.size)
  clear VL
  have VL := VL'
  clear VL'
  have VX' := Lib.hid ((VX.out.below_ hb (Nat.le_refl _)).mono_ hb.size)
  clear VX
  have VX := VX'
  clear VX'
  have VY' := Lib.hid ((VY.out.below_ hb (Nat.le_refl _)).mono_ hb.size)
  clear VY
  have VY := VY'
  clear VY'
  have HB82 := Lib.hid (HB76.out.trans (hb.mono HB76.out.size))
  have HD83 := Lib.hid (pdisk_law.below HD77.out hb)
  have HD84 := Lib.hid (rdisk_law.below HD78.out hb)
  clear HB76 HD77 HD78 hb C79 hx1 hx3
  obtain ⟨hx1, hx3⟩ := HX.out w80 HB82.out
  have C85 := Lib.hid (rfsizeOf_any HD84.out x.name HXO.out.2.1)
  rw [HZR.out] at C85
  go_wp2_with fail
  refine C85.out.mono ?_
  rintro e87 w86 ⟨rfl, hb⟩
  have VL' := Lib.hid ((VL.out.below_ hb (Nat.le_refl _)).mono_ hb.size)
  clear VL
  have VL := VL'
  clear VL'
  have VX' := Lib.hid ((VX.out.below_ hb (Nat.le_refl _)).mono_ hb.size)
  clear VX
  have VX := VX'
  clear VX'
  have VY' := Lib.hid ((VY.out.below_ hb (Nat.le_refl _)).mono_ hb.size)
  clear VY
  have VY := VY'
  clear VY'
  have HB88 := Lib.hid (HB82.out.trans (hb.mono HB82.out.size))
  have HD89 := Lib.hid (pdisk_law.below HD83.out hb)
  have HD90 := Lib.hid (rdisk_law.below HD84.out hb)
  clear HB82 HD83 HD84 hb C85 hx1 hx3
  have q1 : (((X.2 : Nat) : Int) != ((X.2 : Nat) : Int)) = false := by simp
  have q2 : (((Z.1 : Nat) : Int) != ((Z.1 : Nat) : Int)) = false := by simp
  have q3 : (((Z.2 : Nat) : Int) != ((Z.2 : Nat) : Int)) = false := by simp
  have C91 := Lib.hid (octs_lv _ _ _ _ _ _ w86 VX.out VY.out)
  simp only [decide_true] at C91
  go_wp2_with fail
  refine C91.out.mono ?_
  rintro e93 w92 ⟨rfl, hb⟩
  have VL' := Lib.hid ((VL.out.below_ hb (Nat.le_refl _)).mono_ hb.size)
  clear VL
  have VL := VL'
  clear VL'
  have VX' := Lib.hid ((VX.out.below_ hb (Nat.le_refl _)).mono_ hb.size)
  clear VX
  have VX := VX'
  clear VX'
  have VY' := Lib.hid ((VY.out.below_ hb (Nat.le_refl _)).mono_ hb.size)
  clear VY
  have VY := VY'
  clear VY'
  have HB94 := Lib.hid (HB88.out.trans (hb.mono HB88.out.size))
  have HD95 := Lib.hid (pdisk_law.below HD89.out hb)
  have HD96 := Lib.hid (rdisk_law.below HD90.out hb)
  clear HB88 HD89 HD90 hb C91
  clear VX VY
  have C97 := Lib.hid (files_any HD95.out HD96.out _ L VL.out)
  go_wp2_with fail
  refine C97.out.mono ?_
  rintro e90 w90 ⟨rfl, hb⟩
  have HBE := Lib.hid (HB94.out.trans (hb.mono HB94.out.size))
  clear hb C97 HB94
  go_wp2
  go_ret
  exact ⟨rfl, HBB.out.trans (HBE.out.mono HBB.out.size)⟩
end Go.Proofs.YtmcbjcbnckpfkaaGreat
namespace Go.Proofs.YtmcbjcbnckpfkaaGreat
open Go.RowKit
set_option linter.unusedVariables false
set_option maxHeartbeats 2000000 in
set_option maxRecDepth 100000 in
theorem pdo_any {w : World} {f : Fp} {t : Sf.St} {b : Nat} (h : PDisk w f t b) (hf : Sf.Few t) (x : Raw) (o : Sf.Op) (B : Nat) (hx : RawOk x) (hd : Deed w B x o) (hB : B ≤ w.heap.size) (hM : 0 < o.b.length → ∀ k, (Value.slice x.A x.n x.c).ownBlock = some k → ¬ f.M k) :
    Calls Tryz.prog 10 #[.pointer (some ⟨b, 0, none⟩), .agg (deedC x)] w (IsDeed PDisk f b (Sf.doOp t o) w) := by
  obtain ⟨h0, h1, h2, h3, h4⟩ := hd
  obtain ⟨c0, c1, c2, c3⟩ := hx
  obtain ⟨call', name', to', at', A, n, c⟩ := x
  obtain ⟨call, name, to, at_, bs⟩ := o
  simp only at h0 h1 h2 h3 h4 c0 c1 c2 c3 hM
  subst h0 h1 h2 h3
  have hD := pdisk_turned h (alloc_turned w (.cells #[.int .u8 (call : Nat), .string name, .string to, .int .i64 at_, .slice A n c] 35)) (fun _ h => h.elim)
  have hV : Lv yK (w.alloc (.cells #[.int .u8 (call : Nat), .string name, .string to, .int .i64 at_, .slice A n c] 35)) B (.slice A n c) bs := h4.below_ ((Below.refl B w).alloc hB _) (Nat.le_refl _)
  have hB1 : B ≤ (w.alloc (.cells #[.int .u8 (call : Nat), .string name, .string to, .int .i64 at_, .slice A n c] 35)).heap.size := by simp; omega
  unfold deedC
  clear h h4
  by_cases k0 : call = 0
  · have p0 : ((call : Int) == 0) = true := by rw [beq_iff_eq]; omega
    have HC := Lib.hid (pcreate_any hD hf name c1)
    have HE : Hid (Sf.doOp t ⟨call, name, to, at_, bs⟩ = Sf.create t name) := by unfold Hid Sf.doOp; simp [k0]
    rw [HE.out]
    clear hD hV hB1 hM HE k0
    go_enter Tryz.func10, Tryz.ntmps10
    go_wp2_with fail
    ((with_reducible refine HC.out.mono ?_); rintro e w2 ⟨rfl, hr⟩)
    have HR := Lib.hid hr
    clear hr HC
    go_wp2
    go_ret
    exact IsDeed.of_alloc ⟨rfl, HR.out⟩
  · have q0 : ((call : Int) == 0) = false := by rw [beq_eq_false_iff_ne]; omega
    by_cases k1 : call = 1
    · have p1 : ((call : Int) == 1) = true := by rw [beq_iff_eq]; omega
      have HC := Lib.hid (pappend_any hD hf name c1 _ B bs hV hB1 hM)
      have HE : Hid (Sf.doOp t ⟨call, name, to, at_, bs⟩ = Sf.append t name bs) := by unfold Hid Sf.doOp; simp [k1]
      rw [HE.out]
      clear hD hV hB1 hM HE k0 k1
      go_enter Tryz.func10, Tryz.ntmps10
      go_wp2_with fail
      ((with_reducible refine HC.out.mono ?_); rintro e w2 ⟨rfl, hr⟩)
      have HR := Lib.hid hr
      clear hr HC
      go_wp2
      go_ret
      exact IsDeed.of_alloc ⟨rfl, HR.out⟩
    · have q1 : ((call : Int) == 1) = false := by rw [beq_eq_false_iff_ne]; omega
      by_cases k2 : call = 2
      · have p2 : ((call : Int) == 2) = true := by rw [beq_iff_eq]; omega
        have HC := Lib.hid (pwrite_any hD hf name c1 at_ c3 _ B bs hV hB1 hM)
        have HE : Hid (Sf.doOp t ⟨call, name, to, at_, bs⟩ = Sf.write t name at_ bs) := by unfold Hid Sf.doOp; simp [k2]
        rw [HE.out]
        clear hD hV hB1 hM HE k0 k1 k2
        go_enter Tryz.func10, Tryz.ntmps10
        go_wp2_with fail
        ((with_reducible refine HC.out.mono ?_); rintro e w2 ⟨rfl, hr⟩)
        have HR := Lib.hid hr
        clear hr HC
        go_wp2
        go_ret
        exact IsDeed.of_alloc ⟨rfl, HR.out⟩
      · have q2 : ((call : Int) == 2) = false := by rw [beq_eq_false_iff_ne]; omega
        by_cases k3 : call = 3
        · have p3 : ((call : Int) == 3) = true := by rw [beq_iff_eq]; omega
          have HC := Lib.hid (pcut_any hD hf name c1 at_ c3)
          have HE : Hid (Sf.doOp t ⟨call, name, to, at_, bs⟩ = Sf.cut t name at_) := by unfold Hid Sf.doOp; simp [k3]
          rw [HE.out]
          clear hD hV hB1 hM HE k0 k1 k2 k3
          go_enter Tryz.func10, Tryz.ntmps10
          go_wp2_with fail
          ((with_reducible refine HC.out.mono ?_); rintro e w2 ⟨rfl, hr⟩)
          have HR := Lib.hid hr
          clear hr HC
          go_wp2
          go_ret
          exact IsDeed.of_alloc ⟨rfl, HR.out⟩
        · have q3 : ((call : Int) == 3) = false := by rw [beq_eq_false_iff_ne]; omega
          by_cases k4 : call = 4
          · have p4 : ((call : Int) == 4) = true := by rw [beq_iff_eq]; omega
            have HC := Lib.hid (prename_any hD hf name to c1 c2)
            have HE : Hid (Sf.doOp t ⟨call, name, to, at_, bs⟩ = Sf.rename t name to) := by unfold Hid Sf.doOp; simp [k4]
            rw [HE.out]
            clear hD hV hB1 hM HE k0 k1 k2 k3 k4
            go_enter Tryz.func10, Tryz.ntmps10
            go_wp2_with fail
            ((with_reducible refine HC.out.mono ?_); rintro e w2 ⟨rfl, hr⟩)
            have HR := Lib.hid hr
            clear hr HC
            go_wp2
            go_ret
            exact IsDeed.of_alloc ⟨rfl, HR.out⟩
          · have q4 : ((call : Int) == 4) = false := by rw [beq_eq_false_iff_ne]; omega
            by_cases k5 : call = 5
            · have p5 : ((call : Int) == 5) = true := by rw [beq_iff_eq]; omega
              have HC := Lib.hid (premove_any hD hf name c1)
              have HE : Hid (Sf.doOp t ⟨call, name, to, at_, bs⟩ = Sf.remove t name) := by unfold Hid Sf.doOp; simp [k5]
              rw [HE.out]
              clear hD hV hB1 hM HE k0 k1 k2 k3 k4 k5
              go_enter Tryz.func10, Tryz.ntmps10
              go_wp2_with fail
              ((with_reducible refine HC.out.mono ?_); rintro e w2 ⟨rfl, hr⟩)
              have HR := Lib.hid hr
              clear hr HC
              go_wp2
              go_ret
              exact IsDeed.of_alloc ⟨rfl, HR.out⟩
            · have q5 : ((call : Int) == 5) = false := by rw [beq_eq_false_iff_ne]; omega
              by_cases k6 : call = 6
              · have p6 : ((call : Int) == 6) = true := by rw [beq_iff_eq]; omega
                have HC := Lib.hid (psync_any hD hf name c1)
                have HE : Hid (Sf.doOp t ⟨call, name, to, at_, bs⟩ = Sf.sync t name) := by unfold Hid Sf.doOp; simp [k6]
                rw [HE.out]
                clear hD hV hB1 hM HE k0 k1 k2 k3 k4 k5 k6
                go_enter Tryz.func10, Tryz.ntmps10
                go_wp2_with fail
                ((with_reducible refine HC.out.mono ?_); rintro e w2 ⟨rfl, hr⟩)
                have HR := Lib.hid hr
                clear hr HC
                go_wp2
                go_ret
                exact IsDeed.of_alloc ⟨rfl, HR.out⟩
              · have q6 : ((call : Int) == 6) = false := by rw [beq_eq_false_iff_ne]; omega
                by_cases k7 : call = 7
                · have p7 : ((call : Int) == 7) = true := by rw [beq_iff_eq]; omega
                  have HC := Lib.hid (psyncDir_any hD hf)
                  have HE : Hid (Sf.doOp t ⟨call, name, to, at_, bs⟩ = Sf.syncDir t) := by unfold Hid Sf.doOp; simp [k7]
                  rw [HE.out]
                  clear hD hV hB1 hM HE k0 k1 k2 k3 k4 k5 k6 k7
                  go_enter Tryz.func10, Tryz.ntmps10
                  go_wp2_with fail
                  ((with_reducible refine HC.out.mono ?_); rintro e w2 ⟨rfl, hr⟩)
                  have HR := Lib.hid hr
                  clear hr HC
                  go_wp2
                  go_ret
                  exact IsDeed.of_alloc ⟨rfl, HR.out⟩
                · have q7 : ((call : Int) == 7) = false := by rw [beq_eq_false_iff_ne]; omega
                  by_cases k8 : call = 8
                  · have p8 : ((call : Int) == 8) = true := by rw [beq_iff_eq]; omega
                    have HC := Lib.hid (parm_any hD at_ c3)
                    have HE : Hid (Sf.doOp t ⟨call, name, to, at_, bs⟩ = Sf.arm t at_) := by unfold Hid Sf.doOp; simp [k8]
                    rw [HE.out]
                    clear hD hV hB1 hM HE k0 k1 k2 k3 k4 k5 k6 k7 k8
                    go_enter Tryz.func10, Tryz.ntmps10
                    go_wp2_with fail
                    ((with_reducible refine HC.out.mono ?_); rintro e w2 ⟨rfl, hr⟩)
                    have HR := Lib.hid hr
                    clear hr HC
                    go_wp2
                    go_ret
                    exact IsDeed.of_alloc ⟨rfl, HR.out⟩
                  · have q8 : ((call : Int) == 8) = false := by rw [beq_eq_false_iff_ne]; omega
                    have HE : Hid (Sf.doOp t ⟨call, name, to, at_, bs⟩ = (0, t)) := by unfold Hid Sf.doOp; simp only [k0, k1, k2, k3, k4, k5, k6, k7, k8, if_false]
                    rw [HE.out]
                    have HD := Lib.hid hD
                    clear hD hV hB1 hM HE
                    go_enter Tryz.func10, Tryz.ntmps10
                    go_wp2
                    go_ret
                    exact IsDeed.of_alloc ⟨rfl, f, HD.out, Fp.Next.refl _ _, Turned.refl _ _⟩
end Go.Proofs.YtmcbjcbnckpfkaaGreat
namespace Go.Proofs.YtmcbjcbnckpfkaaGreat
open Go.RowKit
set_option linter.unusedVariables false
theorem Sf.bulk_more {l : List Sf.Op} {k : Nat} {o : Sf.Op} (h : l[k]? = some o) : Sf.bulk (l.take (k + 1)) = Sf.bulk (l.take k) + min o.b.length 20001 := by
  unfold Sf.bulk
  rw [List.take_add_one, h]
  simp
theorem Sf.bulk_le (l : List Sf.Op) (k : Nat) : Sf.bulk (l.take k) ≤ Sf.bulk l := by
  have h : l = l.take k ++ l.drop k := (List.take_append_drop k l).symm
  have e : Sf.bulk l = Sf.bulk (l.take k) + Sf.bulk (l.drop k) := by
    conv => lhs; rw [h]
    unfold Sf.bulk
    rw [List.map_append, List.sum_append]
  omega
set_option maxHeartbeats 2000000 in
set_option maxRecDepth 100000 in
theorem great_any (v : Value) (B : Nat) (l : List Sf.Op) (w : World) (h : Dv w B v l) (hB : B ≤ w.heap.size) :
    Calls Tryz.prog 8 #[v] w (IsBool (Sf.great l) w) := by
  have H0 := Lib.hid h
  obtain ⟨us, hu1, hu2, hu3⟩ := h
  obtain ⟨A, c, rfl, hc1, hc2, _, _⟩ := hu2
  rw [hu1] at hc1 H0 ⊢
  have hl : l.length ≤ 9223372036854775807 := by simp only [maxLen] at hc2; omega
  clear hu1 hu3 hc1 hc2
  go_enter Tryz.func8, Tryz.ntmps8
  go_wp2
  go_loop [3, 4] (fun nn i => ∃ (k s : Nat), k ≤ l.length ∧ s ≤ 40001 ∧ i = .int .i64 (k : Nat) ∧ nn = .int .i64 (s : Nat) ∧ Hid (s = Sf.bulk (l.take k))) (fun _ i => l.length - (intOf i).toNat)
  case atStart => exact ⟨0, 0, by omega, by omega, rfl, rfl, rfl⟩
  case round =>
    obtain ⟨k, s, hk, hs, rfl, rfl, HS⟩ := hrel
    by_cases hlt : k < l.length
    · have hki : (k : Int) < (l.length : Int) := by omega
      have hk0 : (0 : Int) ≤ (k : Int) := by omega
      have wk : IntKind.i64.wrap ((k : Int) + 1) = (k : Int) + 1 := by rw [IntKind.wrap_i64]; omega
      by_cases hn : s ≤ 20000
      · have hni : (s : Int) ≤ 20000 := by omega
        obtain ⟨b, off, x, o, rfl, hb, hq, _, hxn, hol, hcell⟩ := H0.out.row_ hlt
        rw [hxn] at hcell
        obtain ⟨m, hm⟩ : ∃ m, min o.b.length 20001 = m := ⟨_, rfl⟩
        have hmi : (if (20001 : Int) < (o.b.length : Int) then (20001 : Int) else (o.b.length : Int)) = (m : Int) := by split <;> omega
        have HS2 : Hid (s + m = Sf.bulk (l.take (k + 1))) := by unfold Hid; rw [Sf.bulk_more hq, ← HS.out, hm]
        have ws : IntKind.i64.wrap ((s : Int) + (m : Int)) = (s : Int) + (m : Int) := by rw [IntKind.wrap_i64]; omega
        have hm2 : m ≤ 20001 := by omega
        clear hq hm HS hxn
        go_wp2
        go_round
        case rel => exact ⟨k + 1, s + m, by omega, by omega, by go_num, by go_num, HS2⟩
        case measure => simp [intOf]; omega
      · have hni : ¬ (s : Int) ≤ 20000 := by omega
        have hg : Sf.great l = true := by
          have h1 := Sf.bulk_le l k
          rw [← HS.out] at h1
          unfold Sf.great
          rw [Bool.or_eq_true, decide_eq_true_eq, decide_eq_true_eq]
          omega
        have HG := Lib.hid hg
        have hn2 : (20000 : Int) < (s : Int) := by omega
        clear HS hg
        by_cases h120 : (120 : Int) < (l.length : Int)
        · go_wp2
          go_ret
          exact ⟨congrArg (fun x => Ending.returned (Value.bool x)) HG.out.symm, Below.refl _ _⟩
        · go_wp2
          go_ret
          exact ⟨congrArg (fun x => Ending.returned (Value.bool x)) HG.out.symm, Below.refl _ _⟩
    · have hki : ¬ (k : Int) < (l.length : Int) := by omega
      have hkk : k = l.length := by omega
      have hg : Sf.great l = (decide (120 < l.length) || decide (20000 < s)) := by
        have h1 := HS.out
        rw [hkk, List.take_length] at h1
        unfold Sf.great
        rw [h1]
      have HG := Lib.hid hg
      clear HS hg
      by_cases h120 : (120 : Int) < (l.length : Int)
      · have h1 : 120 < l.length := by omega
        have HT : Hid ((decide (120 < l.length) || decide (20000 < s)) = true) := by unfold Hid; simp [h1]
        clear h1
        go_wp2
        go_ret
        exact ⟨congrArg (fun x => Ending.returned (Value.bool x)) (HG.out.trans HT.out).symm, Below.refl _ _⟩
      · have h1 : ¬ 120 < l.length := by omega
        by_cases h2 : (20000 : Int) < (s : Int)
        · have HT : Hid ((decide (120 < l.length) || decide (20000 < s)) = true) := by unfold Hid; simp [h1]; omega
          clear h1
          go_wp2
          go_ret
          exact ⟨congrArg (fun x => Ending.returned (Value.bool x)) (HG.out.trans HT.out).symm, Below.refl _ _⟩
        · have HT : Hid ((decide (120 < l.length) || decide (20000 < s)) = false) := by unfold Hid; simp [h1]; omega
          clear h1
          go_wp2
          go_ret
          exact ⟨congrArg (fun x => Ending.returned (Value.bool x)) (HG.out.trans HT.out).symm, Below.refl _ _⟩
end Go.Proofs.YtmcbjcbnckpfkaaGreat
