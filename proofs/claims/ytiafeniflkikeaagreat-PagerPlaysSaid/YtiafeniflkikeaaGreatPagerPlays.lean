/-
  PagerPlays: whatever is done to a pager, and whatever room there is, it answers what the document says. Reach: the bytes of an act are at most 140737488351232.
-/
import Derived.Test.YtiafeniflkikeaaGreatPk15
import Derived.Test.YtiafeniflkikeaaGreatPk48
import Derived.Test.YtiafeniflkikeaaGreatPk08
import Derived.Test.YtiafeniflkikeaaGreatPk06
import Derived.Test.YtiafeniflkikeaaGreatPk28
import Derived.Test.YtiafeniflkikeaaGreatPk13
namespace Go.Proofs.YtiafeniflkikeaaGreat.pagerPlays
open Go.ChangeShapes Go.WideShapes Go.ChangeAt Go.RowKit
set_option linter.unusedVariables false
theorem acts_step {a b k : Nat} (h : b ≤ a + 200000) (h2 : a ≤ 1000 + 200000 * k) : b ≤ 1000 + 200000 * (k + 1) := by
 rw [Nat.mul_succ, ← Nat.add_assoc]
 exact Nat.le_trans h (Nat.add_le_add_right h2 _)
set_option maxHeartbeats 2000000 in
set_option maxRecDepth 100000 in
theorem walk (w : World) (a0 : Int) (u0 : (Lit.int .i64 a0).wf = true) (a1 : Int) (u1 : (Lit.int .i64 a1).wf = true) (v2 : Value) (l2 : List Pa.Act) (h2 : Av w w.heap.size v2 l2) (r2 : ∀ o ∈ l2, o.body.length ≤ 140737488351232) :
  Calls Tryz.prog 3 #[.int .i64 a0, .int .i64 a1, v2] w (IsBool true w) := by
 have hI0 := bounds_i64 u0
 have hI1 := bounds_i64 u1
 have hj0 : I64 a0 := by unfold I64; omega
 have hj1 : I64 a1 := by unfold I64; omega
 have HJ1 := Lib.hid hj1
 have HN := Lib.hid (pnew_any a0 hj0 w)
 have hv2 : ∃ A n c, v2 = .slice A n c := by obtain ⟨us, _, h, _⟩ := h2; obtain ⟨A, c, e, _⟩ := h; exact ⟨A, _, c, e⟩
 obtain ⟨A2, n2, c2, rfl⟩ := hv2
 have hl2 := h2.len_
 subst hl2
 have H2 := Lib.hid h2
 have HR2 := Lib.hid r2
 have hz := (zero_of_info pa_zero).1
 obtain ⟨Z, hZ⟩ : ∃ Z, none9 = Z := ⟨_, rfl⟩
 have HZS : Hid (Z.size = 9) := by unfold Hid; rw [← hZ]; rfl
 have HPS : Hid (∀ D : Array Value, D.size = 9 → (Tryz.prog.info? 37).map (·.size) = some D.size) := fun D h => by rw [h]; exact pa_size
 rw [hZ] at hz
 have hms : (ByteArray.mk #[105]).size ≤ maxLen := by decide +kernel
 have HMS := Lib.hid hms
 clear hZ u0 u1 h2 r2 hj0 hms
 by_cases hr : a0 < 0 ∨ 1048576 < a0
 ·simp only [if_pos hr] at HN
  clear hr
  go_enter Tryz.func3, Tryz.ntmps3
  go_wp2_with fail
  refine HN.out.mono ?_
  rintro e w1 ⟨rfl, b1⟩
  have HO := Lib.hid (ppopen_nil (w := w1) ⟨#[105]⟩ a1 HMS.out hj1)
  have HB1 := Lib.hid b1
  clear b1 HN
  go_wp2_with fail
  refine HO.out.mono ?_
  rintro e w2 ⟨rfl, b2⟩
  have HL := Lib.hid (plives_any w2)
  have HB2 := Lib.hid (HB1.out.trans (b2.mono HB1.out.size))
  clear b2 HO HB1
  go_wp2_with fail
  refine HL.out.mono ?_
  rintro e w3 ⟨rfl, b3⟩
  have HB3 := Lib.hid (HB2.out.trans (b3.mono HB2.out.size))
  clear b3 HL HB2
  go_wp2
  go_ret
  exact ⟨rfl, HB3.out⟩
 simp only [if_neg hr] at HN
 by_cases hc : a1 < 0 ∨ 256 < a1
 ·have hways : a1 < 0 ∨ (¬ a1 < 0 ∧ 256 < a1) := by omega
  have HO : Hid (∀ (w : World) (f : Fp) (t : Sf.St) (b : Nat), PDisk w f t b → Calls Tryz.prog 7 #[.pointer (some ⟨b, 0, none⟩), .string ⟨#[105]⟩, .int .i64 a1] w (fun e w' => e = .returned (.tuple #[.pointer none, .int .i64 2]) ∧ Below w.heap.size w w')) := fun w f t b h => by
   have ho : Pp.openE t ⟨#[105]⟩ a1 = (none, 2) := if_pos hc
   refine (ppopen_any ⟨#[105]⟩ a1 h (by decide +kernel) hj1).mono ?_
   rintro e w' ⟨hb, h1 | ⟨s, b', f', h1, _⟩⟩
   ·rw [ho] at h1; exact ⟨h1.2, hb⟩
   ·rw [ho] at h1; cases h1
  clear hr hc
  rcases hways with q0 | ⟨q0, q1⟩
  all_goals
   go_enter Tryz.func3, Tryz.ntmps3
   go_wp2_with fail
   refine HN.out.mono ?_
   rintro e w1 ⟨b0, f0, rfl, hD1, hF1, b1⟩
   have HO1 := Lib.hid (HO.out w1 f0 _ b0 hD1)
   have HB1 := Lib.hid b1
   clear b1 HN hD1 hF1 HO
   go_wp2_with fail
   refine HO1.out.mono ?_
   rintro e w2 ⟨rfl, b2⟩
   have HL := Lib.hid (plives_any w2)
   have HB2 := Lib.hid (HB1.out.trans (b2.mono HB1.out.size))
   clear b2 HO1 HB1
   go_wp2_with fail
   refine HL.out.mono ?_
   rintro e w3 ⟨rfl, b3⟩
   have HB3 := Lib.hid (HB2.out.trans (b3.mono HB2.out.size))
   clear b3 HL HB2
   go_wp2
   go_ret
   exact ⟨rfl, HB3.out⟩
 obtain ⟨n0, rfl⟩ := Int.eq_ofNat_of_zero_le (show 0 ≤ a0 by omega)
 obtain ⟨n1, rfl⟩ := Int.eq_ofNat_of_zero_le (show 0 ≤ a1 by omega)
 simp only [Int.toNat_natCast] at HN
 have q1 : ¬ ((n1 : Nat) : Int) < 0 := by omega
 have q2 : ¬ (256 : Int) < (n1 : Int) := by omega
 have hn0 : n0 ≤ 1048576 := by omega
 have HN0 := Lib.hid hn0
 have HN1 : Hid (n1 ≤ 256) := by unfold Hid; omega
 clear hr hc hI0 hI1 hj1 hn0
 go_enter Tryz.func3, Tryz.ntmps3
 go_wp2_with fail
 refine HN.out.mono ?_
 rintro e w1 ⟨b0, f0, rfl, hD1, hF1, hB1⟩
 have HB1 := Lib.hid hB1
 have HF1 := Lib.hid hF1
 have HMK := Lib.hid (ppmake_any ⟨#[105]⟩ hD1 HMS.out rfl rfl rfl (by decide +kernel) (by show 0 < 64; omega) (by show 0 ≤ _; omega))
 clear hD1 hB1 hF1 HN
 go_wp2_with fail
 refine HMK.out.mono ?_
 rintro e w2 ⟨x2, t2, f2, rfl, hD2, hN2, hT2, hac, hcase⟩
 have hu : Sf.used (Sf.new n0) = 0 := rfl
 have hrm : (Sf.new n0).room = n0 := rfl
 rw [hu, hrm] at hcase
 have HW2 : Hid (Below w.heap.size w w2) := HB1.out.trans (hT2.below HB1.out.size (fun q hq => HF1.out q (.inl hq)))
 rcases hcase with ⟨hc1, rfl⟩ | ⟨hc1, rfl, ht2⟩
 ·have HL := Lib.hid (plives_any w2)
  have q3 : ((n0 : Nat) : Int) < 1024 := by omega
  clear hD2 hN2 hT2 hac hc1 hu hrm HMK q1 q2
  go_wp2_with fail
  refine HL.out.mono ?_
  rintro e w3 ⟨rfl, b3⟩
  have HB3 := Lib.hid (HW2.out.trans (b3.mono HW2.out.size))
  clear b3 HL
  go_wp2
  go_ret
  exact ⟨rfl, HB3.out⟩
 have q3 : ¬ ((n0 : Nat) : Int) < 1024 := by omega
 have e2 : t2 = Pp.tr n0 Pp.made t2.acts := ht2
 obtain ⟨a2, ha2⟩ : ∃ a, t2.acts = a := ⟨_, rfl⟩
 rw [ha2] at e2 hac
 subst e2
 have hop := Pp.open_made (Pp.tr_get n0 Pp.made a2) (Pp.tr_file n0 Pp.made a2) (n1 : Int) (by omega) (by have := HN1.out; omega)
 have HOP := Lib.hid (ppopen_some ⟨#[105]⟩ (n1 : Int) hD2 (by decide +kernel) HJ1.out _ hop)
 rw [Pp.tr_get, Pp.tr_file] at HOP
 have HD2 := Lib.hid hD2
 have HF2 : Hid (f2.From w.heap.size) := hN2.from_ HF1.out HB1.out.size
 have HAC : Hid (a2 ≤ 600) := hac
 clear hD2 hN2 hT2 hac hop hu hrm hc1 HMK
 go_wp2_with fail
 refine HOP.out.mono ?_
 rintro e w3 ⟨b3, b, f3, rfl, hP3, hfr3⟩
 have HW3 : Hid (Below w.heap.size w w3) := HW2.out.trans (b3.mono HW2.out.size)
 have HP3 := Lib.hid hP3
 have HD3 := Lib.hid (pdisk_law.below HD2.out b3)
 have HF3 : Hid (f3.From w2.heap.size) := hfr3
 have HS3 := Lib.hid b3.size
 have HNW := Lib.hid (rpanew_any (fun _ => False) w3)
 clear hP3 hfr3 b3 HOP
 go_wp2_with fail
 refine HNW.out.mono ?_
 rintro e w4 ⟨v4, rfl, hv4, b4⟩
 have hAll : Pp.All w4 f3 f2 ⟨⟨#[105]⟩, Pa.new.root, (n1 : Int).toNat, [], 0⟩ Pp.made (Pp.tr n0 Pp.made a2) 0 b b0 (RX (fun _ => False) w3 w4) v4 Pa.new := by
  have hd2 : f2.Lt w2.heap.size := pdisk_law.lt HD2.out
  have hp3 : f3.Lt w3.heap.size := ppager_lt HP3.out
  have hs3 := HS3.out
  refine ⟨ppager_turned HP3.out (Turned.of_below b4) (hp3.off fun _ h => h), pdisk_law.below HD3.out b4, ⟨HF3.out.off fun q hq => hd2 q (.inl hq), hd2.off fun q hq => HF3.out q (.inl hq)⟩, hv4, ?_, ?_, ?_, Pp.goes_new _ _, ⟨rfl, rfl, Pp.tr_get _ _ _, Pp.tr_file _ _ _, by rw [Pp.tr_used, Pp.made_len]; show 1024 ≤ n0; omega, Pp.tr_nums _ _ _⟩, by simp [Pa.new]⟩
  ·rintro q (hq | hq)
   ·cases hq
   ·exact hq.2
  ·rintro q (hq | hq) hm
   ·cases hq
   ·have := hp3 q (.inl hm); omega
  ·rintro q (hq | hq) hm
   ·cases hq
   ·have := hd2 q (.inl hm); omega
 have hv9 : ∃ D : Array Value, v4 = .agg D ∧ D.size = 9 := by obtain ⟨A, c, e, _⟩ := hv4; exact ⟨_, e, rfl⟩
 obtain ⟨D4, rfl, hD9⟩ := hv9
 have HSD := Lib.hid (HPS.out D4 hD9)
 have HD9 := Lib.hid hD9
 have HZD : Hid (Z.size = D4.size) := by unfold Hid; rw [HZS.out, hD9]
 have HOD : Hid (D4.all (·.oneCell') = true) := by obtain ⟨A, c, e, _⟩ := hv4; unfold Hid; rw [Value.agg.inj e]; exact paC_one _ _ _ _ _
 obtain ⟨X, hX⟩ : ∃ X, (w4.alloc (.cells Z 37)).setRow w4.heap.size D4 = X := ⟨_, rfl⟩
 obtain ⟨hxa, hxb⟩ := bxt_stored hX
 have HAX := Lib.hid (hAll.below hxb)
 have HRX : Hid (Rw X w4.heap.size 37 D4) := hxa.2
 have HWX : Hid (Below w.heap.size w X) := HW3.out.trans ((b4.trans (hxb.mono b4.size)).mono HW3.out.size)
 have HG4 : Hid (¬ RX (fun _ => False) w3 w4 w4.heap.size ∧ (¬ f3.M w4.heap.size ∧ ¬ f3.R w4.heap.size) ∧ (¬ f2.M w4.heap.size ∧ ¬ f2.R w4.heap.size)) := by
  have hp3 : f3.Lt w3.heap.size := ppager_lt HP3.out
  have hd2 : f2.Lt w2.heap.size := pdisk_law.lt HD2.out
  have hs3 := HS3.out
  have hs4 := b4.size
  refine ⟨?_, ⟨fun h => ?_, fun h => ?_⟩, ⟨fun h => ?_, fun h => ?_⟩⟩
  ·rintro (h | h)
   ·cases h
   ·omega
  ·have := hp3 _ (.inl h); omega
  ·have := hp3 _ (.inr h); omega
  ·have := hd2 _ (.inl h); omega
  ·have := hd2 _ (.inr h); omega
 have HFF : Hid (f3.From w.heap.size ∧ f2.From w.heap.size) := ⟨HF3.out.mono HW2.out.size, HF2.out⟩
 have HAL := Lib.hid (palike_any HAX.out.pager _ _ _ (n1 : Int) HAX.out.ref HAX.out.few ⟨HAX.out.goes.root, HAX.out.goes.l⟩ (by simp) HJ1.out)
 have HSX : Hid (w4.heap.size < X.heap.size) := HRX.out.lt
 have HGW : Hid (w.heap.size ≤ w4.heap.size) := Nat.le_trans HW3.out.size b4.size
 clear hAll hv4 b4 hD9 hxa hxb HNW HP3 HD3 HD2 HF3 HF2 HS3
 go_wp2_with (first
  | (refine wpList_store_row rfl _ _ _ rfl w4.heap.size D4 rfl rfl 37 Z (Rw.new w4 _ _) HSD.out HZD.out HOD.out ?_; rw [hX])
  | (refine wpList_load_row_onT (by rfl) _ _ rfl w4.heap.size rfl 37 D4 (0, 0) _ HRX.out Tryz.underlying37 rfl HSD.out ?_))
 refine HAL.out.mono ?_
 rintro e x1 ⟨rfl, bx1⟩
 obtain ⟨g, hg⟩ : ∃ g, w4.heap.size = g := ⟨_, rfl⟩
 have HA5 := Lib.hid (HAX.out.below bx1)
 have HR5 : Hid (Rw x1 w4.heap.size 37 D4) := HRX.out.below bx1 HSX.out
 have HW5 : Hid (Below w.heap.size w x1) := HWX.out.trans (bx1.mono HWX.out.size)
 have HT5 : Hid ((Pp.tr n0 Pp.made a2).room = n0 ∧ Pp.cost ⟨⟨#[105]⟩, Pa.new.root, (n1 : Int).toNat, [], 0⟩ (Pp.tr n0 Pp.made a2) ≤ 600) := ⟨rfl, by have := HAC.out; show max a2 0 ≤ 600; omega⟩
 obtain ⟨tt, htt⟩ : ∃ t, Pp.tr n0 Pp.made a2 = t := ⟨_, rfl⟩
 rw [htt] at HA5 HT5
 rw [hg] at HR5 HG4 ⊢
 rw [hg] at HGW
 clear bx1 HAL hX HRX HAX HWX HSX htt hg HAC HF1 HB1 HW2 HW3 HSD HZD HOD
 go_wp2
 go_loopw [11, 14] (fun p i wr => ∃ (k b : Nat) (fp fd : Fp) (s : Pp.S) (F : List Nat) (t : Sf.St) (kf : Nat) (R : Nat → Prop) (v : Value) (m : Pa.M) (D : Array Value), k ≤ 60 ∧ p = .pointer (some ⟨b, 0, none⟩) ∧ i = .int .i64 (k : Nat) ∧
   Hid (Pp.All wr fp fd s F t kf b b0 R v m) ∧ Hid (v = .agg D ∧ D.size = 9) ∧ Hid (Rw wr g 37 D) ∧ Hid (¬ R g ∧ (¬ fp.M g ∧ ¬ fp.R g) ∧ (¬ fd.M g ∧ ¬ fd.R g)) ∧ Hid (fp.From w.heap.size ∧ fd.From w.heap.size) ∧
   Hid (s.name = ⟨#[105]⟩ ∧ (s.cache : Int) ≤ (n1 : Int) ∧ t.room = n0 ∧ Pp.cost s t ≤ 1000 + 200000 * k ∧ 1024 ≤ m.size) ∧ Hid (Below w.heap.size w wr)) (fun _ i _ => 60 - (intOf i).toNat)
 case atStart => exact ⟨0, b, f3, f2, _, _, tt, 0, _, _, Pa.new, D4, by omega, rfl, rfl, HA5.out, ⟨rfl, HD9.out⟩, HR5.out, HG4.out, HFF.out, ⟨rfl, by simp, HT5.out.1, by have := HT5.out.2; omega, by decide⟩, HW5.out⟩
 case round =>
  obtain ⟨k, b, fp, fd, s, F, t, kf, R, v, m, D, hk, rfl, rfl, HA, HV, HR, HG, HFr, HI, HB⟩ := hrel
  clear HA5 HR5 HG4 HFF HT5 HW5
  obtain ⟨hv1, hv2⟩ := HV.out
  subst hv1
  have HSD := Lib.hid (HPS.out D hv2)
  have HDS := Lib.hid hv2
  clear hv2 HV
  have HGL : Hid (g < wr.heap.size) := HR.out.lt
  have wk : IntKind.i64.wrap ((k : Int) + 1) = (k : Int) + 1 := by rw [IntKind.wrap_i64]; omega
  by_cases hlt : k < l2.length
  rotate_left
  ·have j1 : ¬ (k : Int) < (l2.length : Int) := by omega
   have HL := Lib.hid (plives_any wr)
   clear HA HR HG HFr HI wk
   go_wp2_with fail
   refine HL.out.mono ?_
   rintro e y1 ⟨rfl, by1⟩
   have HBy := Lib.hid (HB.out.trans (by1.mono HB.out.size))
   clear by1 HL HB
   go_wp2
   go_ret
   exact ⟨rfl, HBy.out⟩
  have j1 : (k : Int) < (l2.length : Int) := by omega
  have j0 : (0 : Int) ≤ (k : Int) := by omega
  by_cases h60 : k < 60
  rotate_left
  ·have j2 : ¬ (k : Int) < 60 := by omega
   have HL := Lib.hid (plives_any wr)
   clear HA HR HG HFr HI wk
   go_wp2_with fail
   refine HL.out.mono ?_
   rintro e y1 ⟨rfl, by1⟩
   have HBy := Lib.hid (HB.out.trans (by1.mono HB.out.size))
   clear by1 HL HB
   go_wp2
   go_ret
   exact ⟨rfl, HBy.out⟩
  have j2 : (k : Int) < 60 := by omega
  have HK6 := Lib.hid h60
  obtain ⟨bo, off, x, a, rfl, hbo, hraw, hq, hao, hrg⟩ := H2.out.at_ hlt
  have RGx : Hid (∀ w', Below w.heap.size w w' → w'.rangeAt bo (off + k * 12) (actC x).toList) := fun w' hb' j u hj => (hb'.cell (p := ⟨bo, off + k * 12 + j, none⟩) (by show bo < _; omega)).trans (hrg j u hj)
  have HRW := Lib.hid hraw
  have HAO := Lib.hid hao
  have HBL : Hid (a.body.length ≤ 140737488351232) := HR2.out a (List.mem_of_getElem? hq)
  have d0 : wr.cell? ⟨bo, off + k * 12, none⟩ = some (.int .i64 x.do_) := RGx.out wr HB.out 0 _ rfl
  have HDO : Hid (a.do_ = x.do_) := hao.1
  clear hraw hao hrg hq hbo h60 hlt
  by_cases h5 : x.do_ = 5
  ·have q5 : (x.do_ == 5) = true := by rw [beq_iff_eq]; exact h5
   have hop := HA.out.openE HI.out.2.2.2.2 (cache := (n1 : Int)) (by omega) (by have := HN1.out; omega)
   rw [HI.out.1] at hop
   have hgb := HA.out.goes.back
   have HAG := Lib.hid (pagain_any HA.out.disk R (.agg D) m (n1 : Int) HA.out.ref HA.out.old HA.out.few HJ1.out _ hop ⟨rfl, rfl⟩ hgb.ok.rise (fun y hy => ⟨(hgb.ok.from2 y hy).1, hgb.less y hy (by
    obtain ⟨z, _, rfl⟩ := List.mem_map.1 hy
    show (1 : Nat) ≠ 2
    decide)⟩))
   clear hop hgb h5
   go_wp2_with (first
    | (refine wpList_load_row rfl _ _ rfl g rfl 37 D (0, 0) _ HR.out Tryz.underlying37 rfl HSD.out ?_))
   refine HAG.out.mono ?_
   rintro e w5 ⟨v5, b5, f5, s5, n5, rfl, hv5, hp5, hi5, hn5, hc5, hf5, hm1, hm2, hb5⟩
   have hget : Sf.get t ⟨#[105]⟩ = (kf, 0) := by rw [← HI.out.1]; exact HA.out.well.get
   rw [hget, HA.out.well.file] at hp5
   have hA5 := HA.out.again hv5 hp5 hi5 (hn5.trans HI.out.1.symm) hf5 hm1 hm2 hb5
   have hC5 : ∃ C : Array Value, v5 = .agg C ∧ C.size = 9 ∧ C.all (·.oneCell') = true ∧ C[8]? = some (.int .i64 ((Pa.back m).size : Nat)) := by obtain ⟨A, c, e, _⟩ := hv5; exact ⟨_, e, rfl, paC_one _ _ _ _ _, rfl⟩
   obtain ⟨C, rfl, hC9, hCO, hC8⟩ := hC5
   have HR5 : Hid (Rw w5 g 37 D) := HR.out.below hb5 HGL.out
   obtain ⟨Y, hY⟩ : ∃ Y, w5.setRow g C = Y := ⟨_, rfl⟩
   have hty : Turned (fun q => q = g) w5 Y := by rw [← hY]; exact (Turned.refl (fun q => q = g) _).setRow (fun _ => rfl) _
   have hgf : (¬ f5.M g ∧ ¬ f5.R g) := ⟨fun h => by have := hf5 g (.inl h); have := HGL.out; omega, fun h => by have := hf5 g (.inr h); have := HGL.out; omega⟩
   have hgr : ¬ (R g ∨ (wr.heap.size ≤ g ∧ g < n5)) := by
    rintro (h | h)
    ·exact HG.out.1 h
    ·have := HGL.out; omega
   have HAY := Lib.hid (hA5.turn hty hgf HG.out.2.2 hgr)
   have HRY : Hid (Rw Y g 37 C) := by unfold Hid; rw [← hY]; exact HR5.out.row C
   have HWY : Hid (Below w.heap.size w Y) := (HB.out.trans (hb5.mono HB.out.size)).trans (hty.below (Nat.le_trans HB.out.size hb5.size) (fun q hq => by rw [hq]; exact HGW.out))
   have HGY : Hid (¬ (R g ∨ (wr.heap.size ≤ g ∧ g < n5)) ∧ (¬ f5.M g ∧ ¬ f5.R g) ∧ (¬ fd.M g ∧ ¬ fd.R g)) := ⟨hgr, hgf, HG.out.2.2⟩
   have HFY : Hid (f5.From w.heap.size ∧ fd.From w.heap.size) := ⟨hf5.mono (Nat.le_trans HB.out.size hm1), HFr.out.2⟩
   have HIY : Hid (s5.name = ⟨#[105]⟩ ∧ (s5.cache : Int) ≤ (n1 : Int) ∧ t.room = n0 ∧ Pp.cost s5 t ≤ 1000 + 200000 * (k + 1) ∧ 1024 ≤ (Pa.back m).size) := ⟨hn5, by rw [hc5.1]; simp, HI.out.2.2.1, acts_step (a := Pp.cost s t) (by have h0 : s5.turns = 0 := hc5.2; unfold Pp.cost; omega) HI.out.2.2.2.1, HI.out.2.2.2.2⟩
   have HSC := Lib.hid (HPS.out C hC9)
   have HOC := Lib.hid hCO
   have HC9 := Lib.hid hC9
   have HC8 := Lib.hid hC8
   have HZC : Hid (D.size = C.size) := by unfold Hid; rw [HDS.out, hC9]
   clear hv5 hp5 hi5 hn5 hc5 hf5 hm1 hm2 hb5 hA5 hty hgf hgr hget hC9 hCO hC8 HA HR HG HFr HI HB HAG
   have HAK := Lib.hid (palike_any HAY.out.pager _ _ _ (n1 : Int) HAY.out.ref HAY.out.few ⟨HAY.out.goes.root, HAY.out.goes.l⟩ HIY.out.2.1 HJ1.out)
   have HGZ : Hid (g < Y.heap.size) := HRY.out.lt
   go_wp2_with (first
    | (refine wpList_store_row rfl _ _ _ rfl g C rfl rfl 37 D HR5.out HSC.out HZC.out HOC.out ?_; rw [hY])
    | (refine wpList_load_row_onT (by rfl) _ _ rfl g rfl 37 C (0, 0) _ HRY.out Tryz.underlying37 rfl HSC.out ?_))
   refine HAK.out.mono ?_
   rintro e w6 ⟨rfl, b6⟩
   have HA6 := Lib.hid (HAY.out.below b6)
   have HR6 : Hid (Rw w6 g 37 C) := HRY.out.below b6 HGZ.out
   have HW6 : Hid (Below w.heap.size w w6) := HWY.out.trans (b6.mono HWY.out.size)
   have HSZ := Lib.hid (psizeOf_any HA6.out.disk ⟨#[105]⟩ HMS.out)
   have hsz : Sf.size t ⟨#[105]⟩ = (((Pa.back m)).size, 0) := by
    have hg2 : Sf.get t ⟨#[105]⟩ = (kf, 0) := by rw [← HIY.out.1]; exact HA6.out.well.get
    unfold Sf.size Sf.len
    rw [hg2, if_neg (by simp)]
    simp only [HA6.out.well.file, HA6.out.goes.size]
   rw [hsz] at HSZ
   have HG6 : Hid (g < w6.heap.size) := HR6.out.lt
   clear b6 HAK HAY HRY HWY hsz HGZ
   go_wp2_with fail
   refine HSZ.out.mono ?_
   rintro e w7 ⟨rfl, b7⟩
   have HA7 := Lib.hid (HA6.out.below b7)
   have HR7 : Hid (Rw w7 g 37 C) := HR6.out.below b7 HG6.out
   have HW7 : Hid (Below w.heap.size w w7) := HW6.out.trans (b7.mono HW6.out.size)
   have c8 : w7.cell? ⟨g, 8, none⟩ = some (.int .i64 (((Pa.back m)).size : Nat)) := (HR7.out.cell 8).trans HC8.out
   have qq : (((((Pa.back m)).size : Nat) : Int) != ((((Pa.back m)).size : Nat) : Int)) = false := by simp
   clear b7 HSZ HA6 HR6 HW6 HG6 d0
   go_wp2
   go_roundw
   case rel => exact ⟨k + 1, _, f5, fd, s5, F, t, kf, _, _, _, C, by have := HK6.out; omega, rfl, by go_num, HA7.out, ⟨rfl, HC9.out⟩, HR7.out, HGY.out, HFY.out, HIY.out, HW7.out⟩
   case measure => simp [intOf]; have := HK6.out; omega
  ·have q5 : (x.do_ == 5) = false := by rw [beq_eq_false_iff_ne]; exact h5
   have hub := pused_bound HA.out.disk
   have HUS := Lib.hid (fun (w' : World) (h : Below wr.heap.size wr w') => pused_any (pdisk_law.below HA.out.disk h))
   have hI3 : t.room = n0 := HI.out.2.2.1
   obtain ⟨fr, hfr⟩ : ∃ fr : Int, (n0 : Int) - ((Sf.used t : Nat) : Int) = fr := ⟨_, rfl⟩
   have hfw : IntKind.i64.wrap fr = fr := by rw [IntKind.wrap_i64]; have := HN0.out; omega
   have HFW := Lib.hid hfw
   have HFRE := Lib.hid hfr
   have HST : Hid (∀ w', Below wr.heap.size wr w' → Calls Tryz.prog 13 #[.pointer (some ⟨b, 0, none⟩), .agg D, .agg (actC x), .int .i64 fr] w' (IsStep R fp fd s t kf b b0 (Pa.stepM m a fr) w')) := fun w' hb =>
    pstep_any (HA.out.below hb) x a fr HRW.out ((HAO.out.below_ HB.out (Nat.le_refl _)).below_ (hb.mono HB.out.size) (Nat.le_refl _)) (Nat.le_trans HB.out.size hb.size) (fun q hq hm => by have := HFr.out.1 q (.inl hm); omega) HBL.out (by rw [hI3, ← hfr]) (by unfold I64; have := HN0.out; omega) (by have := HI.out.2.2.2.1; omega)
   have hSM := Pa.stepM_size m a fr
   have HSM := Lib.hid hSM
   obtain ⟨m1, hm1⟩ : ∃ m', Pa.stepM m a fr = m' := ⟨_, rfl⟩
   rw [hm1] at HST HSM
   obtain ⟨E, hE⟩ : ∃ E, actC x = E := ⟨_, rfl⟩
   rw [hE] at HST
   have HSE : Hid ((Tryz.prog.info? 42).map (·.size) = some E.size) := by unfold Hid; rw [← hE]; kernel_rfl
   have HEE := Lib.hid hE
   clear hub hI3 hfr hfw hSM hm1 hE h5
   go_wp2
   have hW0 : Below wr.heap.size wr wr.drew := (Below.refl _ _).drew
   have RGE : Hid (∀ w', Below w.heap.size w w' → w'.rangeAt bo (off + k * 12) E.toList) := fun w' h => by rw [← HEE.out]; exact RGx.out w' h
   have hS0 : Rw wr.drew g 37 D ∧ wr.drew.rangeAt bo (off + k * 12) E.toList := ⟨HR.out.drew, RGE.out _ HB.out.drew⟩
   refine wp_region_m (fun w' => Rw w' g 37 D ∧ w'.rangeAt bo (off + k * 12) E.toList) 12 (by kernel_rfl) ?_
   refine zM (i := 0) (v := ?_) rfl (by kernel_rfl) (fun _ _ _ h => h) hS0 (Or.inl ⟨by rfl, (by intro w' hSw; go_simp; first | done | with_reducible rfl)⟩) ?_
   try simp only [Act.put, zA, zC, zD, zE, zF]
   refine zM (i := 1) (v := .agg D) rfl (by kernel_rfl) (fun _ _ _ h => h) hS0 (Or.inl ⟨by rfl, fun w' hSw => exec_load_row _ _ rfl g rfl 37 D (0, 0) _ w' hSw.1 Tryz.underlying37 rfl HSD.out⟩) ?_
   try simp only [Act.put, zA, zB, zC, zD, zE, zF]
   refine zM (i := 2) (v := ?_) rfl (by kernel_rfl) (fun _ _ _ h => h) hS0 (Or.inl ⟨by rfl, (by intro w' hSw; go_simp; first | done | with_reducible rfl)⟩) ?_
   try simp only [Act.put, zA, zB, zC, zD, zE, zF]
   refine zM (i := 3) (v := ?_) rfl (by kernel_rfl) (fun _ _ _ h => h) hS0 (Or.inl ⟨by rfl, (by intro w' hSw; go_simp; first | done | with_reducible rfl)⟩) ?_
   try simp only [Act.put, zA, zB, zC, zD, zE, zF]
   refine zM (i := 4) (v := ?_) rfl (by kernel_rfl) (fun _ _ _ h => h) hS0 (Or.inl ⟨by rfl, (by intro w' hSw; go_simp; first | done | with_reducible rfl)⟩) ?_
   try simp only [Act.put, zA, zB, zC, zD, zE, zF]
   refine zM (i := 5) (v := .agg E) rfl (by kernel_rfl) (fun _ _ _ h => h) hS0 (Or.inl ⟨by rfl, fun w' hSw => exec_load_mid _ _ rfl bo (off + k * 12) rfl E _ w' hSw.2 Tryz.underlying42 rfl HSE.out⟩) ?_
   try simp only [Act.put, zA, zB, zC, zD, zE, zF]
   refine zM (i := 6) (v := ?_) rfl (by kernel_rfl) (fun _ _ _ h => h) hS0 (Or.inl ⟨by rfl, (by intro w' hSw; go_simp; first | done | with_reducible rfl)⟩) ?_
   try simp only [Act.put, zA, zB, zC, zD, zE, zF]
   refine zM (i := 7) (v := ?_) rfl (by kernel_rfl) (fun _ _ _ h => h) hS0 (Or.inl ⟨by rfl, (by intro w' hSw; go_simp; first | done | with_reducible rfl)⟩) ?_
   try simp only [Act.put, zA, zB, zC, zD, zE, zF]
   refine wpAnyM_next (i := 8) (by kernel_rfl) rfl (fun K hK => ?_)
   go_simp
   refine (HUS.out _ hW0).mono ?_
   rintro e y1 ⟨rfl, by1⟩
   have hW1 : Below wr.heap.size wr y1 := hW0.trans (by1.mono hW0.size)
   have hS1 : Rw y1 g 37 D ∧ y1.rangeAt bo (off + k * 12) E.toList := ⟨HR.out.below hW1 HGL.out, RGE.out _ (HB.out.trans (hW1.mono HB.out.size))⟩
   refine hK.out _ _ (.inr hS1) ?_
   clear hK K hS0 by1 hW0
   try simp only [Act.put, zA, zB, zC, zD, zE, zF]
   have hfr := HFRE.out
   have hfw := HFW.out
   refine zM (i := 9) (v := ?_) rfl (by kernel_rfl) (fun _ _ _ h => h) hS1 (Or.inl ⟨by rfl, (by intro w' hSw; go_simp; first | done | with_reducible rfl)⟩) ?_
   try simp only [Act.put, zA, zB, zC, zD, zE, zF]
   clear hfr hfw
   refine wpAnyM_next (i := 10) (by kernel_rfl) rfl (fun K hK => ?_)
   go_simp
   refine (HST.out _ hW1).mono ?_
   rintro e y2 ⟨v5, R5, s5, F5, t5, f5, d5, rfl, hA5, hn5, hc5, hN5, hM5, hT5, hro, hac, hR5⟩
   have hs1 := hW1.size
   have hC5 : ∃ C : Array Value, v5 = .agg C ∧ C.size = 9 ∧ C.all (·.oneCell') = true ∧ C[8]? = some (.int .i64 (m1.size : Nat)) := by obtain ⟨A, c, e, _⟩ := hA5.ref; exact ⟨_, e, rfl, paC_one _ _ _ _ _, rfl⟩
   obtain ⟨C, rfl, hC9, hCO, hC8⟩ := hC5
   have hgl := HGL.out
   have HR5 : Hid (Rw y2 g 37 D) := (hT5.block g (by omega) (by rintro (h | h); exact HG.out.2.1.1 h; exact HG.out.2.2.1 h)).trans (HR.out.below hW1 HGL.out)
   obtain ⟨Y, hY⟩ : ∃ Y, y2.setRow g C = Y := ⟨_, rfl⟩
   have hty : Turned (fun q => q = g) y2 Y := by rw [← hY]; exact (Turned.refl (fun q => q = g) _).setRow (fun _ => rfl) _
   have hgf : (¬ f5.M g ∧ ¬ f5.R g) := ⟨fun h => (hN5.m g h).elim HG.out.2.1.1 (fun h => by omega), fun h => (hN5.r g h).elim HG.out.2.1.2 (fun h => by omega)⟩
   have hgd : (¬ d5.M g ∧ ¬ d5.R g) := ⟨fun h => (hM5.m g h).elim HG.out.2.2.1 (fun h => by omega), fun h => (hM5.r g h).elim HG.out.2.2.2 (fun h => by omega)⟩
   have hgr : ¬ R5 g := fun h => (hR5 g h).elim HG.out.1 (fun h => by omega)
   have HAY := Lib.hid (hA5.turn hty hgf hgd hgr)
   have HRY : Hid (Rw Y g 37 C) := by unfold Hid; rw [← hY]; exact HR5.out.row C
   have hb1 : Below w.heap.size w y1 := HB.out.trans (hW1.mono HB.out.size)
   have hb2 : Below w.heap.size w y2 := hb1.trans (hT5.below hb1.size (fun q hq => hq.elim (fun h => HFr.out.1 q (.inl h)) (fun h => HFr.out.2 q (.inl h))))
   have hS2 : Rw y2 g 37 D ∧ y2.rangeAt bo (off + k * 12) E.toList := ⟨HR5.out, RGE.out _ hb2⟩
   have HWY : Hid (Below w.heap.size w Y) := hb2.trans (hty.below hb2.size (fun q hq => by rw [hq]; exact HGW.out))
   have HGY : Hid (¬ R5 g ∧ (¬ f5.M g ∧ ¬ f5.R g) ∧ (¬ d5.M g ∧ ¬ d5.R g)) := ⟨hgr, hgf, hgd⟩
   have HFY : Hid (f5.From w.heap.size ∧ d5.From w.heap.size) := ⟨hN5.from_ HFr.out.1 hb1.size, hM5.from_ HFr.out.2 hb1.size⟩
   have HIY : Hid (s5.name = ⟨#[105]⟩ ∧ (s5.cache : Int) ≤ (n1 : Int) ∧ t5.room = n0 ∧ Pp.cost s5 t5 ≤ 1000 + 200000 * (k + 1) ∧ 1024 ≤ m1.size) := ⟨hn5.trans HI.out.1, by rw [hc5]; exact HI.out.2.1, hro.trans HI.out.2.2.1, acts_step hac HI.out.2.2.2.1, Nat.le_trans HI.out.2.2.2.2 HSM.out⟩
   have HSC := Lib.hid (HPS.out C hC9)
   have HOC := Lib.hid hCO
   have HC9 := Lib.hid hC9
   have HC8 := Lib.hid hC8
   have HZC : Hid (D.size = C.size) := by unfold Hid; rw [HDS.out, hC9]
   clear hA5 hn5 hc5 hN5 hM5 hT5 hro hac hR5 hs1 hC9 hCO hC8 hgl hty hgf hgd hgr hb1 hb2 hS1 hW1 HA HR HG HFr HI HB HUS HST HSM
   refine hK.out _ _ (.inr hS2) ?_
   clear hK K
   try simp only [Act.put, zA, zB, zC, zD, zE, zF]
   refine zM (i := 11) (v := ?_) rfl (by kernel_rfl) (fun _ _ _ h => h) hS2 (Or.inl ⟨by rfl, (by intro w' hSw; go_simp; first | done | with_reducible rfl)⟩) ?_
   try simp only [Act.put, zA, zB, zC, zD, zE, zF]
   refine wpAnyM_takeL (i := 12) (v := ?_) rfl (by kernel_rfl) (by kernel_rfl) (by kernel_rfl) (by omega) (fun _ _ _ h => h) (Or.inl ⟨by rfl, (by intro w' hSw; go_simp; first | done | with_reducible rfl)⟩) ?_
   try simp only [Act.put, zA, zB, zC, zD, zE, zF]
   refine wpAnyM_takeL (i := 13) (v := ?_) rfl (by kernel_rfl) (by kernel_rfl) (by kernel_rfl) (by omega) (fun _ _ _ h => h) (Or.inl ⟨by rfl, (by intro w' hSw; go_simp; first | done | with_reducible rfl)⟩) ?_
   try simp only [Act.put, zA, zB, zC, zD, zE, zF]
   refine wpAnyM_next (i := 14) (by kernel_rfl) rfl (fun K hK => ?_)
   rw [if_pos (by rfl)]
   refine wp_store_row 37 (.tmp 13) (.tmp 109) rfl g C rfl rfl 37 D HR5.out HSC.out HZC.out HOC.out ?_
   rw [hY]
   refine hK.out _ _ (.inl (by omega)) ?_
   clear hK K
   try simp only [Act.put, zA, zB, zC]
   refine wpAnyM_next (i := 15) (by kernel_rfl) rfl (fun K hK => ?_)
   go_simp
   refine hK.out _ _ (.inl (by omega)) ?_
   clear hK K
   try simp only [Act.put, zA, zB, zC, zD, zE, zF]
   refine wpAnyM_done (by kernel_rfl) ?_ _
   have HAK := Lib.hid (palike_any HAY.out.pager _ _ _ (n1 : Int) HAY.out.ref HAY.out.few ⟨HAY.out.goes.root, HAY.out.goes.l⟩ HIY.out.2.1 HJ1.out)
   have HGZ : Hid (g < Y.heap.size) := HRY.out.lt
   clear hY
   go_wp2_with (first
    | (refine wpList_load_row_onT (by rfl) _ _ rfl g rfl 37 C (0, 0) _ HRY.out Tryz.underlying37 rfl HSC.out ?_))
   refine HAK.out.mono ?_
   rintro e w6 ⟨rfl, b6⟩
   have HA6 := Lib.hid (HAY.out.below b6)
   have HR6 : Hid (Rw w6 g 37 C) := HRY.out.below b6 HGZ.out
   have HW6 : Hid (Below w.heap.size w w6) := HWY.out.trans (b6.mono HWY.out.size)
   have HSZ := Lib.hid (psizeOf_any HA6.out.disk ⟨#[105]⟩ HMS.out)
   have hsz : Sf.size t5 ⟨#[105]⟩ = ((m1).size, 0) := by
    have hg2 : Sf.get t5 ⟨#[105]⟩ = (kf, 0) := by rw [← HIY.out.1]; exact HA6.out.well.get
    unfold Sf.size Sf.len
    rw [hg2, if_neg (by simp)]
    simp only [HA6.out.well.file, HA6.out.goes.size]
   rw [hsz] at HSZ
   have HG6 : Hid (g < w6.heap.size) := HR6.out.lt
   clear b6 HAK HAY HRY HWY hsz HGZ
   go_wp2_with fail
   refine HSZ.out.mono ?_
   rintro e w7 ⟨rfl, b7⟩
   have HA7 := Lib.hid (HA6.out.below b7)
   have HR7 : Hid (Rw w7 g 37 C) := HR6.out.below b7 HG6.out
   have HW7 : Hid (Below w.heap.size w w7) := HW6.out.trans (b7.mono HW6.out.size)
   have c8 : w7.cell? ⟨g, 8, none⟩ = some (.int .i64 ((m1).size : Nat)) := (HR7.out.cell 8).trans HC8.out
   have qq : ((((m1).size : Nat) : Int) != (((m1).size : Nat) : Int)) = false := by simp
   clear b7 HSZ HA6 HR6 HW6 HG6 d0
   go_wp2
   go_roundw
   case rel => exact ⟨k + 1, _, f5, d5, s5, F5, t5, kf, _, _, _, C, by have := HK6.out; omega, rfl, by go_num, HA7.out, ⟨rfl, HC9.out⟩, HR7.out, HGY.out, HFY.out, HIY.out, HW7.out⟩
   case measure => simp [intOf]; have := HK6.out; omega
set_option maxRecDepth 100000 in
theorem lifted (os : Os) (started : os.Started) (H : Type) (enc : TypeId × Value → H) :
  ReturnsInHanded {} Tryz.checked os 3 .any (Rows.pagerPlaysSpec.pre6 enc Tryz.prog Tryz.f3 Rows.pagerPlaysRow.domain false) (Rows.pagerPlaysSpec.post enc Tryz.prog Tryz.f3 false true false false) := by
 refine returnsInHanded_of_change_sized (C := Tryz.checked) own started (by kernel_rfl) Tryz.func3
  (ChangeSpec.witness6 (enc := enc) (C := Tryz.checked) false ⟨#[], #[.int .i64 0, .int .i64 0, .slice none 0 0], []⟩ 8 (by kernel_rfl) (by kernel_rfl) (by kernel_rfl) (by kernel_rfl)) ?_
 intro W base args ds gs before hval0 hW hcnd hreach _
 have hval : ∀ (j : Nat) t v, Tryz.f3.params[j]? = some t → args[j]? = some v → Value.okWide Tryz.prog W .any base t v := hval0
 have hW' := hW
 obtain ⟨p, q, hA0, hV, rfl, hfz, hnd⟩ := hW
 have hA : DataW.TrodAll enc Tryz.prog W 0 (fun _ => true) true Tryz.f3.params.toList args.toList ds p := hA0
 rw [Tryz.params3] at hA hval
 obtain ⟨v0, vs0, d0, ds0, p0, q0, hargs, rfl, rfl, h0, r0⟩ := trodAll_cons hA
 obtain ⟨v1, vs1, d1, ds1, p1, q1, rfl, rfl, rfl, h1, r1⟩ := trodAll_cons r0
 obtain ⟨v2, vs2, d2, ds2, p2, q2, rfl, rfl, rfl, h2, r2⟩ := trodAll_cons r1
 obtain ⟨rfl, rfl, rfl⟩ := trodAll_nil r2
 obtain rfl : args = #[v0, v1, v2] := by cases args; simp_all
 obtain ⟨rfl, rfl⟩ := trodVars_none hV
 obtain ⟨a0, rfl, rfl, rfl, w0⟩ := open_int Tryz.underlying3 (hval 0 3 v0 rfl rfl) h0
 obtain ⟨a1, rfl, rfl, rfl, w1⟩ := open_int Tryz.underlying3 (hval 1 3 v1 rfl rfl) h1
 obtain ⟨a2, len2, cap2, rfl⟩ := okWide_slice Tryz.underlying22 (hval 2 22 v2 rfl rfl)
 have k2 := h2
 have lt2 : ∀ x ∈ p2, x.block < W.heap.size := by obtain ⟨m, hm⟩ := k2; exact DataW.trod_lt m _ _ _ hm
 obtain ⟨l2, len_2, hb2, sz2⟩ : ∃ l : List Pa.Act, l.length = len2 ∧ Av W W.heap.size (.slice a2 len2 cap2) l ∧ ((∀ n ∈ DataW.weights Tryz.prog 22 d2, n ≤ reachBytes) → ∀ o ∈ l, o.body.length ≤ reachBytes) := by
  obtain ⟨fuel, hf⟩ := h2
  exact acts_inS hf
 have reach2 : ∀ o ∈ l2, o.body.length ≤ 140737488351232 := sz2 (fun n hn => by simpa using List.all_eq_true.1 hreach n (DataW.weights_mem_each (j := 2) rfl rfl n hn))
 clear hA0 hval0
 refine (walk W a0 w0 a1 w1 (.slice a2 len2 cap2) l2 hb2 reach2).mono fun e W' ⟨he, bel⟩ => ?_
 subst he
 exact ⟨_, rfl, _, _, _, [], _, [], hW', trodAll_mk1 (shut_bool Tryz.underlying4 _), (trodAll_cons_mk (shut_int Tryz.underlying3 w0) (trodAll_cons_mk (shut_int Tryz.underlying3 w1) (trodAll_cons_mk (Below.trod laidOut (by kernel_rfl) (of_decide_eq_true (by kernel_rfl)) k2 bel lt2) trodAll_mk0))), rfl, bel.frame _, fun h => by cases h⟩
theorem proved : Rows.PagerPlaysSaid :=
 OpenClaim.holds_of_wide 3 Tryz.f3 rfl rfl rfl rfl rfl rfl rfl ⟨rfl, rfl, rfl, rfl, rfl⟩ rfl rfl rfl rfl rfl (by kernel_rfl) Tryz.func3 (by kernel_rfl)
  (of_decide_eq_true (by kernel_rfl)) (by unfold Func.isWrapper; first | (rw [if_pos (by decide +kernel)]; kernel_rfl) | (rw [if_neg (by decide +kernel)]; exact ⟨rfl, rfl⟩))
  (fun os started H enc _ => lifted os started H enc)
end Go.Proofs.YtiafeniflkikeaaGreat.pagerPlays
