/-
  PageBack: what is put is got; with up to four bytes that stand side by side changed it is none; nor are noughts. No condition.
-/
import Derived.Test.YtdmomnpmicagcaaFrameA
import Derived.Test.YtdmomnpmicagcaaCFrame
import Derived.Test.YtdmomnpmicagcaaFrameB
import Derived.Test.YtdmomnpmicagcaaPgLaw
import Derived.Test.YtdmomnpmicagcaaBvLv
import Derived.Test.YtdmomnpmicagcaaPgMathB
import Derived.Test.YtdmomnpmicagcaaArBox
import Derived.Test.YtdmomnpmicagcaaEq4
import Derived.Test.YtdmomnpmicagcaaSet
import Derived.StillTailTactics
namespace Go.Proofs.Ytdmomnpmicagcaa.pageBack
open Go.ChangeShapes Go.WideShapes Go.ChangeAt Go.RowKit
open Go.ChangeMaps (open_string shut_string)
set_option linter.unusedVariables false

set_option maxHeartbeats 4000000 in
set_option maxRecDepth 100000 in
theorem walk (w : World) (a0 : Int) (w0 : (Lit.int .i64 a0).wf = true) (n1 : Nat) (b1 : n1 < 256) (v2 : Value) (l2 : List Nat) (h2 : Lv yK w w.heap.size v2 l2) (a3 : Int) (w3 : (Lit.int .i64 a3).wf = true) (l4 : List Nat) (nl4 : l4.length = 4) (bl4 : ∀ x ∈ l4, x < 256) :
    Calls Try.prog 5 #[.int .i64 a0, .int .u8 (n1 : Nat), v2, .int .i64 a3, .agg (l4.map u8).toArray] w (IsBool true w) := by
  have HK := Lib.hid b1
  have hI3 := bounds_i64 w3
  obtain ⟨y0, y1, y2, y3, rfl⟩ : ∃ y0 y1 y2 y3, l4 = [y0, y1, y2, y3] := by
    match l4, nl4 with
    | [a, b, c, d], _ => exact ⟨a, b, c, d, rfl⟩
  have hy0 : y0 < 256 := bl4 y0 (by simp)
  have hy1 : y1 < 256 := bl4 y1 (by simp)
  have hy2 : y2 < 256 := bl4 y2 (by simp)
  have hy3 : y3 < 256 := bl4 y3 (by simp)
  have hb8 : ∀ x ∈ l2, x < 256 := fun x hx => h2.ok_ x hx
  change Calls _ _ #[.int .i64 a0, .int .u8 (n1 : Nat), v2, .int .i64 a3, .agg #[.int .u8 (y0 : Nat), .int .u8 (y1 : Nat), .int .u8 (y2 : Nat), .int .u8 (y3 : Nat)]] w _
  have HLL : Hid (l2.length ≤ 9223372036854775807) := by have h := h2; obtain ⟨A, c, rfl, k1, k2, -, -, -⟩ := h; simp only [maxLen] at k2; unfold Hid; omega
  obtain ⟨D, hD⟩ : ∃ D : Array Value, #[.int .u8 (y0 : Nat), .int .u8 (y1 : Nat), .int .u8 (y2 : Nat), .int .u8 (y3 : Nat)] = D := ⟨_, rfl⟩
  rw [hD]
  obtain ⟨W, hW⟩ : ∃ W, w.alloc (.cells D 34) = W := ⟨_, rfl⟩
  obtain ⟨har, hbb⟩ := ar_boxat hW
  have HB0 := Lib.hid hbb
  have Far_0 := Lib.hid har
  have Fb_0 := Lib.hid ((h2.below_ hbb (Nat.le_refl _)).mono_ hbb.size)
  obtain ⟨A2, c2, rfl, -, -, -, -, -⟩ := h2
  clear har hbb w0 w3 nl4 bl4 b1
  obtain ⟨⟨x, E⟩, hx⟩ : ∃ r, Pg.putE a0 n1 l2 = r := ⟨_, rfl⟩
  by_cases hE : E = 0
  · skip
    subst hE
    obtain ⟨hge, hxp, hl4, hn0, hn1⟩ := Pg.getE_put hx
    have hlen : x.length = 512 := by rw [hxp]; exact Pg.page_len hl4
    have hx8 : ∀ z ∈ x, z < 256 := by rw [hxp]; exact Pg.page_lt HK.out hb8
    have HSP : Hid (∀ p N : Nat, p ≤ 508 → ((Pg.getE a0 (Cr.turnd x p N 4)).2.2 = 0 ↔ Cr.zer N 4 = true)) := fun p N hp => Pg.spoilt HK.out hb8 hx hp
    have HNO := Lib.hid (Pg.noughts a0)
    have HX := Lib.hid hx
    have HGE := Lib.hid hge
    have HLEN := Lib.hid hlen
    have HX8 := Lib.hid hx8
    obtain ⟨N, hN⟩ : ∃ N, Pg.num4 y0 y1 y2 y3 = N := ⟨_, rfl⟩
    have hby := Pg.byt_num4 hy0 hy1 hy2 hy3
    rw [hN] at hby
    obtain ⟨hb0, hb1, hb2, hb3⟩ := hby
    have HBY : Hid (∀ k, k < 4 → D[k]? = some (.int .u8 (Cr.byt N k : Nat))) := fun k hk => by
      rw [← hD]
      have : k = 0 ∨ k = 1 ∨ k = 2 ∨ k = 3 := by omega
      rcases this with rfl | rfl | rfl | rfl
      · rw [hb0]; rfl
      · rw [hb1]; rfl
      · rw [hb2]; rfl
      · rw [hb3]; rfl
    have HDE : Hid (D = (List.map u8 [y0, y1, y2, y3]).toArray) := hD.symm
    have HDS : Hid (D.size = 4) := by unfold Hid; rw [← hD]; rfl
    have HZR : Hid (decide ([y0, y1, y2, y3] = [0, 0, 0, 0]) = Cr.zer N 4) := by
      unfold Hid
      rw [Bool.eq_iff_iff, decide_eq_true_iff, Cr.zer_iff]
      constructor
      · intro h j hj
        simp only [List.cons.injEq, and_true] at h
        obtain ⟨rfl, rfl, rfl, rfl⟩ := h
        have : j = 0 ∨ j = 1 ∨ j = 2 ∨ j = 3 := by omega
        rcases this with rfl | rfl | rfl | rfl
        · exact hb0
        · exact hb1
        · exact hb2
        · exact hb3
      · intro h
        have h0 := h 0 (by omega)
        have h1 := h 1 (by omega)
        have h2 := h 2 (by omega)
        have h3 := h 3 (by omega)
        rw [hb0] at h0
        rw [hb1] at h1
        rw [hb2] at h2
        rw [hb3] at h3
        rw [h0, h1, h2, h3]
    have HY8 : Hid (∀ z ∈ [y0, y1, y2, y3], z < 256) := fun z hz => by
      simp only [List.mem_cons, List.not_mem_nil, or_false] at hz
      rcases hz with rfl | rfl | rfl | rfl <;> assumption
    clear hx hge hxp hlen hx8 hb0 hb1 hb2 hb3 hD hy0 hy1 hy2 hy3 hb8 hN hl4 hn0 hn1
    by_cases hneg : a3 < 0
    · skip
      have g1 : IntKind.i64.wrap (a3 + 1) = a3 + 1 := by rw [IntKind.wrap_i64]; omega
      have g2 : IntKind.i64.wrap (-(a3 + 1)) = -(a3 + 1) := by rw [IntKind.wrap_i64]; omega
      obtain ⟨t, ht⟩ : ∃ t : Nat, -(a3 + 1) = (t : Int) := ⟨(-(a3 + 1)).toNat, by omega⟩
      have HT : Hid ((t : Int) ≤ 9223372036854775807) := by unfold Hid; omega
      obtain ⟨p, hp⟩ : ∃ p : Nat, t % 509 = p := ⟨_, rfl⟩
      have hp5 : p ≤ 508 := by omega
      have g3 : (t : Int) % 509 = (p : Int) := by omega
      have g4 : Int.tmod (t : Int) 509 = (p : Int) := by rw [Int.tmod_eq_emod_of_nonneg (by omega)]; exact g3
      have g5 : wrap64 (t : Int) = (t : Int) := by have := HT.out; unfold wrap64; omega
      have HP5 := Lib.hid hp5
      clear hp hp5 hI3
      go_enter Try.func5, Try.ntmps5
      have C1 := Lib.hid (ppgput_any a0 n1 _ l2 _ W HK.out Fb_0.out (Nat.le_refl _))
      rw [HX.out] at C1
      go_wp2_with (fail)
      refine (C1.out).mono ?_
      rintro e w1 ⟨A1, c1, rfl, o1, b1⟩
      have HB1 := Lib.hid (HB0.out.trans (b1.mono HB0.out.size))
      have Far_1 := Lib.hid ((Far_0.out.below_ b1 (Nat.le_refl _)).mono_ b1.size)
      have Fb_1 := Lib.hid ((Fb_0.out.below_ b1 (Nat.le_refl _)).mono_ b1.size)
      have Fx_1 := Lib.hid (o1.form_)
      have Ox_1 := Lib.hid o1
      clear C1 b1 HB0 Far_0 Fb_0 o1
      have C2 := Lib.hid (ppgget_any a0 _ x _ w1 Fx_1.out (Nat.le_refl _))
      rw [HGE.out] at C2
      go_wp2_with (fail)
      refine (C2.out).mono ?_
      rintro e w2 ⟨A2, c2, rfl, o2, b2⟩
      have HB2 := Lib.hid (HB1.out.trans (b2.mono HB1.out.size))
      have Far_2 := Lib.hid ((Far_1.out.below_ b2 (Nat.le_refl _)).mono_ b2.size)
      have Fb_2 := Lib.hid ((Fb_1.out.below_ b2 (Nat.le_refl _)).mono_ b2.size)
      have Fx_2 := Lib.hid ((Fx_1.out.below_ b2 (Nat.le_refl _)).mono_ b2.size)
      have Ox_2 := Lib.hid (Ox_1.out.below_ b2 (Nat.le_refl _))
      have Fc_2 := Lib.hid (o2.form_)
      clear C2 b2 HB1 Far_1 Fb_1 Fx_1 Ox_1 o2
      have C3 := Lib.hid (octs_lv _ _ _ _ _ _ w2 Fc_2.out Fb_2.out)
      simp only [decide_true] at C3
      go_wp2_with (fail)
      refine (C3.out).mono ?_
      rintro e w3 ⟨rfl, b3⟩
      have HB3 := Lib.hid (HB2.out.trans (b3.mono HB2.out.size))
      have Far_3 := Lib.hid ((Far_2.out.below_ b3 (Nat.le_refl _)).mono_ b3.size)
      have Fb_3 := Lib.hid ((Fb_2.out.below_ b3 (Nat.le_refl _)).mono_ b3.size)
      have Fx_3 := Lib.hid ((Fx_2.out.below_ b3 (Nat.le_refl _)).mono_ b3.size)
      have Fc_3 := Lib.hid ((Fc_2.out.below_ b3 (Nat.le_refl _)).mono_ b3.size)
      have Ox_3 := Lib.hid (Ox_2.out.below_ b3 (Nat.le_refl _))
      clear C3 b3 HB2 Far_2 Fb_2 Fx_2 Fc_2 Ox_2
      have C4 := Lib.hid (ppgput_any a0 n1 _ l2 _ w3 HK.out Fc_3.out (Nat.le_refl _))
      rw [HX.out] at C4
      go_wp2_with (fail)
      refine (C4.out).mono ?_
      rintro e w4 ⟨A4, c4, rfl, o4, b4⟩
      have HB4 := Lib.hid (HB3.out.trans (b4.mono HB3.out.size))
      have Far_4 := Lib.hid ((Far_3.out.below_ b4 (Nat.le_refl _)).mono_ b4.size)
      have Fb_4 := Lib.hid ((Fb_3.out.below_ b4 (Nat.le_refl _)).mono_ b4.size)
      have Fx_4 := Lib.hid ((Fx_3.out.below_ b4 (Nat.le_refl _)).mono_ b4.size)
      have Fc_4 := Lib.hid ((Fc_3.out.below_ b4 (Nat.le_refl _)).mono_ b4.size)
      have Ox_4 := Lib.hid (Ox_3.out.below_ b4 (Nat.le_refl _))
      have Fy_4 := Lib.hid (o4.form_)
      clear C4 b4 HB3 Far_3 Fb_3 Fx_3 Fc_3 Ox_3 o4
      have C5 := Lib.hid (octs_lv _ _ _ _ _ _ w4 Fy_4.out Fx_4.out)
      simp only [decide_true] at C5
      go_wp2_with (fail)
      refine (C5.out).mono ?_
      rintro e w5 ⟨rfl, b5⟩
      have HB5 := Lib.hid (HB4.out.trans (b5.mono HB4.out.size))
      have Far_5 := Lib.hid ((Far_4.out.below_ b5 (Nat.le_refl _)).mono_ b5.size)
      have Fb_5 := Lib.hid ((Fb_4.out.below_ b5 (Nat.le_refl _)).mono_ b5.size)
      have Fx_5 := Lib.hid ((Fx_4.out.below_ b5 (Nat.le_refl _)).mono_ b5.size)
      have Fc_5 := Lib.hid ((Fc_4.out.below_ b5 (Nat.le_refl _)).mono_ b5.size)
      have Fy_5 := Lib.hid ((Fy_4.out.below_ b5 (Nat.le_refl _)).mono_ b5.size)
      have Ox_5 := Lib.hid (Ox_4.out.below_ b5 (Nat.le_refl _))
      clear C5 b5 HB4 Far_4 Fb_4 Fx_4 Fc_4 Fy_4 Ox_4
      clear Fc_5
      clear Fb_5
      clear Fy_5
      have HO := Ox_5
      have HRW : Hid (Rw w5 w.heap.size 34 D) := Far_5.out.2
      have HWS : Hid (W.heap.size = w.heap.size + 1) := by unfold Hid; rw [← hW]; simp
      clear hW Ox_5 Far_5 Fx_5
      simp only []
      go_wp2
      clear g1 g2 ht g3 g4 g5
      go_loopw [16] (fun i wr => ∃ k : Nat, k ≤ 4 ∧ i = .int .i64 (k : Nat) ∧ Hid (OwnV wr W.heap.size (.slice A1 x.length c1) (Cr.turnd x p N k)) ∧ Hid (Rw wr w.heap.size 34 D) ∧ Hid (Below w.heap.size w wr)) (fun i _ => 4 - (intOf i).toNat)
      case atStart => exact ⟨0, by omega, rfl, HO.out, HRW.out, HB5.out⟩
      case round =>
        obtain ⟨k, hk, rfl, HO', HR', HB'⟩ := hrel
        clear HO HRW HB5
        have hlen := HLEN.out
        have htl := Cr.turnd_len x p N k
        have hp5 := HP5.out
        by_cases hlt : k < 4
        · obtain ⟨g, y, rfl, -, hbg, hU, hy, hcell, hfr⟩ := HO'.out.byte_ (k := p + k) (by omega)
          have hby8 := Cr.byt_lt N k
          have hU8 : y < 256 := hU
          have hxor := xor_u8_nat y (Cr.byt N k) hU8 hby8
          have hset := HO'.out.drew_.setByte_ (j := p + k) (by omega) (x := y ^^^ Cr.byt N k) (Cr.xor_byte_lt hU8 hby8)
          have hsucc := Cr.turnd_succ x p N k
          rw [show (Cr.turnd x p N k).getD (p + k) 0 = y by rw [List.getD_eq_getElem?_getD, hy]; rfl] at hsucc
          rw [← hsucc] at hset
          have hc2 : wr.cell? ⟨w.heap.size, k, none⟩ = some (.int .u8 (Cr.byt N k : Nat)) := (HR'.out.cell k).trans (HBY.out k hlt)
          have HS1 := Lib.hid hset.1
          have HR2 : Hid (Rw (wr.drew.setCell ⟨g, p + k, none⟩ (.int .u8 ((y ^^^ Cr.byt N k : Nat) : Int))) w.heap.size 34 D) := HR'.out.drew.setOther (by have := HWS.out; omega) _ _
          have HB2 : Hid (Below w.heap.size w (wr.drew.setCell ⟨g, p + k, none⟩ (.int .u8 ((y ^^^ Cr.byt N k : Nat) : Int)))) := HB'.out.drew.setCell (p := ⟨g, p + k, none⟩) (by show w.heap.size ≤ g; have := HWS.out; omega) _
          obtain ⟨z, hz⟩ : ∃ z, Cr.byt N k = z := ⟨_, rfl⟩
          rw [hz] at hc2 hxor HS1 HR2 HB2
          have j1 : (0 : Int) ≤ (p : Int) + (k : Int) := by omega
          have j2 : (p : Int) + (k : Int) < (x.length : Int) := by omega
          have j3 : IntKind.i64.wrap ((p : Int) + (k : Int)) = (p : Int) + (k : Int) := by rw [IntKind.wrap_i64]; omega
          have j4 : ((p : Int) + (k : Int)).toNat = p + k := by omega
          have j7 : (p : Int) + (k : Int) < 512 := by omega
          have j5 : (k : Int) < 4 := by omega
          have j6 : (0 : Int) ≤ (k : Int) := by omega
          clear hset hsucc htl hy hU hz hby8 hbg hlen
          go_wp2
          go_still_tail 15, (by kernel_rfl)
          change wpList _ _ _ _ _ wr.drew
          go_wp2
          go_roundw
          case rel => exact ⟨k + 1, by omega, by go_num, HS1.out, HR2.out, HB2.out⟩
          case measure => simp [intOf]; omega
        · obtain rfl : k = 4 := by omega
          have j5 : ¬ ((4 : Nat) : Int) < 4 := by omega
          have HSPN := Lib.hid (HSP.out p N HP5.out)
          obtain ⟨Q, hQ⟩ : ∃ Q, Cr.turnd x p N 4 = Q := ⟨_, rfl⟩
          rw [hQ] at HO' HSPN htl
          have HF := Lib.hid (HO'.out.form_)
          have C1 := Lib.hid (ppgget_any a0 _ Q _ wr HF.out (Nat.le_refl _))
          obtain ⟨⟨k1, c1', E1⟩, h1⟩ : ∃ r, Pg.getE a0 Q = r := ⟨_, rfl⟩
          obtain ⟨⟨k2, c2', E2⟩, h2⟩ : ∃ r, Pg.getE a0 (List.replicate 512 0) = r := ⟨_, rfl⟩
          rw [h1] at C1 HSPN
          have HE2 : Hid (E2 ≠ 0) := by have := HNO.out; rw [h2] at this; exact this
          have H2 := Lib.hid h2
          obtain ⟨zz, hzz⟩ : ∃ z, Cr.zer N 4 = z := ⟨_, rfl⟩
          have HZZ := Lib.hid hzz
          have q1 : ((E1 : Int) == 0) = zz := by
            rw [← hzz, Bool.eq_iff_iff, beq_iff_eq, ← HSPN.out]
            show (E1 : Int) = 0 ↔ E1 = 0
            omega
          have q2 : ((E2 : Int) != 0) = true := by rw [bne_iff_ne]; have := HE2.out; omega
          have q3 : (zz == zz) = true := by simp
          have hD4 := HDS.out
          have heq : ∀ w', (Op.equalIn 10000 34 (.agg D) (.agg #[.int .u8 0, .int .u8 0, .int .u8 0, .int .u8 0])).run Try.prog w' = .ok zz w' := fun w' => by
            rw [HDE.out, ← hzz, ← HZR.out]
            exact equal4 (s := [y0, y1, y2, y3]) (t := [0, 0, 0, 0]) rfl rfl HY8.out (by decide) w'
          have hsz : (Try.prog.info? 34).map (·.size) = some D.size := by rw [hD4]; exact ar_size
          clear h1 h2 hzz hQ htl hlen hlt hk hp5 HO' HSPN HE2 HZR HSP HNO
          go_wp2_with fail
          refine (C1.out).mono ?_
          rintro e wa ⟨Aa, ca, rfl, -, ba⟩
          have HBa := Lib.hid (HB'.out.trans (ba.mono HB'.out.size))
          have HRa : Hid (Rw wa w.heap.size 34 D) := HR'.out.below ba HR'.out.lt
          have hza : w.heap.size < wa.heap.size := HRa.out.lt
          have HZA := Lib.hid hza
          clear C1 ba HB' HR' hza
          go_wp2_with (at_make; go_must (refine wpList_make_l _ yK rfl _ _ rfl wa.heap.size .i64 .i64 _ _ 512 512 rfl rfl rfl rfl (Nat.le_refl _) (by show 1 * _ ≤ _; omega) (by simp only [maxLen]; omega) (Nat.le_refl _) ?_; intro wb hOb hGb))
          have bb := (Below.refl wa.heap.size wa).grown hGb (Nat.le_refl _) (fun k hk => by cases hk)
          have HBb := Lib.hid (HBa.out.trans (bb.mono HBa.out.size))
          have HRb : Hid (Rw wb w.heap.size 34 D) := HRa.out.below bb HZA.out
          have hOb' : OwnL yK wb wa.heap.size (.slice (some ⟨wa.heap.size, 0, none⟩) 512 512) (List.replicate 512 0) := hOb
          have C2 := Lib.hid (ppgget_any a0 _ (List.replicate 512 0) _ wb hOb'.form_ (Nat.le_refl _))
          rw [H2.out] at C2
          clear hOb hOb' hGb bb HBa HRa HZA
          go_wp2_with fail
          refine (C2.out).mono ?_
          rintro e wc ⟨Ac, cc, rfl, -, bc⟩
          have HBc := Lib.hid (HBb.out.trans (bc.mono HBb.out.size))
          have HRc : Hid (Rw wc w.heap.size 34 D) := HRb.out.below bc HRb.out.lt
          have C3 := Lib.hid (lives_pg wc)
          clear C2 bc HBb HRb
          go_wp2_with (first
            | (refine wpList_build_atP rfl 34 _ rfl _ ar_built0 ?_)
            | (refine wpList_load_row rfl _ _ rfl w.heap.size rfl 34 D (0, 0) _ HRc.out Try.underlying34 rfl (by rw [hsz]) ?_))
          refine (C3.out).mono ?_
          rintro e wd ⟨rfl, bd⟩
          have HBd := Lib.hid (HBc.out.trans (bd.mono HBc.out.size))
          clear C3 bd
          go_wp2
          go_ret
          exact ⟨rfl, HBd.out⟩
    · skip
      obtain ⟨t, ht⟩ : ∃ t : Nat, a3 = (t : Int) := ⟨a3.toNat, by omega⟩
      subst ht
      have HT : Hid ((t : Int) ≤ 9223372036854775807) := by unfold Hid; omega
      obtain ⟨p, hp⟩ : ∃ p : Nat, t % 509 = p := ⟨_, rfl⟩
      have hp5 : p ≤ 508 := by omega
      have g3 : (t : Int) % 509 = (p : Int) := by omega
      have g4 : Int.tmod (t : Int) 509 = (p : Int) := by rw [Int.tmod_eq_emod_of_nonneg (by omega)]; exact g3
      have g5 : wrap64 (t : Int) = (t : Int) := by have := HT.out; unfold wrap64; omega
      have HP5 := Lib.hid hp5
      clear hp hp5 hI3
      go_enter Try.func5, Try.ntmps5
      have C1 := Lib.hid (ppgput_any a0 n1 _ l2 _ W HK.out Fb_0.out (Nat.le_refl _))
      rw [HX.out] at C1
      go_wp2_with (fail)
      refine (C1.out).mono ?_
      rintro e w1 ⟨A1, c1, rfl, o1, b1⟩
      have HB1 := Lib.hid (HB0.out.trans (b1.mono HB0.out.size))
      have Far_1 := Lib.hid ((Far_0.out.below_ b1 (Nat.le_refl _)).mono_ b1.size)
      have Fb_1 := Lib.hid ((Fb_0.out.below_ b1 (Nat.le_refl _)).mono_ b1.size)
      have Fx_1 := Lib.hid (o1.form_)
      have Ox_1 := Lib.hid o1
      clear C1 b1 HB0 Far_0 Fb_0 o1
      have C2 := Lib.hid (ppgget_any a0 _ x _ w1 Fx_1.out (Nat.le_refl _))
      rw [HGE.out] at C2
      go_wp2_with (fail)
      refine (C2.out).mono ?_
      rintro e w2 ⟨A2, c2, rfl, o2, b2⟩
      have HB2 := Lib.hid (HB1.out.trans (b2.mono HB1.out.size))
      have Far_2 := Lib.hid ((Far_1.out.below_ b2 (Nat.le_refl _)).mono_ b2.size)
      have Fb_2 := Lib.hid ((Fb_1.out.below_ b2 (Nat.le_refl _)).mono_ b2.size)
      have Fx_2 := Lib.hid ((Fx_1.out.below_ b2 (Nat.le_refl _)).mono_ b2.size)
      have Ox_2 := Lib.hid (Ox_1.out.below_ b2 (Nat.le_refl _))
      have Fc_2 := Lib.hid (o2.form_)
      clear C2 b2 HB1 Far_1 Fb_1 Fx_1 Ox_1 o2
      have C3 := Lib.hid (octs_lv _ _ _ _ _ _ w2 Fc_2.out Fb_2.out)
      simp only [decide_true] at C3
      go_wp2_with (fail)
      refine (C3.out).mono ?_
      rintro e w3 ⟨rfl, b3⟩
      have HB3 := Lib.hid (HB2.out.trans (b3.mono HB2.out.size))
      have Far_3 := Lib.hid ((Far_2.out.below_ b3 (Nat.le_refl _)).mono_ b3.size)
      have Fb_3 := Lib.hid ((Fb_2.out.below_ b3 (Nat.le_refl _)).mono_ b3.size)
      have Fx_3 := Lib.hid ((Fx_2.out.below_ b3 (Nat.le_refl _)).mono_ b3.size)
      have Fc_3 := Lib.hid ((Fc_2.out.below_ b3 (Nat.le_refl _)).mono_ b3.size)
      have Ox_3 := Lib.hid (Ox_2.out.below_ b3 (Nat.le_refl _))
      clear C3 b3 HB2 Far_2 Fb_2 Fx_2 Fc_2 Ox_2
      have C4 := Lib.hid (ppgput_any a0 n1 _ l2 _ w3 HK.out Fc_3.out (Nat.le_refl _))
      rw [HX.out] at C4
      go_wp2_with (fail)
      refine (C4.out).mono ?_
      rintro e w4 ⟨A4, c4, rfl, o4, b4⟩
      have HB4 := Lib.hid (HB3.out.trans (b4.mono HB3.out.size))
      have Far_4 := Lib.hid ((Far_3.out.below_ b4 (Nat.le_refl _)).mono_ b4.size)
      have Fb_4 := Lib.hid ((Fb_3.out.below_ b4 (Nat.le_refl _)).mono_ b4.size)
      have Fx_4 := Lib.hid ((Fx_3.out.below_ b4 (Nat.le_refl _)).mono_ b4.size)
      have Fc_4 := Lib.hid ((Fc_3.out.below_ b4 (Nat.le_refl _)).mono_ b4.size)
      have Ox_4 := Lib.hid (Ox_3.out.below_ b4 (Nat.le_refl _))
      have Fy_4 := Lib.hid (o4.form_)
      clear C4 b4 HB3 Far_3 Fb_3 Fx_3 Fc_3 Ox_3 o4
      have C5 := Lib.hid (octs_lv _ _ _ _ _ _ w4 Fy_4.out Fx_4.out)
      simp only [decide_true] at C5
      go_wp2_with (fail)
      refine (C5.out).mono ?_
      rintro e w5 ⟨rfl, b5⟩
      have HB5 := Lib.hid (HB4.out.trans (b5.mono HB4.out.size))
      have Far_5 := Lib.hid ((Far_4.out.below_ b5 (Nat.le_refl _)).mono_ b5.size)
      have Fb_5 := Lib.hid ((Fb_4.out.below_ b5 (Nat.le_refl _)).mono_ b5.size)
      have Fx_5 := Lib.hid ((Fx_4.out.below_ b5 (Nat.le_refl _)).mono_ b5.size)
      have Fc_5 := Lib.hid ((Fc_4.out.below_ b5 (Nat.le_refl _)).mono_ b5.size)
      have Fy_5 := Lib.hid ((Fy_4.out.below_ b5 (Nat.le_refl _)).mono_ b5.size)
      have Ox_5 := Lib.hid (Ox_4.out.below_ b5 (Nat.le_refl _))
      clear C5 b5 HB4 Far_4 Fb_4 Fx_4 Fc_4 Fy_4 Ox_4
      clear Fc_5
      clear Fb_5
      clear Fy_5
      have HO := Ox_5
      have HRW : Hid (Rw w5 w.heap.size 34 D) := Far_5.out.2
      have HWS : Hid (W.heap.size = w.heap.size + 1) := by unfold Hid; rw [← hW]; simp
      clear hW Ox_5 Far_5 Fx_5
      simp only []
      go_wp2
      clear g3 g4 g5
      go_loopw [16] (fun i wr => ∃ k : Nat, k ≤ 4 ∧ i = .int .i64 (k : Nat) ∧ Hid (OwnV wr W.heap.size (.slice A1 x.length c1) (Cr.turnd x p N k)) ∧ Hid (Rw wr w.heap.size 34 D) ∧ Hid (Below w.heap.size w wr)) (fun i _ => 4 - (intOf i).toNat)
      case atStart => exact ⟨0, by omega, rfl, HO.out, HRW.out, HB5.out⟩
      case round =>
        obtain ⟨k, hk, rfl, HO', HR', HB'⟩ := hrel
        clear HO HRW HB5
        have hlen := HLEN.out
        have htl := Cr.turnd_len x p N k
        have hp5 := HP5.out
        by_cases hlt : k < 4
        · obtain ⟨g, y, rfl, -, hbg, hU, hy, hcell, hfr⟩ := HO'.out.byte_ (k := p + k) (by omega)
          have hby8 := Cr.byt_lt N k
          have hU8 : y < 256 := hU
          have hxor := xor_u8_nat y (Cr.byt N k) hU8 hby8
          have hset := HO'.out.drew_.setByte_ (j := p + k) (by omega) (x := y ^^^ Cr.byt N k) (Cr.xor_byte_lt hU8 hby8)
          have hsucc := Cr.turnd_succ x p N k
          rw [show (Cr.turnd x p N k).getD (p + k) 0 = y by rw [List.getD_eq_getElem?_getD, hy]; rfl] at hsucc
          rw [← hsucc] at hset
          have hc2 : wr.cell? ⟨w.heap.size, k, none⟩ = some (.int .u8 (Cr.byt N k : Nat)) := (HR'.out.cell k).trans (HBY.out k hlt)
          have HS1 := Lib.hid hset.1
          have HR2 : Hid (Rw (wr.drew.setCell ⟨g, p + k, none⟩ (.int .u8 ((y ^^^ Cr.byt N k : Nat) : Int))) w.heap.size 34 D) := HR'.out.drew.setOther (by have := HWS.out; omega) _ _
          have HB2 : Hid (Below w.heap.size w (wr.drew.setCell ⟨g, p + k, none⟩ (.int .u8 ((y ^^^ Cr.byt N k : Nat) : Int)))) := HB'.out.drew.setCell (p := ⟨g, p + k, none⟩) (by show w.heap.size ≤ g; have := HWS.out; omega) _
          obtain ⟨z, hz⟩ : ∃ z, Cr.byt N k = z := ⟨_, rfl⟩
          rw [hz] at hc2 hxor HS1 HR2 HB2
          have j1 : (0 : Int) ≤ (p : Int) + (k : Int) := by omega
          have j2 : (p : Int) + (k : Int) < (x.length : Int) := by omega
          have j3 : IntKind.i64.wrap ((p : Int) + (k : Int)) = (p : Int) + (k : Int) := by rw [IntKind.wrap_i64]; omega
          have j4 : ((p : Int) + (k : Int)).toNat = p + k := by omega
          have j7 : (p : Int) + (k : Int) < 512 := by omega
          have j5 : (k : Int) < 4 := by omega
          have j6 : (0 : Int) ≤ (k : Int) := by omega
          clear hset hsucc htl hy hU hz hby8 hbg hlen
          go_wp2
          go_still_tail 15, (by kernel_rfl)
          change wpList _ _ _ _ _ wr.drew
          go_wp2
          go_roundw
          case rel => exact ⟨k + 1, by omega, by go_num, HS1.out, HR2.out, HB2.out⟩
          case measure => simp [intOf]; omega
        · obtain rfl : k = 4 := by omega
          have j5 : ¬ ((4 : Nat) : Int) < 4 := by omega
          have HSPN := Lib.hid (HSP.out p N HP5.out)
          obtain ⟨Q, hQ⟩ : ∃ Q, Cr.turnd x p N 4 = Q := ⟨_, rfl⟩
          rw [hQ] at HO' HSPN htl
          have HF := Lib.hid (HO'.out.form_)
          have C1 := Lib.hid (ppgget_any a0 _ Q _ wr HF.out (Nat.le_refl _))
          obtain ⟨⟨k1, c1', E1⟩, h1⟩ : ∃ r, Pg.getE a0 Q = r := ⟨_, rfl⟩
          obtain ⟨⟨k2, c2', E2⟩, h2⟩ : ∃ r, Pg.getE a0 (List.replicate 512 0) = r := ⟨_, rfl⟩
          rw [h1] at C1 HSPN
          have HE2 : Hid (E2 ≠ 0) := by have := HNO.out; rw [h2] at this; exact this
          have H2 := Lib.hid h2
          obtain ⟨zz, hzz⟩ : ∃ z, Cr.zer N 4 = z := ⟨_, rfl⟩
          have HZZ := Lib.hid hzz
          have q1 : ((E1 : Int) == 0) = zz := by
            rw [← hzz, Bool.eq_iff_iff, beq_iff_eq, ← HSPN.out]
            show (E1 : Int) = 0 ↔ E1 = 0
            omega
          have q2 : ((E2 : Int) != 0) = true := by rw [bne_iff_ne]; have := HE2.out; omega
          have q3 : (zz == zz) = true := by simp
          have hD4 := HDS.out
          have heq : ∀ w', (Op.equalIn 10000 34 (.agg D) (.agg #[.int .u8 0, .int .u8 0, .int .u8 0, .int .u8 0])).run Try.prog w' = .ok zz w' := fun w' => by
            rw [HDE.out, ← hzz, ← HZR.out]
            exact equal4 (s := [y0, y1, y2, y3]) (t := [0, 0, 0, 0]) rfl rfl HY8.out (by decide) w'
          have hsz : (Try.prog.info? 34).map (·.size) = some D.size := by rw [hD4]; exact ar_size
          clear h1 h2 hzz hQ htl hlen hlt hk hp5 HO' HSPN HE2 HZR HSP HNO
          go_wp2_with fail
          refine (C1.out).mono ?_
          rintro e wa ⟨Aa, ca, rfl, -, ba⟩
          have HBa := Lib.hid (HB'.out.trans (ba.mono HB'.out.size))
          have HRa : Hid (Rw wa w.heap.size 34 D) := HR'.out.below ba HR'.out.lt
          have hza : w.heap.size < wa.heap.size := HRa.out.lt
          have HZA := Lib.hid hza
          clear C1 ba HB' HR' hza
          go_wp2_with (at_make; go_must (refine wpList_make_l _ yK rfl _ _ rfl wa.heap.size .i64 .i64 _ _ 512 512 rfl rfl rfl rfl (Nat.le_refl _) (by show 1 * _ ≤ _; omega) (by simp only [maxLen]; omega) (Nat.le_refl _) ?_; intro wb hOb hGb))
          have bb := (Below.refl wa.heap.size wa).grown hGb (Nat.le_refl _) (fun k hk => by cases hk)
          have HBb := Lib.hid (HBa.out.trans (bb.mono HBa.out.size))
          have HRb : Hid (Rw wb w.heap.size 34 D) := HRa.out.below bb HZA.out
          have hOb' : OwnL yK wb wa.heap.size (.slice (some ⟨wa.heap.size, 0, none⟩) 512 512) (List.replicate 512 0) := hOb
          have C2 := Lib.hid (ppgget_any a0 _ (List.replicate 512 0) _ wb hOb'.form_ (Nat.le_refl _))
          rw [H2.out] at C2
          clear hOb hOb' hGb bb HBa HRa HZA
          go_wp2_with fail
          refine (C2.out).mono ?_
          rintro e wc ⟨Ac, cc, rfl, -, bc⟩
          have HBc := Lib.hid (HBb.out.trans (bc.mono HBb.out.size))
          have HRc : Hid (Rw wc w.heap.size 34 D) := HRb.out.below bc HRb.out.lt
          have C3 := Lib.hid (lives_pg wc)
          clear C2 bc HBb HRb
          go_wp2_with (first
            | (refine wpList_build_atP rfl 34 _ rfl _ ar_built0 ?_)
            | (refine wpList_load_row rfl _ _ rfl w.heap.size rfl 34 D (0, 0) _ HRc.out Try.underlying34 rfl (by rw [hsz]) ?_))
          refine (C3.out).mono ?_
          rintro e wd ⟨rfl, bd⟩
          have HBd := Lib.hid (HBc.out.trans (bd.mono HBc.out.size))
          clear C3 bd
          go_wp2
          go_ret
          exact ⟨rfl, HBd.out⟩
  · skip
    have hq : ((E : Int) != 0) = true := by rw [bne_iff_ne]; omega
    have hll := HLL.out
    have HX := Lib.hid hx
    have h3 : a0 < 0 ∨ (¬ a0 < 0 ∧ 65536 ≤ a0) ∨ (¬ a0 < 0 ∧ ¬ 65536 ≤ a0 ∧ (496 : Int) < (l2.length : Int)) := by
      by_cases h1 : a0 < 0 ∨ 65536 ≤ a0
      · omega
      · by_cases h2 : 496 < l2.length
        · omega
        · rw [Pg.putE_ok h1 h2] at hx
          simp only [Prod.mk.injEq] at hx
          omega
    clear hx hE hb8 hy0 hy1 hy2 hy3 hD hI3
    rcases h3 with h3 | ⟨h3, h4⟩ | ⟨h3, h4, h5⟩
    · skip
      go_enter Try.func5, Try.ntmps5
      have C1 := Lib.hid (ppgput_any a0 n1 _ l2 _ W HK.out Fb_0.out (Nat.le_refl _))
      rw [HX.out] at C1
      go_wp2_with (fail)
      refine (C1.out).mono ?_
      rintro e w1 ⟨A1, c1, rfl, o1, b1⟩
      have HB1 := Lib.hid (HB0.out.trans (b1.mono HB0.out.size))
      have Far_1 := Lib.hid ((Far_0.out.below_ b1 (Nat.le_refl _)).mono_ b1.size)
      have Fb_1 := Lib.hid ((Fb_0.out.below_ b1 (Nat.le_refl _)).mono_ b1.size)
      have Fx_1 := Lib.hid (o1.form_)
      clear C1 b1 HB0 Far_0 Fb_0 o1
      clear Fx_1
      clear Fb_1
      clear Far_1
      have C2 := Lib.hid (lives_pg w1)
      go_wp2_with (fail)
      refine (C2.out).mono ?_
      rintro e w2 ⟨rfl, b2⟩
      have HB2 := Lib.hid (HB1.out.trans (b2.mono HB1.out.size))
      clear C2 b2 HB1
      go_wp2
      go_ret
      exact ⟨rfl, HB2.out⟩
    · skip
      go_enter Try.func5, Try.ntmps5
      have C1 := Lib.hid (ppgput_any a0 n1 _ l2 _ W HK.out Fb_0.out (Nat.le_refl _))
      rw [HX.out] at C1
      go_wp2_with (fail)
      refine (C1.out).mono ?_
      rintro e w1 ⟨A1, c1, rfl, o1, b1⟩
      have HB1 := Lib.hid (HB0.out.trans (b1.mono HB0.out.size))
      have Far_1 := Lib.hid ((Far_0.out.below_ b1 (Nat.le_refl _)).mono_ b1.size)
      have Fb_1 := Lib.hid ((Fb_0.out.below_ b1 (Nat.le_refl _)).mono_ b1.size)
      have Fx_1 := Lib.hid (o1.form_)
      clear C1 b1 HB0 Far_0 Fb_0 o1
      clear Fx_1
      clear Fb_1
      clear Far_1
      have C2 := Lib.hid (lives_pg w1)
      go_wp2_with (fail)
      refine (C2.out).mono ?_
      rintro e w2 ⟨rfl, b2⟩
      have HB2 := Lib.hid (HB1.out.trans (b2.mono HB1.out.size))
      clear C2 b2 HB1
      go_wp2
      go_ret
      exact ⟨rfl, HB2.out⟩
    · skip
      go_enter Try.func5, Try.ntmps5
      have C1 := Lib.hid (ppgput_any a0 n1 _ l2 _ W HK.out Fb_0.out (Nat.le_refl _))
      rw [HX.out] at C1
      go_wp2_with (fail)
      refine (C1.out).mono ?_
      rintro e w1 ⟨A1, c1, rfl, o1, b1⟩
      have HB1 := Lib.hid (HB0.out.trans (b1.mono HB0.out.size))
      have Far_1 := Lib.hid ((Far_0.out.below_ b1 (Nat.le_refl _)).mono_ b1.size)
      have Fb_1 := Lib.hid ((Fb_0.out.below_ b1 (Nat.le_refl _)).mono_ b1.size)
      have Fx_1 := Lib.hid (o1.form_)
      clear C1 b1 HB0 Far_0 Fb_0 o1
      clear Fx_1
      clear Fb_1
      clear Far_1
      have C2 := Lib.hid (lives_pg w1)
      go_wp2_with (fail)
      refine (C2.out).mono ?_
      rintro e w2 ⟨rfl, b2⟩
      have HB2 := Lib.hid (HB1.out.trans (b2.mono HB1.out.size))
      clear C2 b2 HB1
      go_wp2
      go_ret
      exact ⟨rfl, HB2.out⟩

/-! ### From the walk to the row -/
set_option maxRecDepth 100000 in
theorem lifted (os : Os) (started : os.Started) (H : Type) (enc : TypeId × Value → H) :
    ReturnsInHanded {} Try.checked os 5 .any (Rows.pageBackSpec.pre6 enc Try.prog Try.f5 Rows.pageBackRow.domain false) (Rows.pageBackSpec.post enc Try.prog Try.f5 false true false false) := by
  refine returnsInHanded_of_change (C := Try.checked) own started (by kernel_rfl) Try.func5
    (ChangeSpec.witness6 (enc := enc) (C := Try.checked) false ⟨#[], #[.int .i64 0, .int .u8 0, .slice none 0 0, .int .i64 0, .agg #[.int .u8 0, .int .u8 0, .int .u8 0, .int .u8 0]], []⟩ 8 (by kernel_rfl) (by kernel_rfl) (by kernel_rfl) (by kernel_rfl)) ?_
  intro W base args ds gs before hval0 hW hcnd _
  have hval : ∀ (j : Nat) t v, Try.f5.params[j]? = some t → args[j]? = some v → Value.okWide Try.prog W .any base t v := hval0
  have hW' := hW
  obtain ⟨p, q, hA0, hV, rfl, hfz, hnd⟩ := hW
  have hA : DataW.TrodAll enc Try.prog W 0 (fun _ => true) true Try.f5.params.toList args.toList ds p := hA0
  rw [Try.params5] at hA hval
  obtain ⟨v0, vs0, d0, ds0, p0, q0, hargs, rfl, rfl, h0, r0⟩ := trodAll_cons hA
  obtain ⟨v1, vs1, d1, ds1, p1, q1, rfl, rfl, rfl, h1, r1⟩ := trodAll_cons r0
  obtain ⟨v2, vs2, d2, ds2, p2, q2, rfl, rfl, rfl, h2, r2⟩ := trodAll_cons r1
  obtain ⟨v3, vs3, d3, ds3, p3, q3, rfl, rfl, rfl, h3, r3⟩ := trodAll_cons r2
  obtain ⟨v4, vs4, d4, ds4, p4, q4, rfl, rfl, rfl, h4, r4⟩ := trodAll_cons r3
  obtain ⟨rfl, rfl, rfl⟩ := trodAll_nil r4
  obtain rfl : args = #[v0, v1, v2, v3, v4] := by cases args; simp_all
  obtain ⟨rfl, rfl⟩ := trodVars_none hV
  obtain ⟨a0, rfl, rfl, rfl, w0⟩ := open_int Try.underlying3 (hval 0 3 v0 rfl rfl) h0
  obtain ⟨a1, rfl, rfl, rfl, w1⟩ := open_int Try.underlying5 (hval 1 5 v1 rfl rfl) h1
  obtain ⟨n1, e1, b1⟩ := u8_nat w1
  subst e1
  obtain ⟨a2, len2, cap2, rfl⟩ := okWide_slice Try.underlying22 (hval 2 22 v2 rfl rfl)
  have k2 := h2
  have lt2 : ∀ x ∈ p2, x.block < W.heap.size := by obtain ⟨m, hm⟩ := k2; exact DataW.trod_lt m _ _ _ hm
  obtain ⟨l2, len_2, hb2⟩ : ∃ l : List Nat, l.length = len2 ∧ Lv yK W W.heap.size (.slice a2 len2 cap2) l := by
    obtain ⟨fuel, hf⟩ := h2
    exact octs_in hf
  obtain ⟨a3, rfl, rfl, rfl, w3⟩ := open_int Try.underlying3 (hval 3 3 v3 rfl rfl) h3
  have k4 := h4
  have lt4 : ∀ x ∈ p4, x.block < W.heap.size := by obtain ⟨m, hm⟩ := k4; exact DataW.trod_lt m _ _ _ hm
  obtain ⟨l4, nl4, bl4, rfl⟩ := bytes_arrU Try.underlying34 (by kernel_rfl) (hval 4 34 v4 rfl rfl) h4
  clear hA0 hval0
  refine (walk W a0 w0 n1 b1 (.slice a2 len2 cap2) l2 hb2 a3 w3 l4 nl4 bl4).mono fun e W' ⟨he, bel⟩ => ?_
  subst he
  exact ⟨_, rfl, _, _, _, [], _, [], hW', trodAll_mk1 (shut_bool Try.underlying4 _), (trodAll_cons_mk (shut_int Try.underlying3 w0) (trodAll_cons_mk (shut_int Try.underlying5 w1) (trodAll_cons_mk (Below.trod laidOut (by kernel_rfl) (of_decide_eq_true (by kernel_rfl)) k2 bel lt2) (trodAll_cons_mk (shut_int Try.underlying3 w3) (trodAll_cons_mk (Below.trod laidOut (by kernel_rfl) (of_decide_eq_true (by kernel_rfl)) k4 bel lt4) trodAll_mk0))))), rfl, bel.frame _, fun h => by cases h⟩

theorem proved : Rows.PageBackSaid :=
  OpenClaim.holds_of_wide 5 Try.f5 rfl rfl rfl rfl rfl rfl rfl ⟨rfl, rfl, rfl, rfl, rfl⟩ rfl rfl rfl rfl rfl (by kernel_rfl) Try.func5 (by kernel_rfl)
    (of_decide_eq_true (by kernel_rfl)) (by unfold Func.isWrapper; first | (rw [if_pos (by decide +kernel)]; kernel_rfl) | (rw [if_neg (by decide +kernel)]; exact ⟨rfl, rfl⟩))
    (fun os started H enc _ => lifted os started H enc)

end Go.Proofs.Ytdmomnpmicagcaa.pageBack
