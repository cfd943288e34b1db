/-
  deal.stepsTo.
-/
import Derived.Test.YtggpldghdaggfaaDlProA
import Derived.Test.YtggpldghdaggfaaDlProB
import Derived.Test.YtggpldghdaggfaaRDlD
import Derived.BigRegion
namespace Go.Proofs.Ytggpldghdaggfaa
open Go.RowKit
set_option linter.unusedVariables false

set_option maxHeartbeats 4000000 in
theorem pto_any (v : Value) (p : List Int) (B : Nat) (w : World) (hn : p.length ≤ 65536) (hB : B ≤ w.heap.size) (ho : Dl.Ord p) (h : Lv iK w B v p) :
    Calls Try.prog 39 #[v] w (IsL1 iK (Dl.back p) w) := by
  have H0 := Lib.hid h
  obtain ⟨A, c, rfl, h1, h2, _⟩ := h
  have hl : p.length ≤ 9223372036854775807 := by omega
  obtain ⟨m, hm⟩ : ∃ m : Nat, m = p.length - 1 := ⟨_, rfl⟩
  have HC1 := Lib.hid (fun w => pcount_any p.length m hn hm w)
  have HPc := Lib.hid (fun w => pplaces_any (p.length : Int) (by omega) (by omega) w)
  have HI := Lib.hid (fun w => pinplace_any p.length hn w)
  have HM := Lib.hid hm
  have HO := Lib.hid ho
  have HX : Hid (Dl.back p = Dl.backs p m (Dl.ids p.length)) := by unfold Hid Dl.back; rw [hm]
  have HXl : Hid ((Dl.back p).length = m) := by unfold Hid Dl.back; rw [Dl.backs_len, hm]
  have hm2 : m ≤ 65536 := by omega
  clear hm h1 h2 ho
  go_enter Try.func39, Try.ntmps39
  go_wp2_with (fail)
  refine (HPc.out _).mono ?_
  rintro e w1 ⟨C, rfl, hC, hcell, hb⟩
  have HB := Lib.hid hb
  have HCC := Lib.hid hcell
  have hCb := hb.size
  clear hb hcell
  go_wp2_with (fail)
  refine (HI.out _).mono ?_
  rintro e w2 ⟨A2, c2, rfl, ho, hb⟩
  rw [Dl.ids_len] at ho ⊢
  have HN0 := Lib.hid ho
  have HB2 := Lib.hid hb
  have hs2 := hb.size
  clear ho hb
  go_wp2_with (fail)
  refine (HI.out _).mono ?_
  rintro e w3 ⟨A3, c3, rfl, ho, hb⟩
  rw [Dl.ids_len] at ho ⊢
  have HAP : Hid (Apart (.slice A2 p.length c2) (.slice A3 p.length c3)) := fun k h1 h2 => by
    have := (HN0.out.lt_ k h1).2
    have := (ho.lt_ k h2).1
    omega
  have HN1 := Lib.hid (HN0.out.below_ hb (Nat.le_refl _))
  have HW1 := Lib.hid (ho.mono_ hs2)
  have HB3 := Lib.hid (HB2.out.trans (hb.mono hs2))
  have hs3 := HB3.out.size
  clear ho hb HN0 HB2 hs2
  go_wp2_with (fail)
  refine (HC1.out _).mono ?_
  rintro e w4 ⟨rfl, rfl⟩
  go_wp2_with (at_make; go_must (refine wpList_make_l _ iK rfl _ _ rfl w1.heap.size .i64 .i64 _ _ m m rfl rfl rfl rfl (Nat.le_refl _) (by show 8 * _ ≤ _; omega) (by simp only [maxLen]; omega) hs3 ?_; intro w5 hO hG))
  have HT0 := Lib.hid hO
  have HB5 := Lib.hid (HB3.out.grown hG hs3 (by intro k hk; cases hk))
  have HN5 := Lib.hid (HN1.out.kept_ hG (by cases (Value.slice A2 p.length c2).ownBlock <;> simp))
  have HW5 := Lib.hid (HW1.out.kept_ hG (by cases (Value.slice A3 p.length c3).ownBlock <;> simp))
  have HGn : Hid (∀ k, (Value.slice A2 p.length c2).ownBlock = some k → k < w3.heap.size) := fun k hk => (HN1.out.lt_ k hk).2
  have HGw : Hid (∀ k, (Value.slice A3 p.length c3).ownBlock = some k → k < w3.heap.size) := fun k hk => (HW1.out.lt_ k hk).2
  obtain ⟨G, hGe⟩ : ∃ G, w3.heap.size = G := ⟨_, rfl⟩
  have hg1 : w1.heap.size ≤ w3.heap.size := hs3
  rw [hGe] at HT0 hg1 HGn HGw ⊢
  clear hO hG hGe hs3 HB3 HN1 HW1
  go_wp2_with (fail)
  refine (HC1.out _).mono ?_
  rintro e w6 ⟨rfl, rfl⟩
  go_wp2
  go_loopw [24] (fun i wr => ∃ (k0 : Nat) (t now whr : List Int), k0 ≤ m ∧ i = .int .i64 k0 ∧ Hid (t.length = m) ∧ Hid (t.take k0 ++ Dl.backs p (m - k0) now = Dl.back p) ∧ Hid (now.length = p.length) ∧ Hid (now.Perm (Dl.ids now.length)) ∧ Hid (Dl.inv now whr) ∧ Hid (OwnL iK wr w1.heap.size (.slice A2 p.length c2) now) ∧ Hid (OwnL iK wr w1.heap.size (.slice A3 p.length c3) whr) ∧ Hid (OwnL iK wr w1.heap.size (.slice (some ⟨G, 0, none⟩) m m) t) ∧ Below w1.heap.size w1 wr) (fun i _ => m - (intOf i).toNat)
  case atStart =>
    refine ⟨0, List.replicate m 0, Dl.ids p.length, Dl.ids p.length, by omega, rfl, by simp [Hid], ?_, Dl.ids_len _, ?_, Dl.inv_ids _, HN5.out, HW5.out, HT0.out, HB5.out⟩
    · unfold Hid; rw [HX.out]; rfl
    · unfold Hid; rw [Dl.ids_len]
  case round =>
    obtain ⟨k0, t, now, whr, hk0, rfl, HTl, HE, HNl, HP, HV, HN, HW, HT, hbr⟩ := hrel
    have hbw := HB.out.trans (hbr.mono hCb)
    have HBW := Lib.hid hbw
    clear HT0 HB5 HN5 HW5
    by_cases hlt : k0 < m
    · obtain ⟨j, hj⟩ : ∃ j, m - k0 = j + 1 := ⟨m - k0 - 1, by omega⟩
      have hj2 : m - (k0 + 1) = j := by omega
      have HK : Hid (k0 + 1 ≤ m) := by unfold Hid; omega
      have hkm : (k0 : Int) < (m : Int) := by omega
      have hM := HM.out
      have hjp : j + 1 < p.length := by omega
      have hcc : wr.cell? ⟨C, 0, none⟩ = some (.int .i64 ((p.length : Int) - 1)) := (hbr.cell (p := ⟨C, 0, none⟩) hC).trans HCC.out
      have HPl := Lib.hid ((pplace_any C ((p.length : Int) - 1) (k0 : Int) wr hcc (by omega) (by omega) (by omega) (by omega)))
      rw [show ((p.length : Int) - 1) - (k0 : Int) = (j : Int) + 1 by omega] at HPl
      obtain ⟨pb, po, x0, rfl, hpb, hx0, hd, hcell⟩ := (H0.out.below_ hbw hB).int_ hjp
      have hq0 := HO.out.1 x0 (List.mem_of_getElem? hd)
      obtain ⟨q, rfl⟩ := Int.eq_ofNat_of_zero_le hq0.1
      have hq : q < p.length := by omega
      have hnl := HNl.out
      have hn' := HP.out.nodup_iff.2 (Dl.ids_nodup _)
      -- what stands at place j + 1 of now
      obtain ⟨gn, y, en, -, hgn, hyI, hy, hcn, hfn⟩ := HN.out.int_ (k := j + 1) (by omega)
      have hyb := Dl.mem_ids.1 (HP.out.mem_iff.1 (List.mem_of_getElem? hy))
      obtain ⟨x, rfl⟩ := Int.eq_ofNat_of_zero_le hyb.1
      have hx : x < now.length := by omega
      -- where q stands
      have hwq := HV.out.2 q (by omega)
      obtain ⟨gw, z, ew, -, hgw, hzI, hz, hcw, hfw⟩ := HW.out.int_ (k := q) (by rw [HV.out.1]; omega)
      rw [hwq] at hz
      obtain ⟨k, hk⟩ : ∃ k, Dl.pos now (q : Int) = k := ⟨_, rfl⟩
      rw [hk] at hz hwq
      obtain rfl := (Option.some.inj hz).symm
      have hqm : (q : Int) ∈ now := HP.out.mem_iff.2 (Dl.mem_ids.2 ⟨by omega, by omega⟩)
      have hkl : k < now.length := by rw [← hk]; exact Dl.pos_lt hqm
      have hkq : now[k]? = some (q : Int) := by rw [← hk]; exact Dl.at_pos hqm
      subst en ew
      have hap : gn ≠ gw := fun e => HAP.out gn rfl (by rw [e]; rfl)
      have hgnG : gn ≠ G := fun e => by have := HGn.out gn rfl; omega
      have hgwG : gw ≠ G := fun e => by have := HGw.out gw rfl; omega
      have he := HE.out
      rw [hj, Dl.backs, Dl.at_of hd, hk] at he
      have hkt : k0 < t.length := by rw [HTl.out]; exact hlt
      have HE2 : Hid ((t.set k0 (k : Int)).take (k0 + 1) ++ Dl.backs p (m - (k0 + 1)) (Dl.swap now (j + 1) k) = Dl.back p) := by unfold Hid; rw [take_set_snoc hkt, List.append_assoc, hj2]; exact he
      have HTl2 : Hid ((t.set k0 (k : Int)).length = m) := by unfold Hid; rw [List.length_set]; exact HTl.out
      have hinv := Dl.inv_swap HP.out HV.out (i := j + 1) (q := q) (by omega) (by omega) hy hk
      have hkI : I64 (k : Int) := hzI
      have hqI : I64 (q : Int) := i64_nat (by omega)
      have hjI : I64 ((j : Int) + 1) := by have := i64_nat (n := j + 1) (by omega); simpa using this
      have hqi : (q : Int) < (p.length : Int) := by omega
      have hji : (j : Int) + 1 < (p.length : Int) := by omega
      have hki : (k : Int) < (p.length : Int) := by omega
      have hxi : (x : Int) < (p.length : Int) := by omega
      have hql : q < whr.length := by rw [HV.out.1]; omega
      have hxl : x < whr.length := by rw [HV.out.1]; omega
      have hjl : j + 1 < now.length := by omega
      have HNl2 : Hid ((Dl.swap now (j + 1) k).length = p.length) := by unfold Hid; rw [Dl.swap_len]; exact hnl
      have HP2 : Hid ((Dl.swap now (j + 1) k).Perm (Dl.ids (Dl.swap now (j + 1) k).length)) := by unfold Hid; rw [Dl.swap_len]; exact (Dl.swap_perm (by omega) hkl).trans HP.out
      have hnow : (now.set (j + 1) (q : Int)).set k (x : Int) = Dl.swap now (j + 1) k := by unfold Dl.swap; rw [Dl.at_of hkq, Dl.at_of hy]
      -- now: place j + 1, place k
      have hcnk : wr.cell? ⟨gn, k, none⟩ = some (.int .i64 (q : Int)) := by
        obtain ⟨z, hz2, hc2⟩ := HN.out.was_ hkl
        rw [hkq] at hz2
        obtain rfl := Option.some.inj hz2
        exact hc2
      have hfnk := HN.out.cool_ k
      have hne8 : (gn : Nat) ≠ gw := hap
      have hneN : (Value.slice (some ⟨gn, 0, none⟩) p.length c2).ownBlock ≠ some gw := by simpa [Value.ownBlock] using hap
      have hneW : (Value.slice (some ⟨gw, 0, none⟩) p.length c3).ownBlock ≠ some gn := by simpa [Value.ownBlock] using (Ne.symm hap)
      have hneTn : (Value.slice (some ⟨G, 0, none⟩) m m).ownBlock ≠ some gn := by simpa [Value.ownBlock] using (Ne.symm hgnG)
      have hneTw : (Value.slice (some ⟨G, 0, none⟩) m m).ownBlock ≠ some gw := by simpa [Value.ownBlock] using (Ne.symm hgwG)
      obtain ⟨s1, g1⟩ := HN.out.setInt_ hjl hqI
      obtain ⟨s2, g2⟩ := s1.setInt_ (j := k) (by rw [List.length_set]; exact hkl) hyI
      rw [hnow] at s2
      have b2 := ((hbr.setCell (p := ⟨gn, j + 1, none⟩) hgn (.int .i64 (q : Int))).setCell (p := ⟨gn, k, none⟩) hgn (.int .i64 (x : Int))).drew
      have W2a := (HW.out.kept_ g1 (.inr hneW)).kept_ g2 (.inr hneW)
      have T2a := (HT.out.kept_ g1 (.inr hneTn)).kept_ g2 (.inr hneTn)
      have HN2 := Lib.hid s2.drew_
      have HW2 := Lib.hid W2a.drew_
      have HT2 := Lib.hid T2a.drew_
      have HB2 := Lib.hid b2
      clear s1 s2 g1 g2 b2 W2a T2a hnow
      have HD := Lib.hid hd
      have HYx := Lib.hid hy
      have HKQ := Lib.hid hkq
      have HK2 := Lib.hid hk
      have HINV := Lib.hid hinv
      have HK3 : Hid (I64 ((j : Int) + 1) ∧ I64 (k : Int)) := ⟨hjI, hkI⟩
      have HKT := Lib.hid hkt
      have HTN : Hid ((Value.slice (some ⟨gn, 0, none⟩) p.length c2).ownBlock ≠ some G) := by unfold Hid; simpa [Value.ownBlock] using hgnG
      have HTW : Hid ((Value.slice (some ⟨gw, 0, none⟩) p.length c3).ownBlock ≠ some G) := by unfold Hid; simpa [Value.ownBlock] using hgwG
      by_cases e : j + 1 = k
      · subst e
        have exq : q = x := by rw [hy] at hkq; have := Option.some.inj hkq; omega
        subst exq
        have HV5 : Hid (Dl.inv (Dl.swap now (j + 1) (j + 1)) ((whr.set q ((j : Int) + 1)).set q ((j : Int) + 1))) := by
          obtain ⟨e1, e2, -⟩ := Dl.inv_same HP.out HV.out (i := j + 1) (q := q) (by omega) (by omega) hk
          unfold Hid
          have e4 : (((j + 1 : Nat)) : Int) = (j : Int) + 1 := by omega
          rw [e4, List.set_set] at e2
          rw [e1, e2]
          exact HV.out
        clear he hd hy hwq hkq hz hx0 hq0 hyb hk hj hj2 hn' hqm hcc hkt hinv hyI hzI hkI hqI hjI HE HTl HN HW HT hbr hbw hM hnl HBW HINV hcnk hfnk
        go_wp2_with (fail)
        refine (HPl.out).mono ?_
        rintro e w4 ⟨rfl, rfl⟩
        go_wp2_with (fail)
        go_region
        generalize hW : (((wr.setCell ⟨gn, j + 1, none⟩ (.int .i64 (q : Int))).setCell ⟨gn, j + 1, none⟩ (.int .i64 (q : Int))).drew) = W2 at HN2 HW2 HT2 HB2 ⊢
        clear hW hcn hfn hcw hfw hcell
        have hcn1 : W2.cell? ⟨gn, j + 1, none⟩ = some (.int .i64 (q : Int)) := by
          obtain ⟨z, hz2, hc2⟩ := HN2.out.was_ (k := j + 1) (by rw [Dl.swap_len]; exact hjl)
          rw [Dl.swap_at hjl hjl, if_pos rfl, Dl.at_of HYx.out] at hz2
          obtain rfl := Option.some.inj hz2
          exact hc2
        have hjI2 : I64 ((j : Int) + 1) := HK3.out.1
        obtain ⟨z1, -, hcw1⟩ := HW2.out.was_ hql
        have hfw1 := HW2.out.cool_ q
        obtain ⟨s3, g3⟩ := HW2.out.setInt_ hql hjI2
        obtain ⟨s4, g4⟩ := s3.setInt_ (j := q) (by rw [List.length_set]; exact hxl) hjI2
        have b4 := ((HB2.out.setCell (p := ⟨gw, q, none⟩) hgw (.int .i64 ((j : Int) + 1))).setCell (p := ⟨gw, q, none⟩) hgw (.int .i64 ((j : Int) + 1))).drew
        have N4a := (HN2.out.kept_ g3 (.inr hneN)).kept_ g4 (.inr hneN)
        have T4a := (HT2.out.kept_ g3 (.inr hneTw)).kept_ g4 (.inr hneTw)
        have HN4 := Lib.hid N4a.drew_
        have HW4 := Lib.hid s4.drew_
        have HT4 := Lib.hid T4a.drew_
        have HB4 := Lib.hid b4
        clear s3 s4 g3 g4 b4 N4a T4a hjI2
        go_wp2_with (fail)
        go_region
        generalize hW : (((W2.setCell ⟨gw, q, none⟩ (.int .i64 ((j : Int) + 1))).setCell ⟨gw, q, none⟩ (.int .i64 ((j : Int) + 1))).drew) = W4 at HN4 HW4 HT4 HB4 ⊢
        clear hW hcn1 hcw1 hfw1
        obtain ⟨z5, -, hct⟩ := HT4.out.was_ HKT.out
        have hft := HT4.out.cool_ k0
        obtain ⟨s5, g5⟩ := HT4.out.setInt_ HKT.out HK3.out.1
        have HT5 := Lib.hid s5
        have HN5 := Lib.hid (HN4.out.kept_ g5 (.inr HTN.out))
        have HW5 := Lib.hid (HW4.out.kept_ g5 (.inr HTW.out))
        have HB5 := Lib.hid (HB4.out.setCell (p := ⟨G, k0, none⟩) hg1 (.int .i64 ((j : Int) + 1)))
        have e4 : (((j + 1 : Nat)) : Int) = (j : Int) + 1 := by omega
        rw [e4] at HTl2 HE2
        clear s5 g5 e4
        go_wp2
        exact ⟨⟨k0 + 1, t.set k0 ((j : Int) + 1), _, _, HK.out, by go_num, HTl2.out, HE2.out, HNl2.out, HP2.out, HV5.out, HN5.out, HW5.out, HT5.out, HB5.out⟩, by simp [intOf]; omega⟩
      · have e' : k ≠ j + 1 := fun h => e h.symm
        have HQX : Hid (q ≠ x) := fun h => e (Dl.nodup_at hn' (by rw [← h] at hy; exact hy) hkq)
        clear he hd hy hwq hkq hz hx0 hq0 hyb hk hj hj2 hn' hqm hcc hkt hinv hyI hzI hkI hqI hjI HE HTl HN HW HT hbr hbw hM hnl HBW
        go_wp2_with (fail)
        refine (HPl.out).mono ?_
        rintro e w4 ⟨rfl, rfl⟩
        go_wp2_with (fail)
        go_region
        generalize hW : (((wr.setCell ⟨gn, j + 1, none⟩ (.int .i64 (q : Int))).setCell ⟨gn, k, none⟩ (.int .i64 (x : Int))).drew) = W2 at HN2 HW2 HT2 HB2 ⊢
        clear hW hcn hfn hcw hfw hcnk hfnk hcell
        -- where: place q, place x
        have hsk : (Dl.swap now (j + 1) k)[k]? = some (x : Int) := by rw [Dl.swap_at hjl hkl, if_pos rfl, Dl.at_of HYx.out]
        have hsj : (Dl.swap now (j + 1) k)[j + 1]? = some (q : Int) := by rw [Dl.swap_at hjl hkl, if_neg e', if_pos rfl, Dl.at_of HKQ.out]
        have hcn1 : W2.cell? ⟨gn, j + 1, none⟩ = some (.int .i64 (q : Int)) := by
          obtain ⟨z, hz2, hc2⟩ := HN2.out.was_ (k := j + 1) (by rw [Dl.swap_len]; exact hjl)
          rw [hsj] at hz2
          obtain rfl := Option.some.inj hz2
          exact hc2
        have hcn2 : W2.cell? ⟨gn, k, none⟩ = some (.int .i64 (x : Int)) := by
          obtain ⟨z, hz2, hc2⟩ := HN2.out.was_ (k := k) (by rw [Dl.swap_len]; exact hkl)
          rw [hsk] at hz2
          obtain rfl := Option.some.inj hz2
          exact hc2
        have hjI2 : I64 ((j : Int) + 1) := HK3.out.1
        have hkI2 : I64 (k : Int) := HK3.out.2
        obtain ⟨z1, -, hcw1⟩ := HW2.out.was_ hql
        obtain ⟨z2, -, hcw2⟩ := HW2.out.was_ hxl
        have hfw1 := HW2.out.cool_ q
        have hfw2 := HW2.out.cool_ x
        obtain ⟨s3, g3⟩ := HW2.out.setInt_ hql hjI2
        obtain ⟨s4, g4⟩ := s3.setInt_ (j := x) (by rw [List.length_set]; exact hxl) hkI2
        have b4 := ((HB2.out.setCell (p := ⟨gw, q, none⟩) hgw (.int .i64 ((j : Int) + 1))).setCell (p := ⟨gw, x, none⟩) hgw (.int .i64 (k : Int))).drew
        have N4a := (HN2.out.kept_ g3 (.inr hneN)).kept_ g4 (.inr hneN)
        have T4a := (HT2.out.kept_ g3 (.inr hneTw)).kept_ g4 (.inr hneTw)
        have HN4 := Lib.hid N4a.drew_
        have HW4 := Lib.hid s4.drew_
        have HT4 := Lib.hid T4a.drew_
        have HB4 := Lib.hid b4
        clear s3 s4 g3 g4 b4 N4a T4a hsk hsj hjI2 hkI2
        by_cases eq : q = x
        · exact absurd eq HQX.out
        go_wp2_with (fail)
        go_region
        generalize hW : (((W2.setCell ⟨gw, q, none⟩ (.int .i64 ((j : Int) + 1))).setCell ⟨gw, x, none⟩ (.int .i64 (k : Int))).drew) = W4 at HN4 HW4 HT4 HB4 ⊢
        clear hW hcn1 hcn2 hcw1 hcw2 hfw1 hfw2
        obtain ⟨z5, -, hct⟩ := HT4.out.was_ HKT.out
        have hft := HT4.out.cool_ k0
        obtain ⟨s5, g5⟩ := HT4.out.setInt_ HKT.out HK3.out.2
        have HT5 := Lib.hid s5
        have HN5 := Lib.hid (HN4.out.kept_ g5 (.inr HTN.out))
        have HW5 := Lib.hid (HW4.out.kept_ g5 (.inr HTW.out))
        have HB5 := Lib.hid (HB4.out.setCell (p := ⟨G, k0, none⟩) hg1 (.int .i64 (k : Int)))
        have HV5 : Hid (Dl.inv (Dl.swap now (j + 1) k) ((whr.set q ((j : Int) + 1)).set x (k : Int))) := by
          rcases HINV.out with h | h
          · unfold Hid
            have e4 : (((j + 1 : Nat)) : Int) = (j : Int) + 1 := by omega
            rw [e4] at h
            exact h
          · omega
        clear s5 g5
        go_wp2
        exact ⟨⟨k0 + 1, t.set k0 (k : Int), _, _, HK.out, by go_num, HTl2.out, HE2.out, HNl2.out, HP2.out, HV5.out, HN5.out, HW5.out, HT5.out, HB5.out⟩, by simp [intOf]; omega⟩
    · have he := HE.out
      rw [show m - k0 = 0 by omega, Dl.backs, List.append_nil, List.take_of_length_le (by rw [HTl.out]; omega)] at he
      have HT6 := HT
      rw [he] at HT6
      have hkm : ¬ (k0 : Int) < (m : Int) := by omega
      clear HE he
      go_wp2
      go_ret
      exact ⟨some ⟨G, 0, none⟩, m, by rw [HXl.out]; rfl, by rw [HXl.out]; exact HT6.out.mono_ hCb, HBW.out⟩
end Go.Proofs.Ytggpldghdaggfaa
