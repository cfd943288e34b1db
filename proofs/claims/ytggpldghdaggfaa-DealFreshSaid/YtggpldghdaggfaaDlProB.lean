/-
  deal.Is, refuseOrder, Turn, Take.
-/
import Derived.Test.YtggpldghdaggfaaDlProA
namespace Go.Proofs.Ytggpldghdaggfaa
open Go.RowKit
set_option linter.unusedVariables false

theorem take_set_snoc {α : Type} {l : List α} {k : Nat} {x : α} (h : k < l.length) : (l.set k x).take (k + 1) = l.take k ++ [x] := by
  rw [take_snoc (x := x) (by simp [h]), List.take_set, List.set_eq_of_length_le (by rw [List.length_take]; omega)]

set_option maxHeartbeats 2000000 in
theorem pis_any (v : Value) (p : List Int) (B : Nat) (w : World) (hB : B ≤ w.heap.size) (h : Lv iK w B v p) :
    Calls Try.prog 24 #[v] w (IsBool (Dl.isOrd p) w) := by
  have H0 := Lib.hid h
  obtain ⟨A, c, rfl, h1, h2, _⟩ := h
  have hl : p.length ≤ 9223372036854775807 := by simp only [maxLen] at h2; omega
  clear h1 h2
  by_cases hm : 65536 < p.length
  · have HX : Hid (Dl.isOrd p = false) := by unfold Hid Dl.isOrd; rw [decide_eq_false (by omega)]; rfl
    go_enter Try.func24, Try.ntmps24
    go_wp2
    go_ret
    exact ⟨by rw [HX.out]; rfl, Below.refl _ _⟩
  have HM : Hid (p.length ≤ 65536) := by unfold Hid; omega
  go_enter Try.func24, Try.ntmps24
  go_wp2_with (at_make; go_must (refine wpList_make_l _ bK rfl _ _ rfl w.heap.size .i64 .i64 _ _ p.length p.length rfl rfl rfl rfl (Nat.le_refl _) (by show 1 * _ ≤ _; omega) (by simp only [maxLen]; omega) (Nat.le_refl _) ?_; intro w1 hO hG))
  have HO := Lib.hid hO
  have HB := Lib.hid ((Below.refl w.heap.size w).grown hG (Nat.le_refl _) (by intro k hk; cases hk))
  clear hO hG
  go_loopw [14] (fun i wr => ∃ (k : Nat) (b : List Bool), k ≤ p.length ∧ i = .int .i64 k ∧ Hid (b.length = p.length) ∧ Hid (Dl.marks p k b) ∧ Hid (Dl.good p k) ∧ Hid (OwnL bK wr w.heap.size (.slice (some ⟨w.heap.size, 0, none⟩) p.length p.length) b) ∧ Below w.heap.size w wr) (fun i _ => p.length - (intOf i).toNat)
  case atStart => exact ⟨0, List.replicate p.length false, by omega, rfl, by simp [Hid], Dl.marks_zero _ _, Dl.good_zero _, HO.out, HB.out⟩
  case round =>
    obtain ⟨k, b, hk, rfl, HBl, HK, HG, HT, hbr⟩ := hrel
    clear HO HB
    by_cases hlt : k < p.length
    · obtain ⟨b1, o1, x, rfl, hb1, hx, hd, hcell⟩ := (H0.out.below_ hbr hB).int_ hlt
      have HD := Lib.hid hd
      clear hd hx
      by_cases hx0 : x < 0
      · have HX := Lib.hid (Dl.isOrd_bad HD.out (by omega))
        go_wp2
        go_ret
        exact ⟨by rw [HX.out]; rfl, hbr⟩
      · obtain ⟨q, rfl⟩ := Int.eq_ofNat_of_zero_le (show 0 ≤ x by omega)
        by_cases hx1 : p.length ≤ q
        · have HX := Lib.hid (Dl.isOrd_bad HD.out (by omega))
          have hxi : (p.length : Int) ≤ (q : Int) := by omega
          go_wp2
          go_ret
          exact ⟨by rw [HX.out]; rfl, hbr⟩
        · have hq : q < p.length := by omega
          have hxi : ¬ (p.length : Int) ≤ (q : Int) := by omega
          have hxi2 : (q : Int) < (p.length : Int) := by omega
          have hbl := HBl.out
          obtain ⟨g', t, e2, -, hg, he2, hc2, hfr2⟩ := HT.out.bool_ (k := q) (by omega)
          injection e2 with e2
          injection e2 with e2
          subst e2
          have hmk := HK.out q (by omega)
          rw [he2] at hmk
          have ht := Option.some.inj hmk
          cases t with
          | true =>
            have HX := Lib.hid (Dl.isOrd_bad HD.out (fun h => h.2.2 (of_decide_eq_true ht.symm)))
            clear hmk he2 ht hbl
            go_wp2
            go_ret
            exact ⟨by rw [HX.out]; rfl, hbr⟩
          | false =>
            have HG2 := Lib.hid ((Dl.good_step HD.out).2 ⟨HG.out, by omega, by omega, of_decide_eq_false ht.symm⟩)
            have HK2 := Lib.hid (Dl.marks_step HK.out HD.out)
            obtain ⟨hs1, hg1⟩ := HT.out.setBool_ (j := q) (x := true) (by omega)
            have HS := Lib.hid hs1
            have HBl2 : Hid ((b.set q true).length = p.length) := by unfold Hid; rw [List.length_set]; exact hbl
            have HB2 := Lib.hid (hbr.setCell (p := ⟨w.heap.size, q, none⟩) hg (.bool true))
            clear hmk he2 ht hbl hs1 hg1 HT
            go_wp2
            exact ⟨⟨k + 1, b.set q true, by omega, by go_num, HBl2.out, HK2.out, HG2.out, HS.out, HB2.out⟩, by simp [intOf]; omega⟩
    · have HX := Lib.hid (Dl.isOrd_good HG.out (by omega) HM.out)
      go_wp2
      go_ret
      exact ⟨by rw [HX.out]; rfl, hbr⟩
theorem pwhy_any (v : Value) (p : List Int) (B : Nat) (w : World) (hB : B ≤ w.heap.size) (h : Lv iK w B v p) :
    Calls Try.prog 38 #[v] w (IsErr (Dl.why p) w) := by
  have HI := Lib.hid (pis_any v p B w hB h)
  obtain ⟨A, c, rfl, h1, h2, _⟩ := h
  have hl : p.length ≤ 9223372036854775807 := by simp only [maxLen] at h2; omega
  clear h1 h2
  by_cases hm : 65536 < p.length
  · have HX : Hid (Dl.why p = 3) := by unfold Hid Dl.why; rw [if_pos hm]
    go_enter Try.func38, Try.ntmps38
    go_wp2
    go_ret
    exact ⟨by rw [HX.out]; rfl, Below.refl _ _⟩
  by_cases ho : Dl.why p = 0
  · have HX := Lib.hid ho
    have hi : Dl.isOrd p = true := by rw [Dl.isOrd_why, ho]; rfl
    rw [hi] at HI
    clear ho hi
    go_enter Try.func38, Try.ntmps38
    go_wp2_with (fail)
    refine (HI.out).mono ?_
    rintro e w1 ⟨rfl, hb⟩
    have HB := Lib.hid hb
    clear hb
    go_wp2
    go_ret
    exact ⟨by rw [HX.out]; rfl, HB.out⟩
  · have HX : Hid (Dl.why p = 2) := by
      unfold Hid Dl.why at *
      rw [if_neg hm] at ho ⊢
      by_cases h : Dl.Ord p
      · rw [if_pos h] at ho; exact absurd rfl ho
      · rw [if_neg h]
    have hi : Dl.isOrd p = false := by rw [Dl.isOrd_why, decide_eq_false ho]
    rw [hi] at HI
    clear ho hi
    go_enter Try.func38, Try.ntmps38
    go_wp2_with (fail)
    refine (HI.out).mono ?_
    rintro e w1 ⟨rfl, hb⟩
    have HB := Lib.hid hb
    clear hb
    go_wp2
    go_ret
    exact ⟨by rw [HX.out]; rfl, HB.out⟩


set_option maxHeartbeats 2000000 in
theorem pturn_any (v : Value) (p : List Int) (B : Nat) (w : World) (hB : B ≤ w.heap.size) (h : Lv iK w B v p) :
    Calls Try.prog 22 #[v] w (IsLE iK (Dl.turnE p) w) := by
  have HY := Lib.hid (pwhy_any v p B w hB h)
  have H0 := Lib.hid h
  obtain ⟨A, c, rfl, h1, h2, _⟩ := h
  have hl : p.length ≤ 9223372036854775807 := by simp only [maxLen] at h2; omega
  clear h1 h2
  by_cases hy : Dl.why p = 0
  · have HX : Hid (Dl.turnE p = (Dl.turn p, 0)) := by unfold Hid Dl.turnE; rw [if_pos hy]
    obtain ⟨hm, ho⟩ := Dl.why_zero.1 hy
    have HM := Lib.hid hm
    have HO := Lib.hid ho
    rw [hy] at HY
    clear hy hm ho
    go_enter Try.func22, Try.ntmps22
    go_wp2_with (fail)
    refine (HY.out).mono ?_
    rintro e w1 ⟨rfl, hb⟩
    have HB1 := Lib.hid hb
    have hb1 := hb.size
    have hm := HM.out
    clear hb
    go_wp2_with (at_make; go_must (refine wpList_make_l _ iK rfl _ _ rfl w.heap.size .i64 .i64 _ _ p.length p.length rfl rfl rfl rfl (Nat.le_refl _) (by show 8 * _ ≤ _; omega) (by simp only [maxLen]; omega) hb1 ?_; intro w2 hO hG))
    have HT := Lib.hid hO
    have hg1 : w.heap.size ≤ w1.heap.size := hb1
    have HB := Lib.hid (HB1.out.grown hG hb1 (by intro k hk; cases hk))
    obtain ⟨G, hGe⟩ : ∃ G, w1.heap.size = G := ⟨_, rfl⟩
    rw [hGe] at HT hg1 ⊢
    clear hO hG hb1 HB1 hGe hm
    go_loopw [18] (fun i wr => ∃ (k : Nat) (t : List Int), k ≤ p.length ∧ i = .int .i64 k ∧ Hid (Dl.turning p k t) ∧ Hid (OwnL iK wr w.heap.size (.slice (some ⟨G, 0, none⟩) p.length p.length) t) ∧ Below w.heap.size w wr) (fun i _ => p.length - (intOf i).toNat)
    case atStart => exact ⟨0, List.replicate p.length 0, by omega, rfl, Dl.turning_zero _, HT.out, HB.out⟩
    case round =>
      obtain ⟨k, t, hk, rfl, HK, HT, hbr⟩ := hrel
      clear HB
      by_cases hlt : k < p.length
      · obtain ⟨b1, o1, x, rfl, hb1, hx, hd, hcell⟩ := (H0.out.below_ hbr hB).int_ hlt
        have hx2 := HO.out.1 x (List.mem_of_getElem? hd)
        obtain ⟨q, rfl⟩ := Int.eq_ofNat_of_zero_le hx2.1
        have hq : q < p.length := by omega
        have HK2 := Lib.hid (Dl.turning_step HO.out HK.out hd)
        have hqt : q < t.length := by rw [HK.out.1]; exact hq
        obtain ⟨g', y, e2, -, hg, -, he2, hc2, hfr2⟩ := HT.out.int_ hqt
        injection e2 with e2
        injection e2 with e2
        subst e2
        have hki : I64 (k : Int) := i64_nat (by have := HM.out; omega)
        obtain ⟨hs1, hg2⟩ := HT.out.setInt_ hqt hki
        have HS := Lib.hid hs1
        have HB2 := Lib.hid (hbr.setCell (p := ⟨G, q, none⟩) hg (.int .i64 (k : Int)))
        have hxi2 : (q : Int) < (p.length : Int) := by omega
        clear hd hx hx2 hqt he2 hs1 hg2 HT hki
        go_wp2
        exact ⟨⟨k + 1, t.set q (k : Int), by omega, by go_num, HK2.out, HS.out, HB2.out⟩, by simp [intOf]; omega⟩
      · have hd := Dl.turning_done HO.out HK.out (by omega)
        have HN := Lib.hid HK.out.1
        subst hd
        go_wp2
        go_ret2
        exact IsLE.of HX.out HN.out.symm rfl HT.out hbr
  · have HX : Hid (Dl.turnE p = ([], Dl.why p)) := by unfold Hid Dl.turnE; rw [if_neg hy]
    obtain ⟨y, hye⟩ : ∃ y, Dl.why p = y := ⟨_, rfl⟩
    rw [hye] at HX HY hy
    have hyb : ((y : Int) != 0) = true := by rw [bne_iff_ne]; omega
    clear hye hy
    go_enter Try.func22, Try.ntmps22
    go_wp2_with (fail)
    refine (HY.out).mono ?_
    rintro e w1 ⟨rfl, hb⟩
    have HB := Lib.hid hb
    clear hb
    go_wp2
    go_ret2
    exact IsLE.none_b HX.out rfl HB.out


set_option maxHeartbeats 2000000 in
theorem ptake_any (v u : Value) (p : List Int) (l : List Nat) (B : Nat) (w : World) (hB : B ≤ w.heap.size) (h : Lv iK w B v p) (h' : Lv wK w B u l) :
    Calls Try.prog 26 #[v, u] w (IsLE wK (Dl.takeE p l) w) := by
  have HY := Lib.hid (pwhy_any v p B w hB h)
  have H0 := Lib.hid h
  have H0' := Lib.hid h'
  obtain ⟨A, c, rfl, h1, h2, _⟩ := h
  obtain ⟨A', c', rfl, h1', h2', _⟩ := h'
  have hl : p.length ≤ 9223372036854775807 := by simp only [maxLen] at h2; omega
  have hl' : l.length ≤ 9223372036854775807 := by simp only [maxLen] at h2'; omega
  clear h1 h2 h1' h2'
  by_cases hy : Dl.why p = 0
  · obtain ⟨hm, ho⟩ := Dl.why_zero.1 hy
    by_cases he : l.length = p.length
    · have HX : Hid (Dl.takeE p l = (Dl.takes p l, 0)) := by unfold Hid Dl.takeE; rw [if_pos hy, if_pos he]
      have HM := Lib.hid hm
      have HO := Lib.hid ho
      have HE := Lib.hid he
      have hq : (((l.length : Nat) : Int) != (p.length : Int)) = false := by rw [he]; simp
      have hle1 : l.length ≤ p.length := by omega
      have hle2 : p.length ≤ l.length := by omega
      rw [hy] at HY
      clear hy hm ho he
      go_enter Try.func26, Try.ntmps26
      go_wp2_with (fail)
      refine (HY.out).mono ?_
      rintro e w1 ⟨rfl, hb⟩
      have HB := Lib.hid hb
      clear hb HY
      have hm := HM.out
      have hb1 := HB.out.size
      go_wp2_with (at_make; go_must (refine wpList_make_l _ wK rfl _ _ rfl w.heap.size .i64 .i64 _ _ p.length p.length rfl rfl rfl rfl (Nat.le_refl _) (by show 8 * _ ≤ _; omega) (by simp only [maxLen]; omega) hb1 ?_; intro w2 hO hG))
      have HT := Lib.hid hO
      have hg1 : w.heap.size ≤ w1.heap.size := hb1
      have HB2 := Lib.hid (HB.out.grown hG hb1 (by intro k hk; cases hk))
      obtain ⟨G, hGe⟩ : ∃ G, w1.heap.size = G := ⟨_, rfl⟩
      rw [hGe] at HT hg1 ⊢
      clear hO hG hb1 HB hGe hm
      go_loopw [25] (fun i wr => ∃ (k : Nat) (t : List Nat), k ≤ p.length ∧ i = .int .i64 k ∧ Hid (t.length = p.length) ∧ Hid (t.take k = Dl.takes (p.take k) l) ∧ Hid (OwnL wK wr w.heap.size (.slice (some ⟨G, 0, none⟩) p.length p.length) t) ∧ Below w.heap.size w wr) (fun i _ => p.length - (intOf i).toNat)
      case atStart => exact ⟨0, List.replicate p.length 0, by omega, rfl, by simp [Hid], rfl, HT.out, HB2.out⟩
      case round =>
        obtain ⟨k, t, hk, rfl, HTl, HK, HT, hbr⟩ := hrel
        clear HB2
        by_cases hlt : k < p.length
        · obtain ⟨b1, o1, x, rfl, hb1, hx, hd, hcell⟩ := (H0.out.below_ hbr hB).int_ hlt
          have hx2 := HO.out.1 x (List.mem_of_getElem? hd)
          obtain ⟨q, rfl⟩ := Int.eq_ofNat_of_zero_le hx2.1
          have hq : q < l.length := by omega
          have hqi : (q : Int) < (l.length : Int) := by omega
          obtain ⟨b2, o2, y, rfl, hb2, hy2, hd2, hcell2⟩ := (H0'.out.below_ hbr hB).word_ hq
          have hkt : k < t.length := by rw [HTl.out]; exact hlt
          have HK2 : Hid ((t.set k y).take (k + 1) = Dl.takes (p.take (k + 1)) l) := by
            unfold Hid
            rw [take_set_snoc hkt, HK.out, take_snoc hd]
            simp [Dl.takes, hd2]
          have HTl2 : Hid ((t.set k y).length = p.length) := by unfold Hid; rw [List.length_set]; exact HTl.out
          obtain ⟨g', z, e2, -, hg, -, he2, hc2, hfr⟩ := HT.out.word_ hkt
          injection e2 with e2
          injection e2 with e2
          subst e2
          obtain ⟨hs1, hg2⟩ := HT.out.setWord_ hkt hy2
          have HS := Lib.hid hs1
          have HB3 := Lib.hid (hbr.setCell (p := ⟨G, k, none⟩) hg1 (.int .u64 (y : Int)))
          clear hd hd2 hx hx2 hy2 hs1 hg2 HT HK HTl hkt he2
          go_wp2
          exact ⟨⟨k + 1, t.set k y, by omega, by go_num, HTl2.out, HK2.out, HS.out, HB3.out⟩, by simp [intOf]; omega⟩
        · have hkN : k = p.length := by omega
          have ht := HK.out
          rw [hkN, List.take_length, List.take_of_length_le (by rw [HTl.out]; exact Nat.le_refl _)] at ht
          subst ht
          have HN := Lib.hid (Dl.takes_len p l)
          clear HK hkN
          go_wp2
          go_ret2
          exact IsLE.of HX.out HN.out.symm rfl HT.out hbr
    · have HX : Hid (Dl.takeE p l = ([], 2)) := by unfold Hid Dl.takeE; rw [if_pos hy, if_neg he]
      have hq : (((l.length : Nat) : Int) != (p.length : Int)) = true := by rw [bne_iff_ne]; omega
      rw [hy] at HY
      clear hy hm ho he
      go_enter Try.func26, Try.ntmps26
      go_wp2_with (fail)
      refine (HY.out).mono ?_
      rintro e w1 ⟨rfl, hb⟩
      have HB := Lib.hid hb
      clear hb HY
      go_wp2
      go_ret2
      exact IsLE.none_b HX.out rfl HB.out
  · have HX : Hid (Dl.takeE p l = ([], Dl.why p)) := by unfold Hid Dl.takeE; rw [if_neg hy]
    obtain ⟨y, hye⟩ : ∃ y, Dl.why p = y := ⟨_, rfl⟩
    rw [hye] at HX HY hy
    have hyb : ((y : Int) != 0) = true := by rw [bne_iff_ne]; omega
    clear hye hy
    go_enter Try.func26, Try.ntmps26
    go_wp2_with (fail)
    refine (HY.out).mono ?_
    rintro e w1 ⟨rfl, hb⟩
    have HB := Lib.hid hb
    clear hb
    go_wp2
    go_ret2
    exact IsLE.none_b HX.out rfl HB.out


end Go.Proofs.Ytggpldghdaggfaa
