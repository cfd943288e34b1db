/-
  stookref06.Is, why, Turn.
-/
import Derived.Test.YtggpldghdaggfaaKInt
import Derived.Test.YtggpldghdaggfaaKBool
import Derived.Test.YtggpldghdaggfaaLAns
import Derived.Test.YtggpldghdaggfaaMem
import Derived.Test.YtggpldghdaggfaaDlMath
import Derived.Deep.QuietTactic
import Derived.BigQuiet
namespace Go.Proofs.Ytggpldghdaggfaa
open Go.RowKit
set_option linter.unusedVariables false

namespace Dl
/-- What stands in the first k places may be, so far. -/
def good (p : List Int) (k : Nat) : Prop := (∀ x ∈ p.take k, 0 ≤ x ∧ x < p.length) ∧ (p.take k).Nodup
theorem good_zero (p : List Int) : good p 0 := by simp [good]
theorem ord_good {p : List Int} (h : Ord p) (k : Nat) : good p k := ⟨fun x hx => h.1 x (List.mem_of_mem_take hx), h.2.sublist (List.take_sublist k p)⟩
theorem good_ord {p : List Int} {k : Nat} (h : good p k) (hk : p.length ≤ k) : Ord p := by
  unfold good at h
  rwa [List.take_of_length_le hk] at h
theorem good_step {p : List Int} {k : Nat} {x : Int} (h : p[k]? = some x) : good p (k + 1) ↔ good p k ∧ 0 ≤ x ∧ x < p.length ∧ x ∉ p.take k := by
  unfold good
  rw [take_snoc h, List.nodup_append]
  constructor
  · rintro ⟨h1, h2, _, h3⟩
    refine ⟨⟨fun y hy => h1 y (List.mem_append_left _ hy), h2⟩, (h1 x (by simp)).1, (h1 x (by simp)).2, fun hx => h3 x hx x (by simp) rfl⟩
  · rintro ⟨⟨h1, h2⟩, h3, h4, h5⟩
    refine ⟨fun y hy => ?_, h2, by simp, fun a ha b hb e => ?_⟩
    · rcases List.mem_append.1 hy with hy | hy
      · exact h1 y hy
      · simp at hy; subst hy; exact ⟨h3, h4⟩
    · simp at hb
      subst hb e
      exact h5 ha
theorem isOrd_bad {p : List Int} {k : Nat} {x : Int} (h : p[k]? = some x) (hb : ¬ (0 ≤ x ∧ x < p.length ∧ x ∉ p.take k)) : isOrd p = false := by
  unfold isOrd
  rw [Bool.and_eq_false_iff]
  right
  rw [decide_eq_false_iff_not]
  intro ho
  exact hb ((good_step h).1 (ord_good ho (k + 1))).2
theorem isOrd_good {p : List Int} {k : Nat} (h : good p k) (hk : p.length ≤ k) (hm : p.length ≤ 65536) : isOrd p = true := by
  unfold isOrd
  rw [decide_eq_true hm, decide_eq_true (good_ord h hk)]; rfl
/-- The numbers of the first k places are marked. -/
def marks (p : List Int) (k : Nat) (b : List Bool) : Prop := ∀ y, y < b.length → b[y]? = some (decide ((y : Int) ∈ p.take k))
theorem marks_zero (p : List Int) (n : Nat) : marks p 0 (List.replicate n false) := by
  intro y hy
  simp at hy
  simp [hy]
theorem marks_step {p : List Int} {k : Nat} {b : List Bool} (h : marks p k b) {q : Nat} (hq : p[k]? = some (q : Int)) : marks p (k + 1) (b.set q true) := by
  intro y hy
  rw [List.length_set] at hy
  rw [List.getElem?_set, take_snoc hq]
  by_cases e : q = y
  · subst e
    rw [if_pos rfl, if_pos hy]
    simp
  · rw [if_neg e, h y hy]
    have : (y : Int) ≠ (q : Int) := by omega
    simp [this]
end Dl

set_option maxHeartbeats 2000000 in
theorem ris_any (v : Value) (p : List Int) (B : Nat) (w : World) (hB : B ≤ w.heap.size) (h : Lv iK w B v p) :
    Calls Try.prog 25 #[v] w (IsBool (Dl.isOrd p) w) := by
  have H0 := Lib.hid h
  obtain ⟨A, c, rfl, h1, h2, _⟩ := h
  have hl : p.length ≤ 9223372036854775807 := by simp only [maxLen] at h2; omega
  clear h1 h2
  by_cases hm : 65536 < p.length
  · have HX : Hid (Dl.isOrd p = false) := by unfold Hid Dl.isOrd; rw [decide_eq_false (by omega)]; rfl
    go_enter Try.func25, Try.ntmps25
    go_wp2
    go_ret
    exact ⟨by rw [HX.out]; rfl, Below.refl _ _⟩
  have HM : Hid (p.length ≤ 65536) := by unfold Hid; omega
  go_enter Try.func25, Try.ntmps25
  go_wp2_with (at_make; go_must (refine wpList_make_l _ bK rfl _ _ rfl w.heap.size .i64 .i64 _ _ p.length p.length rfl rfl rfl rfl (Nat.le_refl _) (by show 1 * _ ≤ _; omega) (by simp only [maxLen]; omega) (Nat.le_refl _) ?_; intro w1 hO hG))
  have HO := Lib.hid hO
  have HB := Lib.hid ((Below.refl w.heap.size w).grown hG (Nat.le_refl _) (by intro k hk; cases hk))
  clear hO hG
  go_loopw [4] (fun i wr => ∃ (k : Nat) (b : List Bool), k ≤ p.length ∧ i = .int .i64 k ∧ Hid (b.length = p.length) ∧ Hid (Dl.marks p k b) ∧ Hid (Dl.good p k) ∧ Hid (OwnL bK wr w.heap.size (.slice (some ⟨w.heap.size, 0, none⟩) p.length p.length) b) ∧ Below w.heap.size w wr) (fun i _ => p.length - (intOf i).toNat)
  case atStart => exact ⟨0, List.replicate p.length false, by omega, rfl, by simp [Hid], Dl.marks_zero _ _, Dl.good_zero _, HO.out, HB.out⟩
  case round =>
    obtain ⟨k, b, hk, rfl, HBl, HK, HG, HT, hbr⟩ := hrel
    clear HO HB
    by_cases hlt : k < p.length
    · obtain ⟨b1, o1, x, rfl, hb1, hx, hd, hcell⟩ := (H0.out.below_ hbr hB).int_ hlt
      have HD := Lib.hid hd
      clear hd hx
      by_cases hx0 : x < 0
      · have HX := Lib.hid (Dl.isOrd_bad HD.out (by omega))
        go_wp2
        go_ret
        exact ⟨by rw [HX.out]; rfl, hbr⟩
      · obtain ⟨q, rfl⟩ := Int.eq_ofNat_of_zero_le (show 0 ≤ x by omega)
        by_cases hx1 : p.length ≤ q
        · have HX := Lib.hid (Dl.isOrd_bad HD.out (by omega))
          have hxi : (p.length : Int) ≤ (q : Int) := by omega
          go_wp2
          go_ret
          exact ⟨by rw [HX.out]; rfl, hbr⟩
        · have hq : q < p.length := by omega
          have hxi : ¬ (p.length : Int) ≤ (q : Int) := by omega
          have hxi2 : (q : Int) < (p.length : Int) := by omega
          have hbl := HBl.out
          obtain ⟨g', t, e2, -, hg, he2, hc2, hfr2⟩ := HT.out.bool_ (k := q) (by omega)
          injection e2 with e2
          injection e2 with e2
          subst e2
          have hmk := HK.out q (by omega)
          rw [he2] at hmk
          have ht := Option.some.inj hmk
          cases t with
          | true =>
            have HX := Lib.hid (Dl.isOrd_bad HD.out (fun h => h.2.2 (of_decide_eq_true ht.symm)))
            clear hmk he2 ht hbl
            go_wp2
            go_ret
            exact ⟨by rw [HX.out]; rfl, hbr⟩
          | false =>
            have HG2 := Lib.hid ((Dl.good_step HD.out).2 ⟨HG.out, by omega, by omega, of_decide_eq_false ht.symm⟩)
            have HK2 := Lib.hid (Dl.marks_step HK.out HD.out)
            obtain ⟨hs1, hg1⟩ := HT.out.setBool_ (j := q) (x := true) (by omega)
            have HS := Lib.hid hs1
            have HBl2 : Hid ((b.set q true).length = p.length) := by unfold Hid; rw [List.length_set]; exact hbl
            have HB2 := Lib.hid (hbr.setCell (p := ⟨w.heap.size, q, none⟩) hg (.bool true))
            clear hmk he2 ht hbl hs1 hg1 HT
            go_wp2
            exact ⟨⟨k + 1, b.set q true, by omega, by go_num, HBl2.out, HK2.out, HG2.out, HS.out, HB2.out⟩, by simp [intOf]; omega⟩
    · have HX := Lib.hid (Dl.isOrd_good HG.out (by omega) HM.out)
      go_wp2
      go_ret
      exact ⟨by rw [HX.out]; rfl, hbr⟩
theorem rwhy_any (v : Value) (p : List Int) (B : Nat) (w : World) (hB : B ≤ w.heap.size) (h : Lv iK w B v p) :
    Calls Try.prog 40 #[v] w (IsErr (Dl.why p) w) := by
  have HI := Lib.hid (ris_any v p B w hB h)
  obtain ⟨A, c, rfl, h1, h2, _⟩ := h
  have hl : p.length ≤ 9223372036854775807 := by simp only [maxLen] at h2; omega
  clear h1 h2
  by_cases hm : 65536 < p.length
  · have HX : Hid (Dl.why p = 3) := by unfold Hid Dl.why; rw [if_pos hm]
    go_enter Try.func40, Try.ntmps40
    go_wp2
    go_ret
    exact ⟨by rw [HX.out]; rfl, Below.refl _ _⟩
  by_cases ho : Dl.why p = 0
  · have HX := Lib.hid ho
    have hi : Dl.isOrd p = true := by rw [Dl.isOrd_why, ho]; rfl
    rw [hi] at HI
    clear ho hi
    go_enter Try.func40, Try.ntmps40
    go_wp2_with (fail)
    refine (HI.out).mono ?_
    rintro e w1 ⟨rfl, hb⟩
    have HB := Lib.hid hb
    clear hb
    go_wp2
    go_ret
    exact ⟨by rw [HX.out]; rfl, HB.out⟩
  · have HX : Hid (Dl.why p = 2) := by
      unfold Hid Dl.why at *
      rw [if_neg hm] at ho ⊢
      by_cases h : Dl.Ord p
      · rw [if_pos h] at ho; exact absurd rfl ho
      · rw [if_neg h]
    have hi : Dl.isOrd p = false := by rw [Dl.isOrd_why, decide_eq_false ho]
    rw [hi] at HI
    clear ho hi
    go_enter Try.func40, Try.ntmps40
    go_wp2_with (fail)
    refine (HI.out).mono ?_
    rintro e w1 ⟨rfl, hb⟩
    have HB := Lib.hid hb
    clear hb
    go_wp2
    go_ret
    exact ⟨by rw [HX.out]; rfl, HB.out⟩

namespace Dl
/-- What stands there when k numbers have been told where they stand. -/
def turning (p : List Int) (k : Nat) (t : List Int) : Prop := t.length = p.length ∧ ∀ y, y < p.length → (y : Int) ∈ p.take k → t[y]? = some ((pos p (y : Int) : Nat) : Int)
theorem turning_zero (p : List Int) : turning p 0 (List.replicate p.length 0) := ⟨by simp, by simp⟩
theorem turning_step {p : List Int} (ho : Ord p) {k q : Nat} {t : List Int} (h : turning p k t) (hq : p[k]? = some (q : Int)) : turning p (k + 1) (t.set q (k : Int)) := by
  refine ⟨by rw [List.length_set]; exact h.1, fun y hy hm => ?_⟩
  rw [take_snoc hq] at hm
  rw [List.getElem?_set]
  by_cases e : q = y
  · subst e
    rw [if_pos rfl, if_pos (by rw [h.1]; exact hy), pos_at ho.2 hq]
  · rw [if_neg e]
    rcases List.mem_append.1 hm with hm | hm
    · exact h.2 y hy hm
    · simp at hm
      omega
theorem turning_done {p : List Int} (ho : Ord p) {k : Nat} {t : List Int} (h : turning p k t) (hk : p.length ≤ k) : t = turn p := by
  refine List.ext_getElem? fun y => ?_
  by_cases hy : y < p.length
  · rw [turn_at hy, h.2 y hy (by rw [List.take_of_length_le hk]; exact ord_mem ho hy)]
  · rw [List.getElem?_eq_none (by rw [h.1]; omega), List.getElem?_eq_none (by rw [turn_len]; omega)]
end Dl

set_option maxHeartbeats 2000000 in
theorem rturn_any (v : Value) (p : List Int) (B : Nat) (w : World) (hB : B ≤ w.heap.size) (h : Lv iK w B v p) :
    Calls Try.prog 23 #[v] w (IsLE iK (Dl.turnE p) w) := by
  have HY := Lib.hid (rwhy_any v p B w hB h)
  have H0 := Lib.hid h
  obtain ⟨A, c, rfl, h1, h2, _⟩ := h
  have hl : p.length ≤ 9223372036854775807 := by simp only [maxLen] at h2; omega
  clear h1 h2
  by_cases hy : Dl.why p = 0
  · have HX : Hid (Dl.turnE p = (Dl.turn p, 0)) := by unfold Hid Dl.turnE; rw [if_pos hy]
    obtain ⟨hm, ho⟩ := Dl.why_zero.1 hy
    have HM := Lib.hid hm
    have HO := Lib.hid ho
    rw [hy] at HY
    clear hy hm ho
    go_enter Try.func23, Try.ntmps23
    go_wp2_with (fail)
    refine (HY.out).mono ?_
    rintro e w1 ⟨rfl, hb⟩
    have HB1 := Lib.hid hb
    have hb1 := hb.size
    have hm := HM.out
    clear hb
    go_wp2_with (at_make; go_must (refine wpList_make_l _ iK rfl _ _ rfl w.heap.size .i64 .i64 _ _ p.length p.length rfl rfl rfl rfl (Nat.le_refl _) (by show 8 * _ ≤ _; omega) (by simp only [maxLen]; omega) hb1 ?_; intro w2 hO hG))
    have HT := Lib.hid hO
    have hg1 : w.heap.size ≤ w1.heap.size := hb1
    have HB := Lib.hid (HB1.out.grown hG hb1 (by intro k hk; cases hk))
    obtain ⟨G, hGe⟩ : ∃ G, w1.heap.size = G := ⟨_, rfl⟩
    rw [hGe] at HT hg1 ⊢
    clear hO hG hb1 HB1 hGe hm
    go_loopw [6] (fun i wr => ∃ (k : Nat) (t : List Int), k ≤ p.length ∧ i = .int .i64 k ∧ Hid (Dl.turning p k t) ∧ Hid (OwnL iK wr w.heap.size (.slice (some ⟨G, 0, none⟩) p.length p.length) t) ∧ Below w.heap.size w wr) (fun i _ => p.length - (intOf i).toNat)
    case atStart => exact ⟨0, List.replicate p.length 0, by omega, rfl, Dl.turning_zero _, HT.out, HB.out⟩
    case round =>
      obtain ⟨k, t, hk, rfl, HK, HT, hbr⟩ := hrel
      clear HB
      by_cases hlt : k < p.length
      · obtain ⟨b1, o1, x, rfl, hb1, hx, hd, hcell⟩ := (H0.out.below_ hbr hB).int_ hlt
        have hx2 := HO.out.1 x (List.mem_of_getElem? hd)
        obtain ⟨q, rfl⟩ := Int.eq_ofNat_of_zero_le hx2.1
        have hq : q < p.length := by omega
        have HK2 := Lib.hid (Dl.turning_step HO.out HK.out hd)
        have hqt : q < t.length := by rw [HK.out.1]; exact hq
        obtain ⟨g', y, e2, -, hg, -, he2, hc2, hfr2⟩ := HT.out.int_ hqt
        injection e2 with e2
        injection e2 with e2
        subst e2
        have hki : I64 (k : Int) := i64_nat (by have := HM.out; omega)
        obtain ⟨hs1, hg2⟩ := HT.out.setInt_ hqt hki
        have HS := Lib.hid hs1
        have HB2 := Lib.hid (hbr.setCell (p := ⟨G, q, none⟩) hg (.int .i64 (k : Int)))
        have hxi2 : (q : Int) < (p.length : Int) := by omega
        clear hd hx hx2 hqt he2 hs1 hg2 HT hki
        go_wp2
        exact ⟨⟨k + 1, t.set q (k : Int), by omega, by go_num, HK2.out, HS.out, HB2.out⟩, by simp [intOf]; omega⟩
      · have hd := Dl.turning_done HO.out HK.out (by omega)
        have HN := Lib.hid HK.out.1
        subst hd
        go_wp2
        go_ret2
        exact IsLE.of HX.out HN.out.symm rfl HT.out hbr
  · have HX : Hid (Dl.turnE p = ([], Dl.why p)) := by unfold Hid Dl.turnE; rw [if_neg hy]
    obtain ⟨y, hye⟩ : ∃ y, Dl.why p = y := ⟨_, rfl⟩
    rw [hye] at HX HY hy
    have hyb : ((y : Int) != 0) = true := by rw [bne_iff_ne]; omega
    clear hye hy
    go_enter Try.func23, Try.ntmps23
    go_wp2_with (fail)
    refine (HY.out).mono ?_
    rintro e w1 ⟨rfl, hb⟩
    have HB := Lib.hid hb
    clear hb
    go_wp2
    go_ret2
    exact IsLE.none_b HX.out rfl HB.out
end Go.Proofs.Ytggpldghdaggfaa
