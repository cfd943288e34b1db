/-
  stooklaw06.works.
-/
import Derived.Test.YtggpldghdaggfaaDlPro
import Derived.Test.YtggpldghdaggfaaInts
namespace Go.Proofs.Ytggpldghdaggfaa
open Go.RowKit
set_option linter.unusedVariables false

namespace Dl
theorem works_of : of 3 [0, 0] = ([1, 2, 0], 0) := by decide +kernel
theorem works_back : backE [1, 2, 0] = ([0, 0], 0) := by decide +kernel
/-- Where Of answers no error. -/
theorem of_ok {n : Int} {l : List Int} (h : (of n l).2 = 0) : ∃ (N : Nat) (q : List Int), n = (N : Int) ∧ of n l = (q, 0) ∧ Ord q ∧ q.length = N ∧ N ≤ 65536 ∧ backE q = (l, 0) ∧ isOrd q = true := by
  by_cases h0 : n < 0
  · rw [of, if_pos h0] at h; cases h
  by_cases h1 : 65536 < n
  · rw [of, if_neg h0, if_pos h1] at h; cases h
  by_cases h2 : may n l = true
  · obtain ⟨N, rfl⟩ := Int.eq_ofNat_of_zero_le (show 0 ≤ n by omega)
    have ho := order_ord h2
    have hl := order_len N l
    have hw : why (order N l) = 0 := why_zero.2 ⟨by rw [hl]; omega, ho⟩
    refine ⟨N, order N l, rfl, ?_, ho, hl, by omega, ?_, ?_⟩
    · rw [of, if_neg h0, if_neg h1, if_pos h2]; rfl
    · rw [backE, if_pos hw, back_order h2]
    · rw [isOrd_why, hw]; rfl
  · rw [of, if_neg h0, if_neg h1, if_neg h2] at h; cases h
/-- Of an order Of tells it again. -/
theorem back_ok {p : List Int} (h : why p = 0) : ∃ b, backE p = (b, 0) ∧ of p.length b = (p, 0) ∧ isOrd p = true := by
  obtain ⟨h1, h2⟩ := why_zero.1 h
  have h3 := order_back h2
  refine ⟨back p, by rw [backE, if_pos h], ?_, by rw [isOrd_why, h]; rfl⟩
  rw [of, if_neg (by omega), if_neg (by omega), if_pos h3.2, Int.toNat_natCast, h3.1]
theorem back_bad {p : List Int} (h : why p ≠ 0) : backE p = ([], why p) ∧ isOrd p = false := ⟨by rw [backE, if_neg h], by rw [isOrd_why, decide_eq_false h]⟩
theorem deal_ok (z : W64) {n : Nat} (h : n ≤ 65536) : ∃ p, dealE z n = (p, 0) ∧ Ord p ∧ p.length = n ∧ why p = 0 := by
  have e1 : stepsE z n = (seedSteps z (n - 1), 0) := by rw [stepsE, if_neg (by omega), if_neg (by omega), show ((n : Int) - 1).toNat = n - 1 by omega]
  have e2 : may n (seedSteps z (n - 1)) = true := by unfold may; rw [show ((n : Int) - 1).toNat = n - 1 by omega]; exact seedSteps_fits _ _
  have e3 : dealE z n = (order n (seedSteps z (n - 1)), 0) := by
    unfold dealE
    rw [e1, if_pos rfl, of, if_neg (by omega), if_neg (by omega), if_pos e2, Int.toNat_natCast]
  exact ⟨_, e3, order_ord e2, order_len _ _, why_zero.2 ⟨by rw [order_len]; exact h, order_ord e2⟩⟩
theorem deal_bad (z : W64) {n : Int} (h : n < 0 ∨ 65536 < n) : ∃ y, dealE z n = ([], y) ∧ y ≠ 0 := by
  rcases h with h | h
  · refine ⟨2, ?_, by omega⟩
    rw [dealE, stepsE, if_pos h]; rfl
  · refine ⟨3, ?_, by omega⟩
    have e : stepsE z n = ([], 3) := by rw [stepsE, if_neg (by omega), if_pos h]
    rw [dealE, e]; rfl
theorem turn_ok {p : List Int} (h : why p = 0) : turnE p = (turn p, 0) ∧ why (turn p) = 0 := by
  obtain ⟨h1, h2⟩ := why_zero.1 h
  exact ⟨by rw [turnE, if_pos h], why_zero.2 ⟨by rw [turn_len]; exact h1, turn_ord h2⟩⟩
theorem take_ok {p : List Int} {l : List Nat} (h : why p = 0) (hl : l.length = p.length) : takeE p l = (takes p l, 0) := by rw [takeE, if_pos h, if_pos hl]
theorem take_bad {p : List Int} {l : List Nat} (h : why p = 0) (hl : l.length ≠ p.length) : takeE p l = ([], 2) := by rw [takeE, if_pos h, if_neg hl]
theorem take_none {p : List Int} {l : List Nat} (h : why p ≠ 0) : takeE p l = ([], why p) := by rw [takeE, if_neg h]
/-- How often each number stands in the first k places. -/
def tally (p : List Int) (k : Nat) (m : List Int) : Prop := ∀ y, y < m.length → m[y]? = some (if (y : Int) ∈ p.take k then 1 else 0)
theorem tally_zero (p : List Int) (n : Nat) : tally p 0 (List.replicate n 0) := by
  intro y hy
  simp at hy
  simp [hy]
theorem tally_step {p : List Int} (ho : Ord p) {k : Nat} {m : List Int} (h : tally p k m) {q : Nat} (hq : p[k]? = some (q : Int)) (hm : q < m.length) : m[q]? = some 0 ∧ tally p (k + 1) (m.set q 1) := by
  have hn : (q : Int) ∉ p.take k := ((good_step hq).1 (ord_good ho (k + 1))).2.2.2
  refine ⟨by rw [h q hm, if_neg hn], fun y hy => ?_⟩
  rw [List.length_set] at hy
  rw [List.getElem?_set, take_snoc hq]
  by_cases e : q = y
  · subst e
    rw [if_pos rfl, if_pos hy]
    simp
  · rw [if_neg e, h y hy]
    have : (y : Int) ≠ (q : Int) := by omega
    simp [this]
theorem tally_done {p : List Int} (ho : Ord p) {m : List Int} (h : tally p p.length m) (hm : m.length = p.length) {y : Nat} (hy : y < p.length) : m[y]? = some 1 := by
  rw [h y (by omega), List.take_of_length_le (Nat.le_refl _), if_pos (ord_mem ho hy)]
theorem both_snoc {p q : List Int} {k : Nat} {x : Int} (h : q[k]? = some x) : both p (q.take (k + 1)) = both p (q.take k) ++ [at' p x.toNat] := by
  rw [take_snoc h]; simp [both]
end Dl
theorem small_ok (l : List Int) (h : ∀ x ∈ l, 0 ≤ x ∧ x < 10) : ∀ x ∈ l, iK.ok x := fun x hx => by
  have := h x hx
  show _ ≤ x ∧ x < _
  omega

set_option maxHeartbeats 1000000 in
theorem works_any (w : World) : Calls Try.prog 17 #[] w (IsBool true w) := by
  have k1 := small_ok [0, 0] (by decide)
  have k2 := small_ok [1, 2, 0] (by decide)
  have HL1 : Hid (∀ w : World, Lv iK (w.alloc (.cells #[.int .i64 0, .int .i64 0] 3)) (w.heap.size + 1) (.slice (some ⟨w.heap.size, 0, none⟩) 2 2) [0, 0]) := fun w => Lv.build_ iK w [0, 0] k1 (by simp [maxLen]) 2 rfl _ rfl _ rfl
  have HL2 : Hid (∀ w : World, Lv iK (w.alloc (.cells #[.int .i64 1, .int .i64 2, .int .i64 0] 3)) (w.heap.size + 1) (.slice (some ⟨w.heap.size, 0, none⟩) 3 3) [1, 2, 0]) := fun w => Lv.build_ iK w [1, 2, 0] k2 (by simp [maxLen]) 3 rfl _ rfl _ rfl
  have HO : Hid (∀ (w : World) (B : Nat) (v : Value), B ≤ w.heap.size → Lv iK w B v [0, 0] → Calls Try.prog 18 #[.int .i64 3, v] w (fun e w' => ∃ A c, e = .returned (.tuple #[.slice A 3 c, .int .i64 0]) ∧ OwnL iK w' w.heap.size (.slice A 3 c) [1, 2, 0] ∧ Below w.heap.size w w')) :=
    fun w B v hB h => (pof_any v [0, 0] 3 B w hB h).mono fun e w' h => h.out_ Dl.works_of
  have HK : Hid (∀ (w : World) (B : Nat) (v : Value), B ≤ w.heap.size → Lv iK w B v [1, 2, 0] → Calls Try.prog 20 #[v] w (fun e w' => ∃ A c, e = .returned (.tuple #[.slice A 2 c, .int .i64 0]) ∧ OwnL iK w' w.heap.size (.slice A 2 c) [0, 0] ∧ Below w.heap.size w w')) :=
    fun w B v hB h => (pback_any v [1, 2, 0] B w hB h).mono fun e w' h => h.out_ Dl.works_back
  clear k1 k2
  have HC := Lib.hid (HO.out _ _ _ (by simp) (HL1.out w))
  go_enter Try.func17, Try.ntmps17
  go_wp2_with (fail)
  refine (HC.out).mono ?_
  rintro e w1 ⟨A1, c1, rfl, ho1, hb1⟩
  have HO1 := Lib.hid ho1
  have HB1 := Lib.hid ((((Below.refl w.heap.size w).alloc (Nat.le_refl _) (.cells #[.int .i64 0, .int .i64 0] 3))).trans (hb1.mono (by simp)))
  have HC2 := Lib.hid (HK.out _ _ _ (by simp) (HL2.out w1))
  clear ho1 hb1 HC
  go_wp2_with (fail)
  refine (HC2.out).mono ?_
  rintro e w2 ⟨A2, c2, rfl, ho2, hb2⟩
  have ha1 := HB1.out.alloc HB1.out.size (.cells #[.int .i64 1, .int .i64 2, .int .i64 0] 3)
  have HB2 := Lib.hid (ha1.trans (hb2.mono ha1.size))
  have HO1b := Lib.hid ((HO1.out.alloc_ (.cells #[.int .i64 1, .int .i64 2, .int .i64 0] 3)).below_ hb2 (Nat.le_refl _))
  have HO2 := Lib.hid ho2
  have ha2 := (Below.refl w2.heap.size w2).alloc (Nat.le_refl _) (.cells #[.int .i64 1, .int .i64 2, .int .i64 0] 3)
  have HC3 := Lib.hid (ints_lv _ _ _ _ _ _ _ (HO1b.out.form_.below_ ha2 (Nat.le_refl _)) (HL2.out w2))
  simp only [decide_true] at HC3
  clear ho2 hb2 HC2 HO1 ha1
  go_wp2_with (fail)
  refine (HC3.out).mono ?_
  rintro e w3 ⟨rfl, hb3⟩
  have HB3 := Lib.hid (HB2.out.trans ((ha2.trans (hb3.mono (by simp))).mono HB2.out.size))
  have ha3 := (Below.refl w3.heap.size w3).alloc (Nat.le_refl _) (.cells #[.int .i64 0, .int .i64 0] 3)
  have ho3 := ((HO2.out.form_.below_ ha2 (Nat.le_refl _)).below_ hb3 (by simp))
  have HC4 := Lib.hid (ints_lv _ _ _ _ _ _ _ (ho3.below_ ha3 (by have := hb3.size; simp at this; omega)) (HL1.out w3))
  simp only [decide_true] at HC4
  clear hb3 ha2 HC3 ho3
  go_wp2_with (fail)
  refine (HC4.out).mono ?_
  rintro e w4 ⟨rfl, hb4⟩
  have HB4 := Lib.hid (HB3.out.trans ((ha3.trans (hb4.mono (by simp))).mono HB3.out.size))
  clear hb4 ha3 HC4
  go_wp2
  go_ret
  exact ⟨rfl, HB4.out⟩
end Go.Proofs.Ytggpldghdaggfaa
