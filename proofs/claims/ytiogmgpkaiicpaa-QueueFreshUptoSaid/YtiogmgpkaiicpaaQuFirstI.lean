/-
  The program's queue of int: which of an entry and the two below it goes first.
-/
import Derived.Test.YtiogmgpkaiicpaaQuAhI
import Derived.Test.YtiogmgpkaiicpaaQuBest
namespace Go.Proofs.Ytiogmgpkaiicpaa
open Go.RowKit
set_option linter.unusedVariables false

set_option maxHeartbeats 4000000 in
theorem pfirstI {w : World} {qb g n c m fn : Nat} {caps : Array Value} {A : List (Int × Nat)} {lt : Int → Int → Bool} (h : HasI w qb g n c A m fn caps) (ho : Qu.Order lt) (hl : Less intV I64 fn caps lt w (fun k => k = qb ∨ k = g)) {k : Nat} (hk : k ≤ n) (hn : n ≤ 8388608) :
    Calls Try.prog 53 #[.pointer (some ⟨qb, 0, none⟩), .slice (some ⟨g, 0, none⟩) n c, .int .i64 (k : Nat)] w (fun e w' => ∃ p : Nat, e = .returned (.int .i64 (p : Nat)) ∧ (p = k ∨ (k < p ∧ p < n ∧ (p - 1) / 2 = k)) ∧ (∃ q, Qu.Best lt A k p q ∧ (2 * k + 2 < q ∨ A.length ≤ q)) ∧ Below w.heap.size w w') := by
  have H0 := Lib.hid h
  have HL := Lib.hid hl
  have HO := Lib.hid ho
  have hw1 : IntKind.i64.wrap (2 * (k : Int)) = 2 * (k : Int) := by rw [IntKind.wrap_i64]; omega
  have hw2 : IntKind.i64.wrap (2 * (k : Int) + 1) = 2 * (k : Int) + 1 := by rw [IntKind.wrap_i64]; omega
  have hw3 : IntKind.i64.wrap (2 * (k : Int) + 2) = 2 * (k : Int) + 2 := by rw [IntKind.wrap_i64]; omega
  clear h hl ho
  go_enter Try.func53, Try.ntmps53
  go_wp2
  go_loopw [7, 8] (fun l b wr => ∃ (p q : Nat), l = .int .i64 p ∧ b = .int .i64 q ∧ 2 * k + 1 ≤ q ∧ q ≤ 2 * k + 3 ∧ (p = k ∨ (k < p ∧ p < n ∧ (p - 1) / 2 = k)) ∧ Hid (Qu.Best lt A k p q) ∧ Below w.heap.size w wr) (fun _ b _ => 2 * k + 3 - (intOf b).toNat)
  case atStart => exact ⟨k, 2 * k + 1, rfl, by go_num, by omega, by omega, .inl rfl, Qu.Best.start _ _ _, Below.refl _ _⟩
  case round =>
    obtain ⟨p, q, rfl, rfl, hq1, hq2, hpk, HB, hb⟩ := hrel
    have HBL := Lib.hid hb
    have HH := Lib.hid (H0.out.below_ hb)
    have HT : Hid (Turned (fun k => k = qb ∨ k = g) w wr) := (Turned.of_below hb).mono (fun k h1 h2 => absurd h1 (by omega))
    clear hb
    by_cases hgo : q ≤ 2 * k + 2 ∧ q < n
    · obtain ⟨hg1, hg2⟩ := hgo
      have hpn : p < n := by omega
      have hql : q < A.length := by have := HH.out.len; omega
      have hpl : p < A.length := by have := HH.out.len; omega
      obtain ⟨⟨xt, xn⟩, hx⟩ : ∃ a, A[q]? = some a := ⟨_, List.getElem?_eq_getElem hql⟩
      obtain ⟨⟨yt, yn⟩, hy⟩ : ∃ z, A[p]? = some z := ⟨_, List.getElem?_eq_getElem hpl⟩
      obtain ⟨
      x0,
      x1,
      hxo⟩ := HH.out.has hx
      obtain ⟨
      y0,
      y1,
      hyo⟩ := HH.out.has hy
      simp only at x0 y0
      simp only at x1 y1
      have HA : Hid (Calls Try.prog 45 #[.pointer (some ⟨qb, 0, none⟩), .agg #[.int .i64 xt, .int .u64 (xn : Nat)], .agg #[.int .i64 yt, .int .u64 (yn : Nat)]] wr.drew (fun e w' => e = .returned (.bool (Qu.ah lt (xt, xn) (yt, yn))) ∧ Below wr.drew.heap.size wr.drew w')) :=
        paheadI (x := (xt, xn)) (y := (yt, yn)) HH.out.drew_.head HO.out (HL.out.step HT.out.drew (fun _ _ h => h)) hxo.1 hyo.1
      obtain ⟨b, hb⟩ : ∃ b, Qu.ah lt (xt, xn) (yt, yn) = b := ⟨_, rfl⟩
      rw [hb] at HA
      have HBN : Hid (Qu.Best lt A k (if b = true then q else p) (q + 1)) := by
        cases b with
        | false => exact HB.out.no hx hy hb
        | true => exact HB.out.yes HO.out hx hy hb
      have g1 : (q : Int) ≤ 2 * (k : Int) + 2 := by omega
      have g2 : (q : Int) < (n : Int) := by omega
      have g3 : (p : Int) < (n : Int) := by omega
      have hwq : IntKind.i64.wrap ((q : Int) + 1) = (q : Int) + 1 := by rw [IntKind.wrap_i64]; omega
      have HN : Hid (k < q ∧ q < n ∧ (q - 1) / 2 = k) := by unfold Hid; omega
      have HPK := Lib.hid hpk
      clear hx hy hb hql hpl hpk HB hxo hyo
      go_wp2
      go_still_tail 9, (by kernel_rfl)
      change wpList _ _ _ _ _ wr.drew
      clear x0 y0
      clear x1 y1
      go_wp2_with (fail)
      refine (HA.out).mono ?_
      rintro e w1 ⟨rfl, hb1⟩
      have hb1' : Below wr.heap.size wr w1 := ⟨hb1.os, hb1.tape, hb1.output, hb1.size, hb1.block⟩
      have HBL1 := Lib.hid (HBL.out.trans (hb1'.mono HT.out.size))
      clear hb1 hb1' HA
      cases b with
      | false =>
        go_wp2
        exact ⟨⟨p, q + 1, rfl, by go_num, by omega, by omega, HPK.out, HBN.out, HBL1.out⟩, by simp [intOf]; omega⟩
      | true =>
        go_wp2
        exact ⟨⟨q, q + 1, rfl, by go_num, by omega, by omega, .inr HN.out, HBN.out, HBL1.out⟩, by simp [intOf]; omega⟩
    · have HOUT : Hid (2 * k + 2 < q ∨ A.length ≤ q) := by have := HH.out.len; unfold Hid; omega
      have HPK := Lib.hid hpk
      clear hpk
      by_cases g1 : q ≤ 2 * k + 2
      · have g1' : (q : Int) ≤ 2 * (k : Int) + 2 := by omega
        have g2 : ¬ (q : Int) < (n : Int) := by omega
        go_wp2
        go_ret
        exact ⟨p, rfl, HPK.out, ⟨q, HB.out, HOUT.out⟩, HBL.out⟩
      · have g1' : ¬ (q : Int) ≤ 2 * (k : Int) + 2 := by omega
        go_wp2
        go_ret
        exact ⟨p, rfl, HPK.out, ⟨q, HB.out, HOUT.out⟩, HBL.out⟩
end Go.Proofs.Ytiogmgpkaiicpaa
