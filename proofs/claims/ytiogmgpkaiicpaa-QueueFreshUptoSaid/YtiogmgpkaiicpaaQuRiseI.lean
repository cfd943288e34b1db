/-
  The program's queue of int: the last entry moves up.
-/
import Derived.Test.YtiogmgpkaiicpaaQuAhI
namespace Go.Proofs.Ytiogmgpkaiicpaa
open Go.RowKit
set_option linter.unusedVariables false

set_option maxHeartbeats 4000000 in
theorem priseI {w : World} {qb g n c m fn : Nat} {caps : Array Value} {A : List (Int × Nat)} {lt : Int → Int → Bool} (h : HasI w qb g n c A m fn caps) (ho : Qu.Order lt) (hl : Less intV I64 fn caps lt w (fun k => k = qb ∨ k = g)) {i : Nat} (hi : i + 1 = n) (hu : Qu.Up lt A i) (hn : n ≤ 8388608) :
    Calls Try.prog 35 #[.pointer (some ⟨qb, 0, none⟩)] w (fun e w' => e = .returned (.tuple #[]) ∧ ∃ A', A'.Perm A ∧ Qu.IsHeap lt A' ∧ HasI w' qb g n c A' m fn caps ∧ Turned (fun k => k = qb ∨ k = g) w w') := by
  have H0 := Lib.hid h
  have HL := Lib.hid hl
  have HU := Lib.hid hu
  have HO := Lib.hid ho
  have HNE := Lib.hid h.apart
  have hd1 := h.head.list
  have hw0 : IntKind.i64.wrap ((n : Int) - 1) = (i : Int) := by rw [IntKind.wrap_i64]; omega
  have HI : Hid (i < n) := by unfold Hid; omega
  clear h hl hu ho hi
  go_enter Try.func35, Try.ntmps35
  go_wp2
  clear hd1 hw0
  go_loopw [3] (fun i wr => ∃ (k : Nat) (A1 : List (Int × Nat)), k < n ∧ i = .int .i64 k ∧ Hid (A1.Perm A) ∧ Hid (Qu.Up lt A1 k) ∧ Hid (HasI wr qb g n c A1 m fn caps) ∧ Turned (fun k => k = qb ∨ k = g) w wr) (fun i _ => (intOf i).toNat)
  case atStart => exact ⟨i, A, HI.out, rfl, .refl _, HU.out, H0.out, Turned.refl _ _⟩
  case round =>
    obtain ⟨k, A1, hk, rfl, HP, HU1, HH, ht⟩ := hrel
    clear HU H0
    have HT := Lib.hid ht
    clear ht
    rcases Nat.eq_zero_or_pos k with rfl | hpos
    · have HD : Hid (Qu.IsHeap lt A1) := HU1.out.done (fun _ _ h => absurd h (by omega))
      go_wp2
      go_end0
      exact ⟨rfl, A1, HP.out, HD.out, HH.out, HT.out⟩
    · obtain ⟨r, hr⟩ : ∃ r, r + 1 = k := ⟨k - 1, by omega⟩
      have g0 : ((k : Nat) : Int) > 0 := by omega
      obtain ⟨p, hp⟩ : ∃ p, r / 2 = p := ⟨_, rfl⟩
      have hkl : k < A1.length := by have := HH.out.len; omega
      have hpl : p < A1.length := by omega
      obtain ⟨⟨xt, xn⟩, hx⟩ : ∃ x, A1[k]? = some x := ⟨_, List.getElem?_eq_getElem hkl⟩
      obtain ⟨⟨yt, yn⟩, hy⟩ : ∃ y, A1[p]? = some y := ⟨_, List.getElem?_eq_getElem hpl⟩
      have hw1 : IntKind.i64.wrap ((k : Int) - 1) = (r : Int) := by rw [IntKind.wrap_i64]; omega
      have hw2 : (r : Int).tdiv 2 = (p : Int) := by rw [← hp]; rfl
      have hw3 : IntKind.i64.wrap (p : Int) = (p : Int) := by rw [IntKind.wrap_i64]; omega
      obtain ⟨
      x0,
      x1,
      hxo⟩ := HH.out.has hx
      obtain ⟨
      y0,
      y1,
      hyo⟩ := HH.out.has hy
      simp only at x0 y0
      simp only at x1 y1
      have HA : Hid (Calls Try.prog 45 #[.pointer (some ⟨qb, 0, none⟩), .agg #[.int .i64 xt, .int .u64 (xn : Nat)], .agg #[.int .i64 yt, .int .u64 (yn : Nat)]] wr.drew (fun e w' => e = .returned (.bool (Qu.ah lt (xt, xn) (yt, yn))) ∧ Below wr.drew.heap.size wr.drew w')) :=
        paheadI (x := (xt, xn)) (y := (yt, yn)) HH.out.drew_.head HO.out (HL.out.step HT.out.drew (fun _ _ h => h)) hxo.1 hyo.1
      obtain ⟨b, hb⟩ : ∃ b, Qu.ah lt (xt, xn) (yt, yn) = b := ⟨_, rfl⟩
      have HX := Lib.hid hx
      have HY := Lib.hid hy
      have HXO := Lib.hid hxo
      have HYO := Lib.hid hyo
      rw [hb] at HA
      have HB := Lib.hid hb
      have HPP : Hid ((k - 1) / 2 = p) := by unfold Hid; rw [← hp, ← hr]; rfl
      have hpk : p < k := by omega
      have hn1 : (k : Int) < (n : Int) := by omega
      have hn2 : (p : Int) < (n : Int) := by omega
      clear hb hx hy hxo hyo hr hp
      go_wp2
      go_still_tail 9, (by kernel_rfl)
      change wpList _ _ _ _ _ wr.drew
      clear x0 y0
      clear x1 y1
      go_wp2_with (fail)
      refine (HA.out).mono ?_
      rintro e w1 ⟨rfl, hb1⟩
      have hb1' : Below wr.heap.size wr w1 := ⟨hb1.os, hb1.tape, hb1.output, hb1.size, hb1.block⟩
      have HH1 := Lib.hid (HH.out.below_ hb1')
      have HT1 := Lib.hid (HT.out.trans (Turned.of_below hb1') (fun k h1 h2 => absurd h1 (by have := HT.out.size; omega)))
      clear hb1 hb1' HA HH
      cases b with
      | false =>
        have HD : Hid (Qu.IsHeap lt A1) := HU1.out.done (fun a b _ ha hb => by
          rw [HX.out] at ha
          rw [HPP.out, HY.out] at hb
          cases ha; cases hb
          exact HB.out)
        go_wp2
        refine bodyPost_ret (results_none rfl _ _ _) rfl ?_
        exact ⟨rfl, A1, HP.out, HD.out, HH1.out, HT1.out⟩
      | true =>
        obtain ⟨
        x0,
        x1,
        hxo⟩ := HH1.out.has HX.out
        obtain ⟨
        y0,
        y1,
        hyo⟩ := HH1.out.has HY.out
        have e1 : k ≠ p := by omega
        have hcool := HH1.out.own.cool_
        simp only at x0 y0
        simp only at x1 y1
        obtain ⟨hs1, ht1⟩ := HH1.out.set (show k < n by omega) hyo
        obtain ⟨hs2, ht2⟩ := hs1.set (show p < n by omega) hxo
        have HS := Lib.hid hs2.drew_
        have HTS := Lib.hid ((HT1.out.trans ht1 (fun _ _ h => h)).trans ht2 (fun _ _ h => h)).drew
        have HPS : Hid (((A1.set k (yt, yn)).set p (xt, xn)).Perm A) := (Qu.two_perm HX.out HY.out).trans HP.out
        have HUS : Hid (Qu.Up lt ((A1.set k (yt, yn)).set p (xt, xn)) p) := HU1.out.step HO.out hpos HPP.out HX.out HY.out HB.out
        clear hxo hyo hs1 ht1 hs2 ht2
        go_wp2_with (fail)
        have f0 := hcool (k * 2)
        have f1 := hcool (k * 2 + 1)
        have h0 := hcool (p * 2)
        have h1 := hcool (p * 2 + 1)
        have q00 : k * 2 ≠ p * 2 := by omega
        have q01 : k * 2 ≠ p * 2 + 1 := by omega
        have q10 : k * 2 + 1 ≠ p * 2 := by omega
        have q11 : k * 2 + 1 ≠ p * 2 + 1 := by omega
        clear hcool hkl hpl hw1 hw2 hw3
        go_region
        go_wp2
        go_roundw
        case rel => exact ⟨p, (A1.set k (yt, yn)).set p (xt, xn), by omega, rfl, HPS.out, HUS.out, HS.out, HTS.out⟩
        case measure => simp [intOf]; omega
end Go.Proofs.Ytiogmgpkaiicpaa
