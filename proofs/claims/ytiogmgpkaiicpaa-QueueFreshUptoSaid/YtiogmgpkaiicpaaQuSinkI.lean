/-
  The program's queue of int: the first entry moves down.
-/
import Derived.Test.YtiogmgpkaiicpaaQuFirstI
namespace Go.Proofs.Ytiogmgpkaiicpaa
open Go.RowKit
set_option linter.unusedVariables false

set_option maxHeartbeats 4000000 in
theorem psinkI {w : World} {qb g n c m fn : Nat} {caps : Array Value} {A : List (Int × Nat)} {lt : Int → Int → Bool} (h : HasI w qb g n c A m fn caps) (ho : Qu.Order lt) (hl : Less intV I64 fn caps lt w (fun k => k = qb ∨ k = g)) (hu : Qu.Down lt A 0) (hn : n ≤ 8388608) :
    Calls Try.prog 46 #[.pointer (some ⟨qb, 0, none⟩)] w (fun e w' => e = .returned (.tuple #[]) ∧ ∃ A', A'.Perm A ∧ Qu.IsHeap lt A' ∧ HasI w' qb g n c A' m fn caps ∧ Turned (fun k => k = qb ∨ k = g) w w') := by
  have H0 := Lib.hid h
  have HL := Lib.hid hl
  have HU := Lib.hid hu
  have HO := Lib.hid ho
  have HNE := Lib.hid h.apart
  have hd1 := h.head.list
  clear h hl hu ho
  go_enter Try.func46, Try.ntmps46
  go_wp2
  clear hd1
  go_loopw [3] (fun i wr => ∃ (k : Nat) (A1 : List (Int × Nat)), k ≤ n ∧ i = .int .i64 k ∧ Hid (A1.Perm A) ∧ Hid (Qu.Down lt A1 k) ∧ Hid (HasI wr qb g n c A1 m fn caps) ∧ Turned (fun k => k = qb ∨ k = g) w wr) (fun i _ => n + 1 - (intOf i).toNat)
  case atStart => exact ⟨0, A, Nat.zero_le _, rfl, .refl _, HU.out, H0.out, Turned.refl _ _⟩
  case round =>
    obtain ⟨k, A1, hk, rfl, HP, HD1, HH, ht⟩ := hrel
    clear HU H0
    have HT := Lib.hid ht
    clear ht
    have HA := Lib.hid (pfirstI HH.out HO.out (HL.out.step HT.out (fun _ _ h => h)) hk hn)
    go_wp2_with (fail)
    refine (HA.out).mono ?_
    rintro e w1 ⟨p, rfl, hpk, ⟨q, hbest, hout⟩, hb1⟩
    have HH1 := Lib.hid (HH.out.below_ hb1)
    have HT1 := Lib.hid (HT.out.trans (Turned.of_below hb1) (fun k h1 h2 => absurd h1 (by have := HT.out.size; omega)))
    have HB := Lib.hid hbest
    clear hb1 HA HH hbest
    by_cases hpe : p = k
    · subst hpe
      have HD : Hid (Qu.IsHeap lt A1) := HD1.out.done (fun y a b h0 h1 ha hb => HB.out.kids hout hb y a h0 h1 ha)
      clear hout hpk
      go_wp2
      refine bodyPost_ret (results_none rfl _ _ _) rfl ?_
      exact ⟨rfl, A1, HP.out, HD.out, HH1.out, HT1.out⟩
    · have hpk2 : k < p ∧ p < n ∧ (p - 1) / 2 = k := by rcases hpk with h | h; exact absurd h hpe; exact h
      obtain ⟨hkp, hpn, hpar⟩ := hpk2
      have hkl : k < A1.length := by have := HH1.out.len; omega
      have hpl : p < A1.length := by have := HH1.out.len; omega
      obtain ⟨⟨xt, xn⟩, hx⟩ : ∃ x, A1[k]? = some x := ⟨_, List.getElem?_eq_getElem hkl⟩
      obtain ⟨⟨yt, yn⟩, hy⟩ : ∃ y, A1[p]? = some y := ⟨_, List.getElem?_eq_getElem hpl⟩
      obtain ⟨
      x0,
      x1,
      hxo⟩ := HH1.out.has hx
      obtain ⟨
      y0,
      y1,
      hyo⟩ := HH1.out.has hy
      simp only at x0 y0
      simp only at x1 y1
      have hcool := HH1.out.own.cool_
      have hn1 : (k : Int) < (n : Int) := by omega
      have hn2 : (p : Int) < (n : Int) := by omega
      obtain ⟨hs1, ht1⟩ := HH1.out.set (show k < n by omega) hyo
      obtain ⟨hs2, ht2⟩ := hs1.set hpn hxo
      have HS := Lib.hid hs2.drew_
      have HTS := Lib.hid ((HT1.out.trans ht1 (fun _ _ h => h)).trans ht2 (fun _ _ h => h)).drew
      have HPS : Hid (((A1.set k (yt, yn)).set p (xt, xn)).Perm A) := (Qu.two_perm hx hy).trans HP.out
      have HDS : Hid (Qu.Down lt ((A1.set k (yt, yn)).set p (xt, xn)) p) := HD1.out.step HO.out (by omega) hpar hx hy (HB.out.2 hpe _ _ hy hx) (fun y a h0 h1 ha => HB.out.kids hout hy y a h0 h1 ha)
      have f0 := hcool (k * 2)
      have f1 := hcool (k * 2 + 1)
      have h0 := hcool (p * 2)
      have h1 := hcool (p * 2 + 1)
      have q00 : k * 2 ≠ p * 2 := by omega
      have q01 : k * 2 ≠ p * 2 + 1 := by omega
      have q10 : k * 2 + 1 ≠ p * 2 := by omega
      have q11 : k * 2 + 1 ≠ p * 2 + 1 := by omega
      have HLE : Hid (p ≤ n ∧ n + 1 - p < n + 1 - k) := by unfold Hid; omega
      have hne : ((p : Int) == (k : Int)) = false := by rw [beq_eq_false_iff_ne]; omega
      clear hcool hkl hpl hxo hyo hs1 ht1 hs2 ht2 hx hy hout hpk hpar
      go_wp2_with (fail)
      go_region
      go_wp2
      go_roundw
      case rel => exact ⟨p, (A1.set k (yt, yn)).set p (xt, xn), HLE.out.1, rfl, HPS.out, HDS.out, HS.out, HTS.out⟩
      case measure => have := HLE.out.2; simpa [intOf] using this
end Go.Proofs.Ytiogmgpkaiicpaa
