/-
  QuBest: Plain mathematics of chapter 7 (queue): which of an entry of a heap and those below it goes first.
  QuFirstP: The program's queue of stook/bpe.pair: which of an entry and the two below it goes first.
  QuSinkP: The program's queue of stook/bpe.pair: the first entry moves down.
  QuDropP: The program's queue of stook/bpe.pair: drop.
-/
import Derived.Test.YtkialijipcbgkaaPk06
import Derived.Test.YtkialijipcbgkaaPk16
namespace Go.Proofs.Ytkialijipcbgkaa
namespace Qu
section
variable {α : Type}
/-- Which of k and its children below q goes first: p. -/
def Best (lt : α → α → Bool) (A : List (α × Nat)) (k p q : Nat) : Prop :=
  (∀ y, 2 * k + 1 ≤ y → y < q → ∀ a z, A[y]? = some a → A[p]? = some z → ah lt a z = false) ∧ (p ≠ k → ∀ z x, A[p]? = some z → A[k]? = some x → ah lt z x = true)
theorem Best.start (lt : α → α → Bool) (A : List (α × Nat)) (k : Nat) : Best lt A k k (2 * k + 1) := ⟨fun y h1 h2 => absurd h1 (by omega), fun h => absurd rfl h⟩
theorem Best.no {lt : α → α → Bool} {A : List (α × Nat)} {k p q : Nat} (h : Best lt A k p q) {a z : α × Nat} (ha : A[q]? = some a) (hz : A[p]? = some z) (hn : ah lt a z = false) : Best lt A k p (q + 1) := by
  refine ⟨fun y h1 h2 a' z' ha' hz' => ?_, h.2⟩
  by_cases e : y = q
  · subst e; rw [ha] at ha'; rw [hz] at hz'; cases ha'; cases hz'; exact hn
  · exact h.1 y h1 (by omega) a' z' ha' hz'
theorem Best.yes {lt : α → α → Bool} (ho : Order lt) {A : List (α × Nat)} {k p q : Nat} (h : Best lt A k p q) {a z : α × Nat} (ha : A[q]? = some a) (hz : A[p]? = some z) (hn : ah lt a z = true) : Best lt A k q (q + 1) := by
  refine ⟨fun y h1 h2 a' z' ha' hz' => ?_, fun _ z' x hz' hx => ?_⟩
  · rw [ha] at hz'
    cases hz'
    by_cases e : y = q
    · subst e; rw [ha] at ha'; cases ha'; exact (ah_order ho).irr _
    · have h3 := h.1 y h1 (by omega) a' z ha' hz
      cases h4 : ah lt a' a with
      | false => rfl
      | true => rw [(ah_order ho).trans _ _ _ h4 hn] at h3; cases h3
  · rw [ha] at hz'
    cases hz'
    by_cases e : p = k
    · subst e; rw [hx] at hz; cases hz; exact hn
    · exact (ah_order ho).trans _ _ _ hn (h.2 e z x hz hx)
theorem Best.kids {lt : α → α → Bool} {A : List (α × Nat)} {k p q : Nat} (h : Best lt A k p q) (hq : 2 * k + 2 < q ∨ A.length ≤ q) {z : α × Nat} (hz : A[p]? = some z) : ∀ y a, 0 < y → (y - 1) / 2 = k → A[y]? = some a → ah lt a z = false := fun y a h0 hy ha => by
  have := (List.getElem?_eq_some_iff.1 ha).1
  exact h.1 y (by omega) (by omega) a z ha hz
end
end Qu
end Go.Proofs.Ytkialijipcbgkaa
namespace Go.Proofs.Ytkialijipcbgkaa
open Go.RowKit
set_option linter.unusedVariables false

set_option maxRecDepth 100000 in
set_option maxHeartbeats 4000000 in
theorem pfirstP {w : World} {qb g n c m fn : Nat} {caps : Array Value} {A : List (Pr × Nat)} {lt : Pr → Pr → Bool} (h : HasP w qb g n c A m fn caps) (ho : Qu.Order lt) (hl : Less prV PrOk fn caps lt w (fun k => k = qb ∨ k = g)) {k : Nat} (hk : k ≤ n) (hn : n ≤ 8388608) :
    Calls Try.prog 120 #[.pointer (some ⟨qb, 0, none⟩), .slice (some ⟨g, 0, none⟩) n c, .int .i64 (k : Nat)] w (fun e w' => ∃ p : Nat, e = .returned (.int .i64 (p : Nat)) ∧ (p = k ∨ (k < p ∧ p < n ∧ (p - 1) / 2 = k)) ∧ (∃ q, Qu.Best lt A k p q ∧ (2 * k + 2 < q ∨ A.length ≤ q)) ∧ Below w.heap.size w w') := by
  have H0 := Lib.hid h
  have HL := Lib.hid hl
  have HO := Lib.hid ho
  have hw1 : IntKind.i64.wrap (2 * (k : Int)) = 2 * (k : Int) := by rw [IntKind.wrap_i64]; omega
  have hw2 : IntKind.i64.wrap (2 * (k : Int) + 1) = 2 * (k : Int) + 1 := by rw [IntKind.wrap_i64]; omega
  have hw3 : IntKind.i64.wrap (2 * (k : Int) + 2) = 2 * (k : Int) + 2 := by rw [IntKind.wrap_i64]; omega
  clear h hl ho
  go_enter Try.func120, Try.ntmps120
  go_wp2
  go_loopw [7, 8] (fun l b wr => ∃ (p q : Nat), l = .int .i64 p ∧ b = .int .i64 q ∧ 2 * k + 1 ≤ q ∧ q ≤ 2 * k + 3 ∧ (p = k ∨ (k < p ∧ p < n ∧ (p - 1) / 2 = k)) ∧ Hid (Qu.Best lt A k p q) ∧ Below w.heap.size w wr) (fun _ b _ => 2 * k + 3 - (intOf b).toNat)
  case atStart => exact ⟨k, 2 * k + 1, rfl, by go_num, by omega, by omega, .inl rfl, Qu.Best.start _ _ _, Below.refl _ _⟩
  case round =>
    obtain ⟨p, q, rfl, rfl, hq1, hq2, hpk, HB, hb⟩ := hrel
    have HBL := Lib.hid hb
    have HH := Lib.hid (H0.out.below_ hb)
    have HT : Hid (Turned (fun k => k = qb ∨ k = g) w wr) := (Turned.of_below hb).mono (fun k h1 h2 => absurd h1 (by omega))
    clear hb
    by_cases hgo : q ≤ 2 * k + 2 ∧ q < n
    · obtain ⟨hg1, hg2⟩ := hgo
      have hpn : p < n := by omega
      have hql : q < A.length := by have := HH.out.len; omega
      have hpl : p < A.length := by have := HH.out.len; omega
      obtain ⟨⟨⟨xa, xb, xc, xd, xe, xf⟩, xn⟩, hx⟩ : ∃ a, A[q]? = some a := ⟨_, List.getElem?_eq_getElem hql⟩
      obtain ⟨⟨⟨ya, yb, yc, yd, ye, yf⟩, yn⟩, hy⟩ : ∃ z, A[p]? = some z := ⟨_, List.getElem?_eq_getElem hpl⟩
      obtain ⟨
      x0,
      x1,
      x2,
      x3,
      x4,
      x5,
      x6,
      hxo⟩ := HH.out.has hx
      obtain ⟨
      y0,
      y1,
      y2,
      y3,
      y4,
      y5,
      y6,
      hyo⟩ := HH.out.has hy
      simp only at x0 y0
      simp only at x1 y1
      simp only at x2 y2
      simp only at x3 y3
      simp only at x4 y4
      simp only at x5 y5
      simp only at x6 y6
      have HA : Hid (Calls Try.prog 119 #[.pointer (some ⟨qb, 0, none⟩), .agg #[.int .i64 xa, .int .i64 xb, .int .i64 xc, .int .i64 xd, .int .i64 xe, .int .u32 (xf : Nat), .int .u64 (xn : Nat)], .agg #[.int .i64 ya, .int .i64 yb, .int .i64 yc, .int .i64 yd, .int .i64 ye, .int .u32 (yf : Nat), .int .u64 (yn : Nat)]] wr.drew (fun e w' => e = .returned (.bool (Qu.ah lt ((⟨xa, xb, xc, xd, xe, xf⟩ : Pr), xn) ((⟨ya, yb, yc, yd, ye, yf⟩ : Pr), yn))) ∧ Below wr.drew.heap.size wr.drew w')) :=
        paheadP (x := ((⟨xa, xb, xc, xd, xe, xf⟩ : Pr), xn)) (y := ((⟨ya, yb, yc, yd, ye, yf⟩ : Pr), yn)) HH.out.drew_.head HO.out (HL.out.step HT.out.drew (fun _ _ h => h)) hxo.1 hyo.1
      obtain ⟨b, hb⟩ : ∃ b, Qu.ah lt ((⟨xa, xb, xc, xd, xe, xf⟩ : Pr), xn) ((⟨ya, yb, yc, yd, ye, yf⟩ : Pr), yn) = b := ⟨_, rfl⟩
      rw [hb] at HA
      have HBN : Hid (Qu.Best lt A k (if b = true then q else p) (q + 1)) := by
        cases b with
        | false => exact HB.out.no hx hy hb
        | true => exact HB.out.yes HO.out hx hy hb
      have g1 : (q : Int) ≤ 2 * (k : Int) + 2 := by omega
      have g2 : (q : Int) < (n : Int) := by omega
      have g3 : (p : Int) < (n : Int) := by omega
      have hwq : IntKind.i64.wrap ((q : Int) + 1) = (q : Int) + 1 := by rw [IntKind.wrap_i64]; omega
      have HN : Hid (k < q ∧ q < n ∧ (q - 1) / 2 = k) := by unfold Hid; omega
      have HPK := Lib.hid hpk
      clear hx hy hb hql hpl hpk HB hxo hyo
      go_wp2
      go_still_tail 9, (by kernel_rfl)
      change wpList _ _ _ _ _ wr.drew
      clear x0 y0
      clear x1 y1
      clear x2 y2
      clear x3 y3
      clear x4 y4
      clear x5 y5
      clear x6 y6
      go_wp2_with (fail)
      refine (HA.out).mono ?_
      rintro e w1 ⟨rfl, hb1⟩
      have hb1' : Below wr.heap.size wr w1 := ⟨hb1.os, hb1.tape, hb1.output, hb1.size, hb1.block⟩
      have HBL1 := Lib.hid (HBL.out.trans (hb1'.mono HT.out.size))
      clear hb1 hb1' HA
      cases b with
      | false =>
        go_wp2
        exact ⟨⟨p, q + 1, rfl, by go_num, by omega, by omega, HPK.out, HBN.out, HBL1.out⟩, by simp [intOf]; omega⟩
      | true =>
        go_wp2
        exact ⟨⟨q, q + 1, rfl, by go_num, by omega, by omega, .inr HN.out, HBN.out, HBL1.out⟩, by simp [intOf]; omega⟩
    · have HOUT : Hid (2 * k + 2 < q ∨ A.length ≤ q) := by have := HH.out.len; unfold Hid; omega
      have HPK := Lib.hid hpk
      clear hpk
      by_cases g1 : q ≤ 2 * k + 2
      · have g1' : (q : Int) ≤ 2 * (k : Int) + 2 := by omega
        have g2 : ¬ (q : Int) < (n : Int) := by omega
        go_wp2
        go_ret
        exact ⟨p, rfl, HPK.out, ⟨q, HB.out, HOUT.out⟩, HBL.out⟩
      · have g1' : ¬ (q : Int) ≤ 2 * (k : Int) + 2 := by omega
        go_wp2
        go_ret
        exact ⟨p, rfl, HPK.out, ⟨q, HB.out, HOUT.out⟩, HBL.out⟩
end Go.Proofs.Ytkialijipcbgkaa
namespace Go.Proofs.Ytkialijipcbgkaa
open Go.RowKit
set_option linter.unusedVariables false

set_option maxRecDepth 100000 in
set_option maxHeartbeats 4000000 in
theorem psinkP {w : World} {qb g n c m fn : Nat} {caps : Array Value} {A : List (Pr × Nat)} {lt : Pr → Pr → Bool} (h : HasP w qb g n c A m fn caps) (ho : Qu.Order lt) (hl : Less prV PrOk fn caps lt w (fun k => k = qb ∨ k = g)) (hu : Qu.Down lt A 0) (hn : n ≤ 8388608) :
    Calls Try.prog 112 #[.pointer (some ⟨qb, 0, none⟩)] w (fun e w' => e = .returned (.tuple #[]) ∧ ∃ A', A'.Perm A ∧ Qu.IsHeap lt A' ∧ HasP w' qb g n c A' m fn caps ∧ Turned (fun k => k = qb ∨ k = g) w w') := by
  have H0 := Lib.hid h
  have HL := Lib.hid hl
  have HU := Lib.hid hu
  have HO := Lib.hid ho
  have HNE := Lib.hid h.apart
  have hd1 := h.head.list
  clear h hl hu ho
  go_enter Try.func112, Try.ntmps112
  go_wp2
  clear hd1
  go_loopw [3] (fun i wr => ∃ (k : Nat) (A1 : List (Pr × Nat)), k ≤ n ∧ i = .int .i64 k ∧ Hid (A1.Perm A) ∧ Hid (Qu.Down lt A1 k) ∧ Hid (HasP wr qb g n c A1 m fn caps) ∧ Turned (fun k => k = qb ∨ k = g) w wr) (fun i _ => n + 1 - (intOf i).toNat)
  case atStart => exact ⟨0, A, Nat.zero_le _, rfl, .refl _, HU.out, H0.out, Turned.refl _ _⟩
  case round =>
    obtain ⟨k, A1, hk, rfl, HP, HD1, HH, ht⟩ := hrel
    clear HU H0
    have HT := Lib.hid ht
    clear ht
    have HA := Lib.hid (pfirstP HH.out HO.out (HL.out.step HT.out (fun _ _ h => h)) hk hn)
    go_wp2_with (fail)
    refine (HA.out).mono ?_
    rintro e w1 ⟨p, rfl, hpk, ⟨q, hbest, hout⟩, hb1⟩
    have HH1 := Lib.hid (HH.out.below_ hb1)
    have HT1 := Lib.hid (HT.out.trans (Turned.of_below hb1) (fun k h1 h2 => absurd h1 (by have := HT.out.size; omega)))
    have HB := Lib.hid hbest
    clear hb1 HA HH hbest
    by_cases hpe : p = k
    · subst hpe
      have HD : Hid (Qu.IsHeap lt A1) := HD1.out.done (fun y a b h0 h1 ha hb => HB.out.kids hout hb y a h0 h1 ha)
      clear hout hpk
      go_wp2
      refine bodyPost_ret (results_none rfl _ _ _) rfl ?_
      exact ⟨rfl, A1, HP.out, HD.out, HH1.out, HT1.out⟩
    · have hpk2 : k < p ∧ p < n ∧ (p - 1) / 2 = k := by rcases hpk with h | h; exact absurd h hpe; exact h
      obtain ⟨hkp, hpn, hpar⟩ := hpk2
      have hkl : k < A1.length := by have := HH1.out.len; omega
      have hpl : p < A1.length := by have := HH1.out.len; omega
      obtain ⟨⟨⟨xa, xb, xc, xd, xe, xf⟩, xn⟩, hx⟩ : ∃ x, A1[k]? = some x := ⟨_, List.getElem?_eq_getElem hkl⟩
      obtain ⟨⟨⟨ya, yb, yc, yd, ye, yf⟩, yn⟩, hy⟩ : ∃ y, A1[p]? = some y := ⟨_, List.getElem?_eq_getElem hpl⟩
      obtain ⟨
      x0,
      x1,
      x2,
      x3,
      x4,
      x5,
      x6,
      hxo⟩ := HH1.out.has hx
      obtain ⟨
      y0,
      y1,
      y2,
      y3,
      y4,
      y5,
      y6,
      hyo⟩ := HH1.out.has hy
      simp only at x0 y0
      simp only at x1 y1
      simp only at x2 y2
      simp only at x3 y3
      simp only at x4 y4
      simp only at x5 y5
      simp only at x6 y6
      have hcool := HH1.out.own.cool_
      have hn1 : (k : Int) < (n : Int) := by omega
      have hn2 : (p : Int) < (n : Int) := by omega
      obtain ⟨hs1, ht1⟩ := HH1.out.set (show k < n by omega) hyo
      obtain ⟨hs2, ht2⟩ := hs1.set hpn hxo
      have HS := Lib.hid hs2.drew_
      have HTS := Lib.hid ((HT1.out.trans ht1 (fun _ _ h => h)).trans ht2 (fun _ _ h => h)).drew
      have HPS : Hid (((A1.set k ((⟨ya, yb, yc, yd, ye, yf⟩ : Pr), yn)).set p ((⟨xa, xb, xc, xd, xe, xf⟩ : Pr), xn)).Perm A) := (Qu.two_perm hx hy).trans HP.out
      have HDS : Hid (Qu.Down lt ((A1.set k ((⟨ya, yb, yc, yd, ye, yf⟩ : Pr), yn)).set p ((⟨xa, xb, xc, xd, xe, xf⟩ : Pr), xn)) p) := HD1.out.step HO.out (by omega) hpar hx hy (HB.out.2 hpe _ _ hy hx) (fun y a h0 h1 ha => HB.out.kids hout hy y a h0 h1 ha)
      have f0 := hcool (k * 7)
      have f1 := hcool (k * 7 + 1)
      have f2 := hcool (k * 7 + 2)
      have f3 := hcool (k * 7 + 3)
      have f4 := hcool (k * 7 + 4)
      have f5 := hcool (k * 7 + 5)
      have f6 := hcool (k * 7 + 6)
      have h0 := hcool (p * 7)
      have h1 := hcool (p * 7 + 1)
      have h2 := hcool (p * 7 + 2)
      have h3 := hcool (p * 7 + 3)
      have h4 := hcool (p * 7 + 4)
      have h5 := hcool (p * 7 + 5)
      have h6 := hcool (p * 7 + 6)
      have q00 : k * 7 ≠ p * 7 := by omega
      have q01 : k * 7 ≠ p * 7 + 1 := by omega
      have q02 : k * 7 ≠ p * 7 + 2 := by omega
      have q03 : k * 7 ≠ p * 7 + 3 := by omega
      have q04 : k * 7 ≠ p * 7 + 4 := by omega
      have q05 : k * 7 ≠ p * 7 + 5 := by omega
      have q06 : k * 7 ≠ p * 7 + 6 := by omega
      have q10 : k * 7 + 1 ≠ p * 7 := by omega
      have q11 : k * 7 + 1 ≠ p * 7 + 1 := by omega
      have q12 : k * 7 + 1 ≠ p * 7 + 2 := by omega
      have q13 : k * 7 + 1 ≠ p * 7 + 3 := by omega
      have q14 : k * 7 + 1 ≠ p * 7 + 4 := by omega
      have q15 : k * 7 + 1 ≠ p * 7 + 5 := by omega
      have q16 : k * 7 + 1 ≠ p * 7 + 6 := by omega
      have q20 : k * 7 + 2 ≠ p * 7 := by omega
      have q21 : k * 7 + 2 ≠ p * 7 + 1 := by omega
      have q22 : k * 7 + 2 ≠ p * 7 + 2 := by omega
      have q23 : k * 7 + 2 ≠ p * 7 + 3 := by omega
      have q24 : k * 7 + 2 ≠ p * 7 + 4 := by omega
      have q25 : k * 7 + 2 ≠ p * 7 + 5 := by omega
      have q26 : k * 7 + 2 ≠ p * 7 + 6 := by omega
      have q30 : k * 7 + 3 ≠ p * 7 := by omega
      have q31 : k * 7 + 3 ≠ p * 7 + 1 := by omega
      have q32 : k * 7 + 3 ≠ p * 7 + 2 := by omega
      have q33 : k * 7 + 3 ≠ p * 7 + 3 := by omega
      have q34 : k * 7 + 3 ≠ p * 7 + 4 := by omega
      have q35 : k * 7 + 3 ≠ p * 7 + 5 := by omega
      have q36 : k * 7 + 3 ≠ p * 7 + 6 := by omega
      have q40 : k * 7 + 4 ≠ p * 7 := by omega
      have q41 : k * 7 + 4 ≠ p * 7 + 1 := by omega
      have q42 : k * 7 + 4 ≠ p * 7 + 2 := by omega
      have q43 : k * 7 + 4 ≠ p * 7 + 3 := by omega
      have q44 : k * 7 + 4 ≠ p * 7 + 4 := by omega
      have q45 : k * 7 + 4 ≠ p * 7 + 5 := by omega
      have q46 : k * 7 + 4 ≠ p * 7 + 6 := by omega
      have q50 : k * 7 + 5 ≠ p * 7 := by omega
      have q51 : k * 7 + 5 ≠ p * 7 + 1 := by omega
      have q52 : k * 7 + 5 ≠ p * 7 + 2 := by omega
      have q53 : k * 7 + 5 ≠ p * 7 + 3 := by omega
      have q54 : k * 7 + 5 ≠ p * 7 + 4 := by omega
      have q55 : k * 7 + 5 ≠ p * 7 + 5 := by omega
      have q56 : k * 7 + 5 ≠ p * 7 + 6 := by omega
      have q60 : k * 7 + 6 ≠ p * 7 := by omega
      have q61 : k * 7 + 6 ≠ p * 7 + 1 := by omega
      have q62 : k * 7 + 6 ≠ p * 7 + 2 := by omega
      have q63 : k * 7 + 6 ≠ p * 7 + 3 := by omega
      have q64 : k * 7 + 6 ≠ p * 7 + 4 := by omega
      have q65 : k * 7 + 6 ≠ p * 7 + 5 := by omega
      have q66 : k * 7 + 6 ≠ p * 7 + 6 := by omega
      have HLE : Hid (p ≤ n ∧ n + 1 - p < n + 1 - k) := by unfold Hid; omega
      have hne : ((p : Int) == (k : Int)) = false := by rw [beq_eq_false_iff_ne]; omega
      clear hcool hkl hpl hxo hyo hs1 ht1 hs2 ht2 hx hy hout hpk hpar
      go_wp2_with (fail)
      go_region
      go_wp2
      go_roundw
      case rel => exact ⟨p, (A1.set k ((⟨ya, yb, yc, yd, ye, yf⟩ : Pr), yn)).set p ((⟨xa, xb, xc, xd, xe, xf⟩ : Pr), xn), HLE.out.1, rfl, HPS.out, HDS.out, HS.out, HTS.out⟩
      case measure => have := HLE.out.2; simpa [intOf] using this
end Go.Proofs.Ytkialijipcbgkaa
namespace Go.Proofs.Ytkialijipcbgkaa
open Go.RowKit
set_option linter.unusedVariables false

set_option maxRecDepth 100000 in
set_option maxHeartbeats 4000000 in
theorem pdropP {w : World} {qb g j c m fn : Nat} {caps : Array Value} {A : List (Pr × Nat)} {lt : Pr → Pr → Bool} (h : HasP w qb g (j + 1) c A m fn caps) (ho : Qu.Order lt) (hl : Less prV PrOk fn caps lt w (fun k => k = qb ∨ k = g)) (hh : Qu.IsHeap lt A) (hn : j + 1 ≤ 8388608) {r : Pr × Nat} (hr : A[0]? = some r) :
    Calls Try.prog 102 #[.pointer (some ⟨qb, 0, none⟩)] w (fun e w' => e = .returned (.tuple #[]) ∧ ∃ A', (r :: A').Perm A ∧ Qu.IsHeap lt A' ∧ HasP w' qb g j c A' m fn caps ∧ Turned (fun k => k = qb ∨ k = g) w w') := by
  have hlen := h.len
  obtain ⟨⟨⟨za, zb, zc, zd, ze, zf⟩, zn⟩, hz⟩ : ∃ z, A[j]? = some z := ⟨_, List.getElem?_eq_getElem (by omega)⟩
  obtain ⟨
  z0,
  z1,
  z2,
  z3,
  z4,
  z5,
  z6,
  hzo⟩ := h.has hz
  simp only at z0
  simp only at z1
  simp only at z2
  simp only at z3
  simp only at z4
  simp only at z5
  simp only at z6
  obtain ⟨
  r0,
  r1,
  r2,
  r3,
  r4,
  r5,
  r6,
  hro⟩ := h.has hr
  simp only [Nat.zero_mul] at r0
  simp only [Nat.zero_mul, Nat.zero_add] at r1
  simp only [Nat.zero_mul, Nat.zero_add] at r2
  simp only [Nat.zero_mul, Nat.zero_add] at r3
  simp only [Nat.zero_mul, Nat.zero_add] at r4
  simp only [Nat.zero_mul, Nat.zero_add] at r5
  simp only [Nat.zero_mul, Nat.zero_add] at r6
  have hd1 := h.head.list
  have hcool := h.own.cool_
  have f0 := hcool 0
  have f1 := hcool 1
  have f2 := hcool 2
  have f3 := hcool 3
  have f4 := hcool 4
  have f5 := hcool 5
  have f6 := hcool 6
  obtain ⟨hs1, ht1⟩ := h.set (j := 0) (by omega) hzo
  simp only [Nat.zero_mul, Nat.zero_add] at hs1 ht1
  have hs1 := hs1.drew_
  have ht1 := ht1.drew
  have hp := Qu.pop_perm (z := ((⟨za, zb, zc, zd, ze, zf⟩ : Pr), zn)) hr (by rw [hlen]; exact hz)
  rw [hlen] at hp
  have HP := Lib.hid hp
  have hdn := Qu.Down.pop hh ((⟨za, zb, zc, zd, ze, zf⟩ : Pr), zn)
  rw [hlen] at hdn
  have HDN := Lib.hid hdn
  have HL := Lib.hid hl
  have HO := Lib.hid ho
  have HNE := Lib.hid h.apart
  have HLEN := Lib.hid hlen
  obtain ⟨n, hnn⟩ : ∃ n, j + 1 = n := ⟨_, rfl⟩
  rw [hnn] at hd1 hs1
  have hj : (j : Int) < (n : Int) := by omega
  have h0 : (0 : Int) < (n : Int) := by omega
  have h0n : 0 < n := by omega
  have hwj : IntKind.i64.wrap ((n : Int) - 1) = (j : Int) := by rw [IntKind.wrap_i64]; omega
  have HS1 := Lib.hid hs1
  have HT1 := Lib.hid ht1
  have HN := Lib.hid hnn
  clear hs1 ht1 hp hdn hr hz hl ho hh hzo hro h hlen hcool hnn
  go_enter Try.func102, Try.ntmps102
  go_wp2_with (fail)
  go_region
  generalize (((((((w.setCell ⟨g, 0, none⟩ (.int .i64 za)).setCell ⟨g, 1, none⟩ (.int .i64 zb)).setCell ⟨g, 2, none⟩ (.int .i64 zc)).setCell ⟨g, 3, none⟩ (.int .i64 zd)).setCell ⟨g, 4, none⟩ (.int .i64 ze)).setCell ⟨g, 5, none⟩ (.int .u32 (zf : Nat))).setCell ⟨g, 6, none⟩ (.int .u64 (zn : Nat))).drew = w2 at *
  clear hd1
  clear z0 f0 r0
  clear z1 f1 r1
  clear z2 f2 r2
  clear z3 f3 r3
  clear z4 f4 r4
  clear z5 f5 r5
  clear z6 f6 r6
  have hd1 := HS1.out.head.list
  have hcool := HS1.out.own.cool_
  obtain ⟨⟨⟨oa, ob, oc, od, oe, of⟩, on⟩, hor⟩ : ∃ r, (A.set 0 ((⟨za, zb, zc, zd, ze, zf⟩ : Pr), zn))[j]? = some r := ⟨_, List.getElem?_eq_getElem (by rw [List.length_set]; have := HLEN.out; omega)⟩
  obtain ⟨
  o0,
  o1,
  o2,
  o3,
  o4,
  o5,
  o6,
  hoo⟩ := HS1.out.has hor
  simp only at o0
  simp only at o1
  simp only at o2
  simp only at o3
  simp only at o4
  simp only at o5
  simp only at o6
  have f0 := hcool (j * 7)
  have f1 := hcool (j * 7 + 1)
  have f2 := hcool (j * 7 + 2)
  have f3 := hcool (j * 7 + 3)
  have f4 := hcool (j * 7 + 4)
  have f5 := hcool (j * 7 + 5)
  have f6 := hcool (j * 7 + 6)
  obtain ⟨hs3, ht3⟩ := HS1.out.set (j := j) (by have := HN.out; omega) (x := ((⟨0, 0, 0, 0, 0, 0⟩ : Pr), 0)) qPK.okz
  have ht3 := HT1.out.trans ht3 (fun _ _ h => h)
  obtain ⟨w3, hw3⟩ : ∃ w3, ((((((w2.setCell ⟨g, j * 7, none⟩ (.int .i64 0)).setCell ⟨g, j * 7 + 1, none⟩ (.int .i64 0)).setCell ⟨g, j * 7 + 2, none⟩ (.int .i64 0)).setCell ⟨g, j * 7 + 3, none⟩ (.int .i64 0)).setCell ⟨g, j * 7 + 4, none⟩ (.int .i64 0)).setCell ⟨g, j * 7 + 5, none⟩ (.int .u32 0)).setCell ⟨g, j * 7 + 6, none⟩ (.int .u64 0) = w3 := ⟨_, rfl⟩
  have hs3' : HasP w3 qb g n c ((A.set 0 ((⟨za, zb, zc, zd, ze, zf⟩ : Pr), zn)).set j ((⟨0, 0, 0, 0, 0, 0⟩ : Pr), 0)) m fn caps := by rw [← hw3]; exact hs3
  have HT3' : Hid (Turned (fun k => k = qb ∨ k = g) w w3) := by rw [← hw3]; exact ht3
  have c3 := hs3'.head.list
  have f9 := hs3'.head.cool 1
  have ht4 := HT3'.out.setCell (p := ⟨qb, 1, none⟩) (fun _ => .inl rfl) (.slice (some ⟨g, 0, none⟩) j c)
  have hh4 := hs3'.head.setList (.slice (some ⟨g, 0, none⟩) j c)
  have ho4 := (hs3'.own.take_ (k := j) (by have := HLEN.out; simp; omega)).of_block (w' := w3.setCell ⟨qb, 1, none⟩ (.slice (some ⟨g, 0, none⟩) j c)) (fun k hk => heap_setCell_other _ _ _ _ (by have e : g = k := Option.some.inj hk; have := HNE.out; show k ≠ qb; omega))
  obtain ⟨w4, hw4⟩ : ∃ w4, w3.setCell ⟨qb, 1, none⟩ (.slice (some ⟨g, 0, none⟩) j c) = w4 := ⟨_, rfl⟩
  rw [hw4] at ht4 hh4 ho4
  have htk : ((A.set 0 ((⟨za, zb, zc, zd, ze, zf⟩ : Pr), zn)).set j ((⟨0, 0, 0, 0, 0, 0⟩ : Pr), 0)).take j = (A.set 0 ((⟨za, zb, zc, zd, ze, zf⟩ : Pr), zn)).take j := List.take_set_of_le (Nat.le_refl _)
  rw [htk] at ho4
  have hq4 : HasP w4 qb g j c ((A.set 0 ((⟨za, zb, zc, zd, ze, zf⟩ : Pr), zn)).take j) m fn caps := ⟨hh4, ho4, HNE.out, by have := HLEN.out; simp; omega⟩
  have HDW := Lib.hid (psinkP hq4 HO.out (HL.out.step ht4 (fun _ _ h => h)) HDN.out (by omega))
  have HT4 := Lib.hid ht4
  have hbd : (j : Int) ≤ (c : Int) := by have := hs3'.own.form_.len_; have := HN.out; omega
  clear hor hoo hs3 ht3 hs3' ht4 hh4 ho4 hq4 htk HT3' HDN hcool
  go_wp2_with (fail)
  refine (HDW.out).mono ?_
  rintro e w5 ⟨rfl, A2, hp2, hheap, hq5, ht5⟩
  have HE := Lib.hid (show ∃ A', (r :: A').Perm A ∧ Qu.IsHeap lt A' ∧ HasP w5 qb g j c A' m fn caps ∧ Turned (fun k => k = qb ∨ k = g) w w5 from
    ⟨A2, (hp2.cons _).trans HP.out, hheap, hq5, HT4.out.trans ht5 (fun _ _ h => h)⟩)
  clear hp2 hheap hq5 ht5 HDW HT4 c3 f9 hd1
  go_wp2
  go_end0
  exact ⟨rfl, HE.out⟩

end Go.Proofs.Ytkialijipcbgkaa
