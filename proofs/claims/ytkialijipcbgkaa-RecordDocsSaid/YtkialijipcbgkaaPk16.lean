/-
  QuAhP: The program's queue of stook/bpe.pair: which of two entries is ahead.
  QuRiseP: The program's queue of stook/bpe.pair: the last entry moves up.
  StepM: An element put behind an own list at a step of a region that draws its order; and where the list lies then.
  QuPushP: The program's queue of stook/bpe.pair: Push.
-/
import Derived.Test.YtkialijipcbgkaaPk15
import Derived.Test.YtkialijipcbgkaaPk02
import Derived.Deep.RegionLaw
namespace Go.Proofs.Ytkialijipcbgkaa
open Go.RowKit
set_option linter.unusedVariables false

set_option maxRecDepth 100000 in
set_option maxHeartbeats 2000000 in
theorem paheadP {w : World} {qb fn m : Nat} {caps : Array Value} {v : Value} {lt : Pr → Pr → Bool} {F : Nat → Prop} (h : HeadP w qb fn caps v m) (ho : Qu.Order lt) (hl : Less prV PrOk fn caps lt w F) {x y : Pr × Nat} (hx : PrOk x.1) (hy : PrOk y.1) :
    Calls Try.prog 119 #[.pointer (some ⟨qb, 0, none⟩), .agg #[.int .i64 x.1.1, .int .i64 x.1.2, .int .i64 x.1.3, .int .i64 x.1.4, .int .i64 x.1.5, .int .u32 (x.1.6 : Nat), .int .u64 (x.2 : Nat)], .agg #[.int .i64 y.1.1, .int .i64 y.1.2, .int .i64 y.1.3, .int .i64 y.1.4, .int .i64 y.1.5, .int .u32 (y.1.6 : Nat), .int .u64 (y.2 : Nat)]] w (fun e w' => e = .returned (.bool (Qu.ah lt x y)) ∧ Below w.heap.size w w') := by
  obtain ⟨⟨xa, xb, xc, xd, xe, xf⟩, xn⟩ := x
  obtain ⟨⟨ya, yb, yc, yd, ye, yf⟩, yn⟩ := y
  simp only at hx hy ⊢
  have hans := hl.ans
  have hent1 := fun w => hl.ent (#[.agg #[.int .i64 xa, .int .i64 xb, .int .i64 xc, .int .i64 xd, .int .i64 xe, .int .u32 (xf : Nat)], .agg #[.int .i64 ya, .int .i64 yb, .int .i64 yc, .int .i64 yd, .int .i64 ye, .int .u32 (yf : Nat)]] ++ caps) w
  have hent2 := fun w => hl.ent (#[.agg #[.int .i64 ya, .int .i64 yb, .int .i64 yc, .int .i64 yd, .int .i64 ye, .int .u32 (yf : Nat)], .agg #[.int .i64 xa, .int .i64 xb, .int .i64 xc, .int .i64 xd, .int .i64 xe, .int .u32 (xf : Nat)]] ++ caps) w
  obtain ⟨s, hs⟩ : ∃ s, w.heap.size = s := ⟨_, rfl⟩
  obtain ⟨W1, hW1⟩ : ∃ W, w.alloc (.cells #[.int .i64 xa, .int .i64 xb, .int .i64 xc, .int .i64 xd, .int .i64 xe, .int .u32 (xf : Nat), .int .u64 (xn : Nat)] 155) = W := ⟨_, rfl⟩
  have hs1 : W1.heap.size = s + 1 := by rw [← hW1, ← hs]; simp
  obtain ⟨W2, hW2⟩ : ∃ W, W1.alloc (.cells #[.int .i64 ya, .int .i64 yb, .int .i64 yc, .int .i64 yd, .int .i64 ye, .int .u32 (yf : Nat), .int .u64 (yn : Nat)] 155) = W := ⟨_, rfl⟩
  have hx1 : W1.heap[s]? = some (.cells #[.int .i64 xa, .int .i64 xb, .int .i64 xc, .int .i64 xd, .int .i64 xe, .int .u32 (xf : Nat), .int .u64 (xn : Nat)] 155 (0, 0)) := by rw [← hW1, ← hs]; exact heap_alloc_new w _
  have hy2 : W2.heap[s + 1]? = some (.cells #[.int .i64 ya, .int .i64 yb, .int .i64 yc, .int .i64 yd, .int .i64 ye, .int .u32 (yf : Nat), .int .u64 (yn : Nat)] 155 (0, 0)) := by rw [← hW2, ← hs1]; exact heap_alloc_new W1 _
  have b1 : Below s w W1 := by rw [← hW1]; exact (Below.refl s w).alloc (by omega) _
  have b2 : Below s w W2 := by rw [← hW2]; exact b1.alloc (by omega) _
  have b12 : Below (s + 1) W1 W2 := by rw [← hW2]; exact (Below.refl (s + 1) W1).alloc (by omega) _
  have hx2 := (b12.block s (by omega)).trans hx1
  have hd2 : HeadP W2 qb fn caps v m := h.block_ (b2.block qb (by have := h.lt_; omega))
  have T2 : Turned F w W2 := by rw [← hW2, ← hW1]; exact ((Turned.refl _ w).alloc _).alloc _
  have HT2 := Lib.hid T2.drew
  have HB2 := Lib.hid b2
  have HD := Lib.hid hd2
  have HXY := Lib.hid (And.intro hx hy)
  have HLA := Lib.hid hans
  have hqs : qb < s := by have := h.lt_; omega
  have HX := Lib.hid hx2
  have HY := Lib.hid hy2
  have HO := Lib.hid ho
  have xturn : W2.cell? ⟨s, 6, none⟩ = some (.int .u64 (xn : Nat)) := by rw [cell_of_row _ _ 6 _ _ _ hx2]; rfl
  have yturn : W2.cell? ⟨s + 1, 6, none⟩ = some (.int .u64 (yn : Nat)) := by rw [cell_of_row _ _ 6 _ _ _ hy2]; rfl
  have HS2 : Hid (s + 1 < W2.heap.size) := (Array.getElem?_eq_some_iff.1 hy2).1
  clear h hl hx hy hans b1 b2 b12 hx2 hd2 T2 hx1 hy2 ho
  by_cases hlt : xn < yn
  · have g1 : ((xn : Nat) : Int) < ((yn : Nat) : Int) := by omega
    have HG := Lib.hid hlt
    clear hlt
    go_enter Try.func119, Try.ntmps119
    go_wp2
    have qd0 := HD.out.less
    have xc0 : W2.cell? ⟨s, 0, none⟩ = some (.int .i64 xa) := by rw [cell_of_row _ _ 0 _ _ _ HX.out]; rfl
    have xc1 : W2.cell? ⟨s, 1, none⟩ = some (.int .i64 xb) := by rw [cell_of_row _ _ 1 _ _ _ HX.out]; rfl
    have xc2 : W2.cell? ⟨s, 2, none⟩ = some (.int .i64 xc) := by rw [cell_of_row _ _ 2 _ _ _ HX.out]; rfl
    have xc3 : W2.cell? ⟨s, 3, none⟩ = some (.int .i64 xd) := by rw [cell_of_row _ _ 3 _ _ _ HX.out]; rfl
    have xc4 : W2.cell? ⟨s, 4, none⟩ = some (.int .i64 xe) := by rw [cell_of_row _ _ 4 _ _ _ HX.out]; rfl
    have xc5 : W2.cell? ⟨s, 5, none⟩ = some (.int .u32 (xf : Nat)) := by rw [cell_of_row _ _ 5 _ _ _ HX.out]; rfl
    have yc0 : W2.cell? ⟨s + 1, 0, none⟩ = some (.int .i64 ya) := by rw [cell_of_row _ _ 0 _ _ _ HY.out]; rfl
    have yc1 : W2.cell? ⟨s + 1, 1, none⟩ = some (.int .i64 yb) := by rw [cell_of_row _ _ 1 _ _ _ HY.out]; rfl
    have yc2 : W2.cell? ⟨s + 1, 2, none⟩ = some (.int .i64 yc) := by rw [cell_of_row _ _ 2 _ _ _ HY.out]; rfl
    have yc3 : W2.cell? ⟨s + 1, 3, none⟩ = some (.int .i64 yd) := by rw [cell_of_row _ _ 3 _ _ _ HY.out]; rfl
    have yc4 : W2.cell? ⟨s + 1, 4, none⟩ = some (.int .i64 ye) := by rw [cell_of_row _ _ 4 _ _ _ HY.out]; rfl
    have yc5 : W2.cell? ⟨s + 1, 5, none⟩ = some (.int .u32 (yf : Nat)) := by rw [cell_of_row _ _ 5 _ _ _ HY.out]; rfl
    go_still_tail 8, (by kernel_rfl)
    change wpList _ _ _ _ _ W2.drew
    have HA := Lib.hid (HLA.out (⟨ya, yb, yc, yd, ye, yf⟩ : Pr) (⟨xa, xb, xc, xd, xe, xf⟩ : Pr) HXY.out.2 HXY.out.1 W2.drew HT2.out)
    obtain ⟨b, hb⟩ : ∃ b, lt (⟨ya, yb, yc, yd, ye, yf⟩ : Pr) (⟨xa, xb, xc, xd, xe, xf⟩ : Pr) = b := ⟨_, rfl⟩
    rw [hb] at HA
    have HB := Lib.hid hb
    clear hb qd0
    clear xc0 yc0
    clear xc1 yc1
    clear xc2 yc2
    clear xc3 yc3
    clear xc4 yc4
    clear xc5 yc5
    go_wp2_with (fail)
    refine (HA.out).mono ?_
    rintro e w3 ⟨rfl, hb3⟩
    have HB3 : Hid (Below s w w3) := HB2.out.trans (Below.mono ⟨hb3.os, hb3.tape, hb3.output, hb3.size, hb3.block⟩ (by have := HS2.out; show s ≤ W2.drew.heap.size; show s ≤ W2.heap.size; omega))
    have HE : Hid (Qu.ah lt ((⟨xa, xb, xc, xd, xe, xf⟩ : Pr), xn) ((⟨ya, yb, yc, yd, ye, yf⟩ : Pr), yn) = !b) := by rw [← HB.out]; exact Qu.ah_turn HO.out HG.out
    clear hb3 HA
    go_wp2
    go_ret
    exact ⟨by rw [HE.out]; rfl, HB3.out.mono (by omega)⟩
  · have g1 : ¬ ((xn : Nat) : Int) < ((yn : Nat) : Int) := by omega
    have HG := Lib.hid hlt
    clear hlt
    go_enter Try.func119, Try.ntmps119
    go_wp2
    have qd0 := HD.out.less
    have xc0 : W2.cell? ⟨s, 0, none⟩ = some (.int .i64 xa) := by rw [cell_of_row _ _ 0 _ _ _ HX.out]; rfl
    have xc1 : W2.cell? ⟨s, 1, none⟩ = some (.int .i64 xb) := by rw [cell_of_row _ _ 1 _ _ _ HX.out]; rfl
    have xc2 : W2.cell? ⟨s, 2, none⟩ = some (.int .i64 xc) := by rw [cell_of_row _ _ 2 _ _ _ HX.out]; rfl
    have xc3 : W2.cell? ⟨s, 3, none⟩ = some (.int .i64 xd) := by rw [cell_of_row _ _ 3 _ _ _ HX.out]; rfl
    have xc4 : W2.cell? ⟨s, 4, none⟩ = some (.int .i64 xe) := by rw [cell_of_row _ _ 4 _ _ _ HX.out]; rfl
    have xc5 : W2.cell? ⟨s, 5, none⟩ = some (.int .u32 (xf : Nat)) := by rw [cell_of_row _ _ 5 _ _ _ HX.out]; rfl
    have yc0 : W2.cell? ⟨s + 1, 0, none⟩ = some (.int .i64 ya) := by rw [cell_of_row _ _ 0 _ _ _ HY.out]; rfl
    have yc1 : W2.cell? ⟨s + 1, 1, none⟩ = some (.int .i64 yb) := by rw [cell_of_row _ _ 1 _ _ _ HY.out]; rfl
    have yc2 : W2.cell? ⟨s + 1, 2, none⟩ = some (.int .i64 yc) := by rw [cell_of_row _ _ 2 _ _ _ HY.out]; rfl
    have yc3 : W2.cell? ⟨s + 1, 3, none⟩ = some (.int .i64 yd) := by rw [cell_of_row _ _ 3 _ _ _ HY.out]; rfl
    have yc4 : W2.cell? ⟨s + 1, 4, none⟩ = some (.int .i64 ye) := by rw [cell_of_row _ _ 4 _ _ _ HY.out]; rfl
    have yc5 : W2.cell? ⟨s + 1, 5, none⟩ = some (.int .u32 (yf : Nat)) := by rw [cell_of_row _ _ 5 _ _ _ HY.out]; rfl
    go_still_tail 8, (by kernel_rfl)
    change wpList _ _ _ _ _ W2.drew
    have HA := Lib.hid (HLA.out (⟨xa, xb, xc, xd, xe, xf⟩ : Pr) (⟨ya, yb, yc, yd, ye, yf⟩ : Pr) HXY.out.1 HXY.out.2 W2.drew HT2.out)
    obtain ⟨b, hb⟩ : ∃ b, lt (⟨xa, xb, xc, xd, xe, xf⟩ : Pr) (⟨ya, yb, yc, yd, ye, yf⟩ : Pr) = b := ⟨_, rfl⟩
    rw [hb] at HA
    have HB := Lib.hid hb
    clear hb qd0
    clear xc0 yc0
    clear xc1 yc1
    clear xc2 yc2
    clear xc3 yc3
    clear xc4 yc4
    clear xc5 yc5
    go_wp2_with (fail)
    refine (HA.out).mono ?_
    rintro e w3 ⟨rfl, hb3⟩
    have HB3 : Hid (Below s w w3) := HB2.out.trans (Below.mono ⟨hb3.os, hb3.tape, hb3.output, hb3.size, hb3.block⟩ (by have := HS2.out; show s ≤ W2.drew.heap.size; show s ≤ W2.heap.size; omega))
    have HE : Hid (Qu.ah lt ((⟨xa, xb, xc, xd, xe, xf⟩ : Pr), xn) ((⟨ya, yb, yc, yd, ye, yf⟩ : Pr), yn) = b) := by rw [← HB.out]; exact Qu.ah_else HG.out
    clear hb3 HA
    go_wp2
    go_ret
    exact ⟨by rw [HE.out]; rfl, HB3.out.mono (by omega)⟩
end Go.Proofs.Ytkialijipcbgkaa
namespace Go.Proofs.Ytkialijipcbgkaa
open Go.RowKit
set_option linter.unusedVariables false

set_option maxRecDepth 100000 in
set_option maxHeartbeats 4000000 in
theorem priseP {w : World} {qb g n c m fn : Nat} {caps : Array Value} {A : List (Pr × Nat)} {lt : Pr → Pr → Bool} (h : HasP w qb g n c A m fn caps) (ho : Qu.Order lt) (hl : Less prV PrOk fn caps lt w (fun k => k = qb ∨ k = g)) {i : Nat} (hi : i + 1 = n) (hu : Qu.Up lt A i) (hn : n ≤ 8388608) :
    Calls Try.prog 110 #[.pointer (some ⟨qb, 0, none⟩)] w (fun e w' => e = .returned (.tuple #[]) ∧ ∃ A', A'.Perm A ∧ Qu.IsHeap lt A' ∧ HasP w' qb g n c A' m fn caps ∧ Turned (fun k => k = qb ∨ k = g) w w') := by
  have H0 := Lib.hid h
  have HL := Lib.hid hl
  have HU := Lib.hid hu
  have HO := Lib.hid ho
  have HNE := Lib.hid h.apart
  have hd1 := h.head.list
  have hw0 : IntKind.i64.wrap ((n : Int) - 1) = (i : Int) := by rw [IntKind.wrap_i64]; omega
  have HI : Hid (i < n) := by unfold Hid; omega
  clear h hl hu ho hi
  go_enter Try.func110, Try.ntmps110
  go_wp2
  clear hd1 hw0
  go_loopw [3] (fun i wr => ∃ (k : Nat) (A1 : List (Pr × Nat)), k < n ∧ i = .int .i64 k ∧ Hid (A1.Perm A) ∧ Hid (Qu.Up lt A1 k) ∧ Hid (HasP wr qb g n c A1 m fn caps) ∧ Turned (fun k => k = qb ∨ k = g) w wr) (fun i _ => (intOf i).toNat)
  case atStart => exact ⟨i, A, HI.out, rfl, .refl _, HU.out, H0.out, Turned.refl _ _⟩
  case round =>
    obtain ⟨k, A1, hk, rfl, HP, HU1, HH, ht⟩ := hrel
    clear HU H0
    have HT := Lib.hid ht
    clear ht
    rcases Nat.eq_zero_or_pos k with rfl | hpos
    · have HD : Hid (Qu.IsHeap lt A1) := HU1.out.done (fun _ _ h => absurd h (by omega))
      go_wp2
      go_end0
      exact ⟨rfl, A1, HP.out, HD.out, HH.out, HT.out⟩
    · obtain ⟨r, hr⟩ : ∃ r, r + 1 = k := ⟨k - 1, by omega⟩
      have g0 : ((k : Nat) : Int) > 0 := by omega
      obtain ⟨p, hp⟩ : ∃ p, r / 2 = p := ⟨_, rfl⟩
      have hkl : k < A1.length := by have := HH.out.len; omega
      have hpl : p < A1.length := by omega
      obtain ⟨⟨⟨xa, xb, xc, xd, xe, xf⟩, xn⟩, hx⟩ : ∃ x, A1[k]? = some x := ⟨_, List.getElem?_eq_getElem hkl⟩
      obtain ⟨⟨⟨ya, yb, yc, yd, ye, yf⟩, yn⟩, hy⟩ : ∃ y, A1[p]? = some y := ⟨_, List.getElem?_eq_getElem hpl⟩
      have hw1 : IntKind.i64.wrap ((k : Int) - 1) = (r : Int) := by rw [IntKind.wrap_i64]; omega
      have hw2 : (r : Int).tdiv 2 = (p : Int) := by rw [← hp]; rfl
      have hw3 : IntKind.i64.wrap (p : Int) = (p : Int) := by rw [IntKind.wrap_i64]; omega
      obtain ⟨
      x0,
      x1,
      x2,
      x3,
      x4,
      x5,
      x6,
      hxo⟩ := HH.out.has hx
      obtain ⟨
      y0,
      y1,
      y2,
      y3,
      y4,
      y5,
      y6,
      hyo⟩ := HH.out.has hy
      simp only at x0 y0
      simp only at x1 y1
      simp only at x2 y2
      simp only at x3 y3
      simp only at x4 y4
      simp only at x5 y5
      simp only at x6 y6
      have HA : Hid (Calls Try.prog 119 #[.pointer (some ⟨qb, 0, none⟩), .agg #[.int .i64 xa, .int .i64 xb, .int .i64 xc, .int .i64 xd, .int .i64 xe, .int .u32 (xf : Nat), .int .u64 (xn : Nat)], .agg #[.int .i64 ya, .int .i64 yb, .int .i64 yc, .int .i64 yd, .int .i64 ye, .int .u32 (yf : Nat), .int .u64 (yn : Nat)]] wr.drew (fun e w' => e = .returned (.bool (Qu.ah lt ((⟨xa, xb, xc, xd, xe, xf⟩ : Pr), xn) ((⟨ya, yb, yc, yd, ye, yf⟩ : Pr), yn))) ∧ Below wr.drew.heap.size wr.drew w')) :=
        paheadP (x := ((⟨xa, xb, xc, xd, xe, xf⟩ : Pr), xn)) (y := ((⟨ya, yb, yc, yd, ye, yf⟩ : Pr), yn)) HH.out.drew_.head HO.out (HL.out.step HT.out.drew (fun _ _ h => h)) hxo.1 hyo.1
      obtain ⟨b, hb⟩ : ∃ b, Qu.ah lt ((⟨xa, xb, xc, xd, xe, xf⟩ : Pr), xn) ((⟨ya, yb, yc, yd, ye, yf⟩ : Pr), yn) = b := ⟨_, rfl⟩
      have HX := Lib.hid hx
      have HY := Lib.hid hy
      have HXO := Lib.hid hxo
      have HYO := Lib.hid hyo
      rw [hb] at HA
      have HB := Lib.hid hb
      have HPP : Hid ((k - 1) / 2 = p) := by unfold Hid; rw [← hp, ← hr]; rfl
      have hpk : p < k := by omega
      have hn1 : (k : Int) < (n : Int) := by omega
      have hn2 : (p : Int) < (n : Int) := by omega
      clear hb hx hy hxo hyo hr hp
      go_wp2
      go_still_tail 9, (by kernel_rfl)
      change wpList _ _ _ _ _ wr.drew
      clear x0 y0
      clear x1 y1
      clear x2 y2
      clear x3 y3
      clear x4 y4
      clear x5 y5
      clear x6 y6
      go_wp2_with (fail)
      refine (HA.out).mono ?_
      rintro e w1 ⟨rfl, hb1⟩
      have hb1' : Below wr.heap.size wr w1 := ⟨hb1.os, hb1.tape, hb1.output, hb1.size, hb1.block⟩
      have HH1 := Lib.hid (HH.out.below_ hb1')
      have HT1 := Lib.hid (HT.out.trans (Turned.of_below hb1') (fun k h1 h2 => absurd h1 (by have := HT.out.size; omega)))
      clear hb1 hb1' HA HH
      cases b with
      | false =>
        have HD : Hid (Qu.IsHeap lt A1) := HU1.out.done (fun a b _ ha hb => by
          rw [HX.out] at ha
          rw [HPP.out, HY.out] at hb
          cases ha; cases hb
          exact HB.out)
        go_wp2
        refine bodyPost_ret (results_none rfl _ _ _) rfl ?_
        exact ⟨rfl, A1, HP.out, HD.out, HH1.out, HT1.out⟩
      | true =>
        obtain ⟨
        x0,
        x1,
        x2,
        x3,
        x4,
        x5,
        x6,
        hxo⟩ := HH1.out.has HX.out
        obtain ⟨
        y0,
        y1,
        y2,
        y3,
        y4,
        y5,
        y6,
        hyo⟩ := HH1.out.has HY.out
        have e1 : k ≠ p := by omega
        have hcool := HH1.out.own.cool_
        simp only at x0 y0
        simp only at x1 y1
        simp only at x2 y2
        simp only at x3 y3
        simp only at x4 y4
        simp only at x5 y5
        simp only at x6 y6
        obtain ⟨hs1, ht1⟩ := HH1.out.set (show k < n by omega) hyo
        obtain ⟨hs2, ht2⟩ := hs1.set (show p < n by omega) hxo
        have HS := Lib.hid hs2.drew_
        have HTS := Lib.hid ((HT1.out.trans ht1 (fun _ _ h => h)).trans ht2 (fun _ _ h => h)).drew
        have HPS : Hid (((A1.set k ((⟨ya, yb, yc, yd, ye, yf⟩ : Pr), yn)).set p ((⟨xa, xb, xc, xd, xe, xf⟩ : Pr), xn)).Perm A) := (Qu.two_perm HX.out HY.out).trans HP.out
        have HUS : Hid (Qu.Up lt ((A1.set k ((⟨ya, yb, yc, yd, ye, yf⟩ : Pr), yn)).set p ((⟨xa, xb, xc, xd, xe, xf⟩ : Pr), xn)) p) := HU1.out.step HO.out hpos HPP.out HX.out HY.out HB.out
        clear hxo hyo hs1 ht1 hs2 ht2
        go_wp2_with (fail)
        have f0 := hcool (k * 7)
        have f1 := hcool (k * 7 + 1)
        have f2 := hcool (k * 7 + 2)
        have f3 := hcool (k * 7 + 3)
        have f4 := hcool (k * 7 + 4)
        have f5 := hcool (k * 7 + 5)
        have f6 := hcool (k * 7 + 6)
        have h0 := hcool (p * 7)
        have h1 := hcool (p * 7 + 1)
        have h2 := hcool (p * 7 + 2)
        have h3 := hcool (p * 7 + 3)
        have h4 := hcool (p * 7 + 4)
        have h5 := hcool (p * 7 + 5)
        have h6 := hcool (p * 7 + 6)
        have q00 : k * 7 ≠ p * 7 := by omega
        have q01 : k * 7 ≠ p * 7 + 1 := by omega
        have q02 : k * 7 ≠ p * 7 + 2 := by omega
        have q03 : k * 7 ≠ p * 7 + 3 := by omega
        have q04 : k * 7 ≠ p * 7 + 4 := by omega
        have q05 : k * 7 ≠ p * 7 + 5 := by omega
        have q06 : k * 7 ≠ p * 7 + 6 := by omega
        have q10 : k * 7 + 1 ≠ p * 7 := by omega
        have q11 : k * 7 + 1 ≠ p * 7 + 1 := by omega
        have q12 : k * 7 + 1 ≠ p * 7 + 2 := by omega
        have q13 : k * 7 + 1 ≠ p * 7 + 3 := by omega
        have q14 : k * 7 + 1 ≠ p * 7 + 4 := by omega
        have q15 : k * 7 + 1 ≠ p * 7 + 5 := by omega
        have q16 : k * 7 + 1 ≠ p * 7 + 6 := by omega
        have q20 : k * 7 + 2 ≠ p * 7 := by omega
        have q21 : k * 7 + 2 ≠ p * 7 + 1 := by omega
        have q22 : k * 7 + 2 ≠ p * 7 + 2 := by omega
        have q23 : k * 7 + 2 ≠ p * 7 + 3 := by omega
        have q24 : k * 7 + 2 ≠ p * 7 + 4 := by omega
        have q25 : k * 7 + 2 ≠ p * 7 + 5 := by omega
        have q26 : k * 7 + 2 ≠ p * 7 + 6 := by omega
        have q30 : k * 7 + 3 ≠ p * 7 := by omega
        have q31 : k * 7 + 3 ≠ p * 7 + 1 := by omega
        have q32 : k * 7 + 3 ≠ p * 7 + 2 := by omega
        have q33 : k * 7 + 3 ≠ p * 7 + 3 := by omega
        have q34 : k * 7 + 3 ≠ p * 7 + 4 := by omega
        have q35 : k * 7 + 3 ≠ p * 7 + 5 := by omega
        have q36 : k * 7 + 3 ≠ p * 7 + 6 := by omega
        have q40 : k * 7 + 4 ≠ p * 7 := by omega
        have q41 : k * 7 + 4 ≠ p * 7 + 1 := by omega
        have q42 : k * 7 + 4 ≠ p * 7 + 2 := by omega
        have q43 : k * 7 + 4 ≠ p * 7 + 3 := by omega
        have q44 : k * 7 + 4 ≠ p * 7 + 4 := by omega
        have q45 : k * 7 + 4 ≠ p * 7 + 5 := by omega
        have q46 : k * 7 + 4 ≠ p * 7 + 6 := by omega
        have q50 : k * 7 + 5 ≠ p * 7 := by omega
        have q51 : k * 7 + 5 ≠ p * 7 + 1 := by omega
        have q52 : k * 7 + 5 ≠ p * 7 + 2 := by omega
        have q53 : k * 7 + 5 ≠ p * 7 + 3 := by omega
        have q54 : k * 7 + 5 ≠ p * 7 + 4 := by omega
        have q55 : k * 7 + 5 ≠ p * 7 + 5 := by omega
        have q56 : k * 7 + 5 ≠ p * 7 + 6 := by omega
        have q60 : k * 7 + 6 ≠ p * 7 := by omega
        have q61 : k * 7 + 6 ≠ p * 7 + 1 := by omega
        have q62 : k * 7 + 6 ≠ p * 7 + 2 := by omega
        have q63 : k * 7 + 6 ≠ p * 7 + 3 := by omega
        have q64 : k * 7 + 6 ≠ p * 7 + 4 := by omega
        have q65 : k * 7 + 6 ≠ p * 7 + 5 := by omega
        have q66 : k * 7 + 6 ≠ p * 7 + 6 := by omega
        clear hcool hkl hpl hw1 hw2 hw3
        go_region
        go_wp2
        go_roundw
        case rel => exact ⟨p, (A1.set k ((⟨ya, yb, yc, yd, ye, yf⟩ : Pr), yn)).set p ((⟨xa, xb, xc, xd, xe, xf⟩ : Pr), xn), by omega, rfl, HPS.out, HUS.out, HS.out, HTS.out⟩
        case measure => simp [intOf]; omega
end Go.Proofs.Ytkialijipcbgkaa
namespace Go.Proofs.Ytkialijipcbgkaa
open Go.RowKit
set_option linter.unusedVariables false

section
variable {P : Program} {α : Type}
theorem step_append_m (w : World) {ops : Array Oper} {o : Oper} {a : Act} {K' : Act → World → Prop} {Q : Exit → Act → World → Prop} {E : Prop} (K : El P α) (hgd : o.guard = none) (s t : Operand)
    (ho : o.op = .call { callee := .builtin .append, args := #[s, t], argTypes := #[K.s, K.s] })
    (base : Nat) (v : Value) (hs : a.eval s = v) (l : List α) (hown : OwnL K w base v l) (x : Value) (hx0 : a.eval t = x) (B : Nat) (m : List α) (hx : Lv K w B x m) (hsz : (l.length + m.length) * K.bytes ≤ 140737488355328) (h63 : l.length + m.length ≤ maxLen) (hbase : base ≤ w.heap.size)
    (h : ∀ A c w', OwnL K w' base (.slice A (l ++ m).length c) (l ++ m) → w.grownBy w' v.ownBlock → Moved w v (.slice A (l ++ m).length c) → K' (a.put o.dst (.slice A (l ++ m).length c)) w') :
    if Region.wanted o (yielded ops a.tmps) = true then Oper.wp P o a w K' Q else E := by
  have hw : Region.wanted o (yielded ops a.tmps) = true := by simp [Region.wanted, hgd]
  rw [if_pos hw]
  obtain ⟨v', w', hr, hA, hG, hM⟩ := run_append_m w base v l hown o.type x B m hx hsz h63 hbase
  obtain ⟨A, c, rfl, _⟩ := hA.form_
  unfold Oper.wp execOp
  simp only [ho, resolve, invoke, builtin, Sem.run_bind, Sem.run_pure, Result.andThen_ok, List.map_toArray, List.map_cons, List.map_nil, hs, hx0, hr]
  exact h A c w' hA hG hM
theorem step_push_m (w : World) {ops : Array Oper} {o : Oper} {a : Act} {K' : Act → World → Prop} {Q : Exit → Act → World → Prop} {E : Prop} (K : El P α) (hgd : o.guard = none) (s t : Operand)
    (ho : o.op = .call { callee := .builtin .append, args := #[s, t], argTypes := #[K.s, K.s] })
    (base : Nat) (v : Value) (hs : a.eval s = v) (l : List α) (hown : OwnL K w base v l) (ht : a.eval t = .slice (some ⟨w.heap.size, 0, none⟩) 1 1) (x : α) (hx : K.ok x) (cs : Array Value) (hcs : cs = (K.enc x).toArray) (e : TypeId) (he : e = K.e) (hsz : (l.length + 1) * K.bytes ≤ 140737488355328) (h63 : l.length + 1 ≤ maxLen) (hbase : base ≤ w.heap.size)
    (h : ∀ A c w', OwnL K w' base (.slice A (l.length + 1) c) (l ++ [x]) → w.grownBy w' v.ownBlock → Moved w v (.slice A (l.length + 1) c) → K' (a.put o.dst (.slice A (l.length + 1) c)) w') :
    if Region.wanted o (yielded ops a.tmps) = true then Oper.wp P o a (w.alloc (.cells cs e)) K' Q else E := by
  subst hcs he
  refine step_append_m _ K hgd s t ho base v hs l (hown.alloc_ _) _ ht _ [x] (Lv.lit_ w hx) (by simpa using hsz) (by simpa using h63) (by simp; omega) fun A c w' h1 h2 h3 => ?_
  rw [List.length_append, List.length_singleton] at h1 h3 ⊢
  exact h A c w' h1 (grown_alloc h2) (fun k hk => (h3 k hk).imp id (fun h => by simp at h; omega))
end
end Go.Proofs.Ytkialijipcbgkaa
namespace Go.Proofs.Ytkialijipcbgkaa
open Go.RowKit
set_option linter.unusedVariables false

set_option maxRecDepth 100000 in
set_option maxHeartbeats 4000000 in
theorem ppushP' {w : World} {qb m fn : Nat} {caps : Array Value} {v : Value} {A : List (Pr × Nat)} {lt : Pr → Pr → Bool}
    (hd : HeadP w qb fn caps v m) (hown : OwnL qPK w 0 v A) (hap : v.ownBlock ≠ some qb) (ho : Qu.Order lt) (hl : Less prV PrOk fn caps lt w (fun k => k = qb ∨ v.ownBlock = some k)) (hh : Qu.IsHeap lt A)
    (xa : Int) (xb : Int) (xc : Int) (xd : Int) (xe : Int) (xf : Nat) (hx : PrOk (⟨xa, xb, xc, xd, xe, xf⟩ : Pr)) (hm : m ≤ 4194304) (hA : A.length ≤ 4194304) :
    Calls Try.prog 100 #[.pointer (some ⟨qb, 0, none⟩), .agg #[.int .i64 xa, .int .i64 xb, .int .i64 xc, .int .i64 xd, .int .i64 xe, .int .u32 (xf : Nat)]] w (fun e w' => e = .returned (.int .i64 0) ∧ ∃ g n c A', A'.Perm (A ++ [((⟨xa, xb, xc, xd, xe, xf⟩ : Pr), m)]) ∧ Qu.IsHeap lt A' ∧ HasP w' qb g n c A' (m + 1) fn caps ∧ Turned (fun k => k = qb ∨ v.ownBlock = some k) w w' ∧ (v.ownBlock = some g ∨ w.heap.size ≤ g)) := by
  obtain ⟨vA, vn, vc, rfl⟩ : ∃ A0 n0 c0, v = .slice A0 n0 c0 := by
    obtain ⟨A0, c0, e, _⟩ := hown.form_
    exact ⟨_, _, _, e⟩
  obtain ⟨W, hW⟩ : ∃ W, w.alloc (.cells #[.int .i64 xa, .int .i64 xb, .int .i64 xc, .int .i64 xd, .int .i64 xe, .int .u32 (xf : Nat)] 117) = W := ⟨_, rfl⟩
  obtain ⟨s, hs⟩ : ∃ s, w.heap.size = s := ⟨_, rfl⟩
  have HT0 : Hid (Turned (fun _ => False) w W) := by unfold Hid; rw [← hW]; exact (Turned.refl _ w).alloc _
  have hbx : W.heap[s]? = some (.cells #[.int .i64 xa, .int .i64 xb, .int .i64 xc, .int .i64 xd, .int .i64 xe, .int .u32 (xf : Nat)] 117 (0, 0)) := by rw [← hW, ← hs]; exact heap_alloc_new w _
  have hbxs : s < W.heap.size := (Array.getElem?_eq_some_iff.1 hbx).1
  have hlt1 := hown.lt_
  have hgo : ∀ g, (Value.slice vA vn vc).ownBlock = some g → g < W.heap.size := fun g h => by have := (hlt1 g h).2; omega
  have hd := hd.block_ (HT0.out.block qb hd.lt_ (fun h => h))
  have hown := hown.turned_ HT0.out (fun _ _ h => h)
  have hl := hl.step (HT0.out.mono (fun _ _ h => h.elim)) (fun _ _ h => h)
  have HM := Lib.hid (pmadeP hd)
  have d1 := hd.list
  have d2 := hd.turns
  have bqb : qb < W.heap.size := hd.lt_
  have hb1 : Below W.heap.size W (W.alloc (.cells #[.int .i64 xa, .int .i64 xb, .int .i64 xc, .int .i64 xd, .int .i64 xe, .int .u32 (xf : Nat), .int .u64 (m : Nat)] 155)) := (Below.refl _ W).alloc (Nat.le_refl _) _
  have d1a := (hb1.cell (show _ < _ from bqb)).trans d1
  have bx0 : W.cell? ⟨s, 0, none⟩ = some (.int .i64 xa) := by rw [cell_of_row _ _ 0 _ _ _ hbx]; rfl
  have bx1 : W.cell? ⟨s, 1, none⟩ = some (.int .i64 xb) := by rw [cell_of_row _ _ 1 _ _ _ hbx]; rfl
  have bx2 : W.cell? ⟨s, 2, none⟩ = some (.int .i64 xc) := by rw [cell_of_row _ _ 2 _ _ _ hbx]; rfl
  have bx3 : W.cell? ⟨s, 3, none⟩ = some (.int .i64 xd) := by rw [cell_of_row _ _ 3 _ _ _ hbx]; rfl
  have bx4 : W.cell? ⟨s, 4, none⟩ = some (.int .i64 xe) := by rw [cell_of_row _ _ 4 _ _ _ hbx]; rfl
  have bx5 : W.cell? ⟨s, 5, none⟩ = some (.int .u32 (xf : Nat)) := by rw [cell_of_row _ _ 5 _ _ _ hbx]; rfl
  have bx0a := (hb1.cell (show _ < _ from hbxs)).trans bx0
  have bx1a := (hb1.cell (show _ < _ from hbxs)).trans bx1
  have bx2a := (hb1.cell (show _ < _ from hbxs)).trans bx2
  have bx3a := (hb1.cell (show _ < _ from hbxs)).trans bx3
  have bx4a := (hb1.cell (show _ < _ from hbxs)).trans bx4
  have bx5a := (hb1.cell (show _ < _ from hbxs)).trans bx5
  have HOWN := Lib.hid hown
  have HD := Lib.hid hd
  have HAP := Lib.hid hap
  have HL := Lib.hid hl
  have HO := Lib.hid ho
  have HH := Lib.hid hh
  have HX := Lib.hid hx
  clear hb1 hown hd hap hl ho hh hx
  go_enter Try.func100, Try.ntmps100
  go_wp2_with (fail)
  refine (HM.out).mono ?_
  rintro e w1 ⟨rfl, rfl⟩
  clear HM
  go_wp2
  go_region_law (refine step_push_m W.drew qPK rfl _ _ rfl 0 (.slice vA vn vc) rfl A HOWN.out.drew_ rfl ((⟨xa, xb, xc, xd, xe, xf⟩ : Pr), m) ⟨HX.out, by omega⟩ _ rfl _ rfl (by show (_ + 1) * 56 ≤ _; omega) (by simp only [maxLen]; omega) (Nat.zero_le _) ?_; intro A' c' w' h1 h2 h3; have hhd : Hid (HeadP w' qb fn caps (.slice vA vn vc) m) := HD.out.block_ ((Turned.of_grown h2).block qb bqb HAP.out); have hcl := hhd.out.list; have hfz := hhd.out.cool 1; have HG1 := Lib.hid h1; have HG2 := Lib.hid (Turned.of_grown h2); have HM := Lib.hid h3; clear h1 h2 h3)
  all_goals (
    obtain ⟨g, hg⟩ : ∃ g, A' = some ⟨g, 0, none⟩ := by
      obtain ⟨g, y, e, _⟩ := HG1.out.at_ (k := A.length) (by simp)
      exact ⟨g, e⟩
    subst hg
    have hgq : qb ≠ g := fun e => by
      rcases HM.out g rfl with h | h
      · exact HAP.out (by rw [h, e])
      · have h : W.heap.size ≤ g := h
        omega
    have hmv : (Value.slice vA vn vc).ownBlock = some g ∨ W.heap.size ≤ g := HM.out g rfl
    have ht1 : Turned (fun k => k = qb ∨ (Value.slice vA vn vc).ownBlock = some k) W w' := by
      have h := HG2.out.mono (G := fun k => k = qb ∨ (Value.slice vA vn vc).ownBlock = some k) (fun k _ e => .inr e)
      exact ⟨h.os, h.tape, h.output, h.size, h.block⟩
    have ht2 := ht1.setCell (p := ⟨qb, 1, none⟩) (fun _ => .inl rfl) (.slice (some ⟨g, 0, none⟩) (A.length + 1) c')
    have hh2 := hhd.out.setList (.slice (some ⟨g, 0, none⟩) (A.length + 1) c')
    have ho2 := HG1.out.of_block (w' := w'.setCell ⟨qb, 1, none⟩ (.slice (some ⟨g, 0, none⟩) (A.length + 1) c')) (fun k hk => heap_setCell_other _ _ _ _ (by have e : g = k := Option.some.inj hk; show k ≠ qb; omega))
    clear hcl hfz hhd HG1 HG2 HM d1 d2 d1a
    clear bx0 bx0a
    clear bx1 bx1a
    clear bx2 bx2a
    clear bx3 bx3a
    clear bx4 bx4a
    clear bx5 bx5a
    generalize w'.setCell ⟨qb, 1, none⟩ (.slice (some ⟨g, 0, none⟩) (A.length + 1) c') = w2 at *
    have c2 := hh2.turns
    have f2 := hh2.cool 2
    have hwm : IntKind.u64.wrap ((m : Int) + 1) = ((m : Int) + 1) := by rw [IntKind.wrap_u64]; omega
    have ht3 := ht2.setCell (p := ⟨qb, 2, none⟩) (fun _ => .inl rfl) (.int .u64 ((m + 1 : Nat) : Int))
    have hh3 := hh2.setTurns (m + 1)
    have ho3 := ho2.of_block (w' := w2.setCell ⟨qb, 2, none⟩ (.int .u64 ((m + 1 : Nat) : Int))) (fun k hk => heap_setCell_other _ _ _ _ (by have e : g = k := Option.some.inj hk; show k ≠ qb; omega))
    obtain ⟨w3, hw3⟩ : ∃ w3, w2.setCell ⟨qb, 2, none⟩ (.int .u64 ((m : Int) + 1)) = w3 := ⟨_, rfl⟩
    change Turned _ _ (w2.setCell ⟨qb, 2, none⟩ (.int .u64 ((m : Int) + 1))) at ht3
    change HeadP (w2.setCell ⟨qb, 2, none⟩ (.int .u64 ((m : Int) + 1))) _ _ _ _ _ at hh3
    change OwnL _ (w2.setCell ⟨qb, 2, none⟩ (.int .u64 ((m : Int) + 1))) _ _ _ at ho3
    rw [hw3] at ht3 hh3 ho3
    have HQ : Hid (HasP w3 qb g (A.length + 1) c' (A ++ [((⟨xa, xb, xc, xd, xe, xf⟩ : Pr), m)]) (m + 1) fn caps) := ⟨hh3, ho3, hgq, by simp⟩
    have HT3 := Lib.hid ht3
    have HUP := Lib.hid (priseP HQ.out HO.out (HL.out.step ht3 (fun k hk h => by
      rcases h with h | h
      · exact .inl h
      · subst h
        rcases hmv with h2 | h2
        · exact .inr h2
        · omega)) (i := A.length) rfl (Qu.Up.push HH.out ((⟨xa, xb, xc, xd, xe, xf⟩ : Pr), m)) (by omega))
    have HMV := Lib.hid hmv
    clear ht1 ht2 ht3 hh2 ho2 hh3 ho3 hmv hgq
    go_wp2_with (fail)
    refine (HUP.out).mono ?_
    rintro e w4 ⟨rfl, A2, hp, hheap, hq4, ht4⟩
    have HT4 := Lib.hid (HT3.out.trans ht4 (fun k hk h => by
      rcases h with h | h
      · exact .inl h
      · subst h
        rcases HMV.out with h2 | h2
        · exact .inr h2
        · omega))
    have HE := Lib.hid (show ∃ g n c A', A'.Perm (A ++ [((⟨xa, xb, xc, xd, xe, xf⟩ : Pr), m)]) ∧ Qu.IsHeap lt A' ∧ HasP w4 qb g n c A' (m + 1) fn caps ∧ Turned (fun k => k = qb ∨ (Value.slice vA vn vc).ownBlock = some k) w w4 ∧ ((Value.slice vA vn vc).ownBlock = some g ∨ w.heap.size ≤ g) from ⟨g, _, _, A2, hp, hheap, hq4, (HT0.out.mono (fun _ _ h => h.elim)).trans HT4.out (fun _ _ h => h), HMV.out.imp id (fun h => Nat.le_trans HT0.out.size h)⟩)
    clear hp hheap hq4 ht4 HT4 HUP HQ HT3 c2 f2
    go_wp2
    go_ret
    exact ⟨rfl, HE.out⟩)
end Go.Proofs.Ytkialijipcbgkaa
