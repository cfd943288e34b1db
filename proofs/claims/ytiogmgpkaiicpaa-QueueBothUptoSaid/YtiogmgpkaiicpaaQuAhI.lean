/-
  The program's queue of int: which of two entries is ahead.
-/
import Derived.Test.YtiogmgpkaiicpaaQuHasI
namespace Go.Proofs.Ytiogmgpkaiicpaa
open Go.RowKit
set_option linter.unusedVariables false

set_option maxHeartbeats 2000000 in
theorem paheadI {w : World} {qb fn m : Nat} {caps : Array Value} {v : Value} {lt : Int → Int → Bool} {F : Nat → Prop} (h : HeadI w qb fn caps v m) (ho : Qu.Order lt) (hl : Less intV I64 fn caps lt w F) {x y : Int × Nat} (hx : I64 x.1) (hy : I64 y.1) :
    Calls Try.prog 45 #[.pointer (some ⟨qb, 0, none⟩), .agg #[.int .i64 x.1, .int .u64 (x.2 : Nat)], .agg #[.int .i64 y.1, .int .u64 (y.2 : Nat)]] w (fun e w' => e = .returned (.bool (Qu.ah lt x y)) ∧ Below w.heap.size w w') := by
  obtain ⟨xt, xn⟩ := x
  obtain ⟨yt, yn⟩ := y
  simp only at hx hy ⊢
  have hans := hl.ans
  have hent1 := fun w => hl.ent (#[.int .i64 xt, .int .i64 yt] ++ caps) w
  have hent2 := fun w => hl.ent (#[.int .i64 yt, .int .i64 xt] ++ caps) w
  obtain ⟨s, hs⟩ : ∃ s, w.heap.size = s := ⟨_, rfl⟩
  obtain ⟨W1, hW1⟩ : ∃ W, w.alloc (.cells #[.int .i64 xt, .int .u64 (xn : Nat)] 65) = W := ⟨_, rfl⟩
  have hs1 : W1.heap.size = s + 1 := by rw [← hW1, ← hs]; simp
  obtain ⟨W2, hW2⟩ : ∃ W, W1.alloc (.cells #[.int .i64 yt, .int .u64 (yn : Nat)] 65) = W := ⟨_, rfl⟩
  have hx1 : W1.heap[s]? = some (.cells #[.int .i64 xt, .int .u64 (xn : Nat)] 65 (0, 0)) := by rw [← hW1, ← hs]; exact heap_alloc_new w _
  have hy2 : W2.heap[s + 1]? = some (.cells #[.int .i64 yt, .int .u64 (yn : Nat)] 65 (0, 0)) := by rw [← hW2, ← hs1]; exact heap_alloc_new W1 _
  have b1 : Below s w W1 := by rw [← hW1]; exact (Below.refl s w).alloc (by omega) _
  have b2 : Below s w W2 := by rw [← hW2]; exact b1.alloc (by omega) _
  have b12 : Below (s + 1) W1 W2 := by rw [← hW2]; exact (Below.refl (s + 1) W1).alloc (by omega) _
  have hx2 := (b12.block s (by omega)).trans hx1
  have hd2 : HeadI W2 qb fn caps v m := h.block_ (b2.block qb (by have := h.lt_; omega))
  have T2 : Turned F w W2 := by rw [← hW2, ← hW1]; exact ((Turned.refl _ w).alloc _).alloc _
  have HT2 := Lib.hid T2.drew
  have HB2 := Lib.hid b2
  have HD := Lib.hid hd2
  have HXY := Lib.hid (And.intro hx hy)
  have HLA := Lib.hid hans
  have hqs : qb < s := by have := h.lt_; omega
  have HX := Lib.hid hx2
  have HY := Lib.hid hy2
  have HO := Lib.hid ho
  have xturn : W2.cell? ⟨s, 1, none⟩ = some (.int .u64 (xn : Nat)) := by rw [cell_of_row _ _ 1 _ _ _ hx2]; rfl
  have yturn : W2.cell? ⟨s + 1, 1, none⟩ = some (.int .u64 (yn : Nat)) := by rw [cell_of_row _ _ 1 _ _ _ hy2]; rfl
  have HS2 : Hid (s + 1 < W2.heap.size) := (Array.getElem?_eq_some_iff.1 hy2).1
  clear h hl hx hy hans b1 b2 b12 hx2 hd2 T2 hx1 hy2 ho
  by_cases hlt : xn < yn
  · have g1 : ((xn : Nat) : Int) < ((yn : Nat) : Int) := by omega
    have HG := Lib.hid hlt
    clear hlt
    go_enter Try.func45, Try.ntmps45
    go_wp2
    have qd0 := HD.out.less
    have xc0 : W2.cell? ⟨s, 0, none⟩ = some (.int .i64 xt) := by rw [cell_of_row _ _ 0 _ _ _ HX.out]; rfl
    have yc0 : W2.cell? ⟨s + 1, 0, none⟩ = some (.int .i64 yt) := by rw [cell_of_row _ _ 0 _ _ _ HY.out]; rfl
    go_still_tail 8, (by kernel_rfl)
    change wpList _ _ _ _ _ W2.drew
    have HA := Lib.hid (HLA.out yt xt HXY.out.2 HXY.out.1 W2.drew HT2.out)
    obtain ⟨b, hb⟩ : ∃ b, lt yt xt = b := ⟨_, rfl⟩
    rw [hb] at HA
    have HB := Lib.hid hb
    clear hb qd0
    clear xc0 yc0
    go_wp2_with (fail)
    refine (HA.out).mono ?_
    rintro e w3 ⟨rfl, hb3⟩
    have HB3 : Hid (Below s w w3) := HB2.out.trans (Below.mono ⟨hb3.os, hb3.tape, hb3.output, hb3.size, hb3.block⟩ (by have := HS2.out; show s ≤ W2.drew.heap.size; show s ≤ W2.heap.size; omega))
    have HE : Hid (Qu.ah lt (xt, xn) (yt, yn) = !b) := by rw [← HB.out]; exact Qu.ah_turn HO.out HG.out
    clear hb3 HA
    go_wp2
    go_ret
    exact ⟨by rw [HE.out]; rfl, HB3.out.mono (by omega)⟩
  · have g1 : ¬ ((xn : Nat) : Int) < ((yn : Nat) : Int) := by omega
    have HG := Lib.hid hlt
    clear hlt
    go_enter Try.func45, Try.ntmps45
    go_wp2
    have qd0 := HD.out.less
    have xc0 : W2.cell? ⟨s, 0, none⟩ = some (.int .i64 xt) := by rw [cell_of_row _ _ 0 _ _ _ HX.out]; rfl
    have yc0 : W2.cell? ⟨s + 1, 0, none⟩ = some (.int .i64 yt) := by rw [cell_of_row _ _ 0 _ _ _ HY.out]; rfl
    go_still_tail 8, (by kernel_rfl)
    change wpList _ _ _ _ _ W2.drew
    have HA := Lib.hid (HLA.out xt yt HXY.out.1 HXY.out.2 W2.drew HT2.out)
    obtain ⟨b, hb⟩ : ∃ b, lt xt yt = b := ⟨_, rfl⟩
    rw [hb] at HA
    have HB := Lib.hid hb
    clear hb qd0
    clear xc0 yc0
    go_wp2_with (fail)
    refine (HA.out).mono ?_
    rintro e w3 ⟨rfl, hb3⟩
    have HB3 : Hid (Below s w w3) := HB2.out.trans (Below.mono ⟨hb3.os, hb3.tape, hb3.output, hb3.size, hb3.block⟩ (by have := HS2.out; show s ≤ W2.drew.heap.size; show s ≤ W2.heap.size; omega))
    have HE : Hid (Qu.ah lt (xt, xn) (yt, yn) = b) := by rw [← HB.out]; exact Qu.ah_else HG.out
    clear hb3 HA
    go_wp2
    go_ret
    exact ⟨by rw [HE.out]; rfl, HB3.out.mono (by omega)⟩
end Go.Proofs.Ytiogmgpkaiicpaa
