/-
  stookref08.Check, May, bytes, Expand, token, Byte; stookref00.Many.
-/
import Derived.Test.YtgkmlcghkkpgpaaRVoC
import Derived.Test.YtgkmlcghkkpgpaaKByte
namespace Go.Proofs.Ytgkmlcghkkpgpaa
open Go.RowKit
set_option linter.unusedVariables false

/-- A vocabulary's box: what stands in it, and what it leaves. -/
theorem boxed {w W : World} {u : Value} {t : TypeId} (hW : w.alloc (.cells #[u] t) = W) : W.cell? ⟨w.heap.size, 0, none⟩ = some u ∧ W.heap.size = w.heap.size + 1 ∧ Below w.heap.size w W := by
  subst hW
  refine ⟨?_, by simp, (Below.refl _ _).alloc (Nat.le_refl _) _⟩
  rw [cell_of_row _ w.heap.size 0 _ _ _ (heap_alloc_new w _)]; rfl

/-- A box below B, and what stands in it. -/
def BoxAt (w : World) (B a : Nat) (u : Value) : Prop := a < B ∧ w.cell? ⟨a, 0, none⟩ = some u
theorem BoxAt.below_ {w w' : World} {B a : Nat} {u : Value} (h : BoxAt w B a u) {B' : Nat} (hb : Below B' w w') (hB : B ≤ B') : BoxAt w' B a u :=
  ⟨h.1, (hb.cell (p := ⟨a, 0, none⟩) (Nat.lt_of_lt_of_le h.1 hB)).trans h.2⟩
theorem BoxAt.drew_ {w : World} {B a : Nat} {u : Value} (h : BoxAt w B a u) : BoxAt w.drew B a u := h
theorem BoxAt.mono_ {w : World} {B a : Nat} {u : Value} (h : BoxAt w B a u) {B' : Nat} (hB : B ≤ B') : BoxAt w B' a u := ⟨Nat.lt_of_lt_of_le h.1 hB, h.2⟩
/-- A box below B in which a piece stands. -/
def PBoxAt (w : World) (B a : Nat) (p : Vo.Pc) : Prop := a < B ∧ ∀ (i : Nat) (u : Value), #[.bool p.join, .int .u8 (p.byte : Nat), .int .i64 p.left, .int .i64 p.right, .int .u32 (p.rank : Nat)][i]? = some u → w.cell? ⟨a, i, none⟩ = some u
theorem PBoxAt.below_ {w w' : World} {B a : Nat} {p : Vo.Pc} (h : PBoxAt w B a p) {B' : Nat} (hb : Below B' w w') (hB : B ≤ B') : PBoxAt w' B a p :=
  ⟨h.1, fun i u hi => (hb.cell (p := ⟨a, i, none⟩) (Nat.lt_of_lt_of_le h.1 hB)).trans (h.2 i u hi)⟩
theorem PBoxAt.drew_ {w : World} {B a : Nat} {p : Vo.Pc} (h : PBoxAt w B a p) : PBoxAt w.drew B a p := h
theorem PBoxAt.mono_ {w : World} {B a : Nat} {p : Vo.Pc} (h : PBoxAt w B a p) {B' : Nat} (hB : B ≤ B') : PBoxAt w B' a p := ⟨Nat.lt_of_lt_of_le h.1 hB, h.2⟩
theorem pboxed {w W : World} {p : Vo.Pc} {t : TypeId} (hW : w.alloc (.cells #[.bool p.join, .int .u8 (p.byte : Nat), .int .i64 p.left, .int .i64 p.right, .int .u32 (p.rank : Nat)] t) = W) : PBoxAt W W.heap.size w.heap.size p ∧ Below w.heap.size w W := by
  subst hW
  refine ⟨⟨by simp, fun i u hi => ?_⟩, (Below.refl _ _).alloc (Nat.le_refl _) _⟩
  rw [cell_of_row _ w.heap.size i _ _ _ (heap_alloc_new w _)]
  exact hi
/-- A call that answers an error and a place, or a bool, and turns nothing that was there. -/
def IsCheck (r : Nat × Nat) (w : World) (e : Ending) (w' : World) : Prop := e = .returned (.tuple #[.int .i64 (r.1 : Nat), .int .i64 (r.2 : Nat)]) ∧ Below w.heap.size w w'

set_option maxHeartbeats 1000000 in
theorem rcheck_any (P : List Vo.Pc) (v : Value) (B : Nat) (w : World) (hv : Lv pK w B v P) (hB : B ≤ w.heap.size) :
    Calls Try.prog 14 #[.agg #[v]] w (IsCheck (Vo.check P) w) := by
  obtain ⟨W, hW⟩ : ∃ W, w.alloc (.cells #[v] 24) = W := ⟨_, rfl⟩
  obtain ⟨d0, hsz, hb⟩ := boxed hW
  have HC := Lib.hid (rsizes_any P v B W (hv.below_ hb hB) (Nat.le_trans hB hb.size))
  have HB := Lib.hid hb
  obtain ⟨A, c, rfl, _, _, _, _⟩ := hv
  clear hsz hb
  go_enter Try.func14, Try.ntmps14
  go_wp2_with (fail)
  refine (HC.out).mono ?_
  rintro e w1 ⟨u, rfl, hb⟩
  have HB2 := Lib.hid (HB.out.trans (hb.mono HB.out.size))
  clear hb HC
  go_wp2
  go_ret2
  exact ⟨rfl, HB2.out⟩

set_option maxHeartbeats 1000000 in
theorem rmay_voc (P : List Vo.Pc) (v : Value) (B : Nat) (w : World) (hv : Lv pK w B v P) (hB : B ≤ w.heap.size) :
    Calls Try.prog 26 #[.agg #[v]] w (IsBool (decide (Vo.May P)) w) := by
  obtain ⟨W, hW⟩ : ∃ W, w.alloc (.cells #[v] 24) = W := ⟨_, rfl⟩
  obtain ⟨d0, hsz, hb⟩ := boxed hW
  have HC := Lib.hid (rsizes_any P v B W (hv.below_ hb hB) (Nat.le_trans hB hb.size))
  have HB := Lib.hid hb
  obtain ⟨A, c, rfl, _, _, _, _⟩ := hv
  obtain ⟨E, hE⟩ : ∃ E, (Vo.check P).1 = E := ⟨_, rfl⟩
  have HX : Hid (decide (Vo.May P) = ((E : Int) == 0)) := by
    unfold Hid
    rw [Bool.eq_iff_iff, decide_eq_true_eq, beq_iff_eq]
    unfold Vo.May
    rw [hE]
    omega
  unfold IsSizes at HC
  rw [hE] at HC
  clear hsz hb hE
  go_enter Try.func26, Try.ntmps26
  go_wp2_with (fail)
  refine (HC.out).mono ?_
  rintro e w1 ⟨u, rfl, hb⟩
  have HB2 := Lib.hid (HB.out.trans (hb.mono HB.out.size))
  clear hb HC
  go_wp2
  go_ret
  exact ⟨by rw [HX.out]; rfl, HB2.out⟩

set_option maxHeartbeats 1000000 in
theorem many_any (P : List Vo.Pc) (v : Value) (B : Nat) (w : World) (hv : Lv pK w B v P) :
    Calls Try.prog 11 #[.agg #[v]] w (IsBool (decide (700 < P.length)) w) := by
  obtain ⟨A, c, rfl, h1, h2, _, _⟩ := hv
  have hl : P.length ≤ 9223372036854775807 := by simp only [maxLen] at h2; omega
  clear h1 h2
  by_cases h : 700 < P.length
  · have hd : decide (700 < (P.length : Int)) = true := by simp; omega
    have HX : Hid (decide (700 < P.length) = true) := by unfold Hid; simpa using h
    go_enter Try.func11, Try.ntmps11
    go_wp2
    go_ret
    exact ⟨by rw [HX.out]; rfl, (Below.refl _ _).alloc (Nat.le_refl _) _⟩
  · have hd : decide (700 < (P.length : Int)) = false := by simp; omega
    have HX : Hid (decide (700 < P.length) = false) := by unfold Hid; simpa using h
    go_enter Try.func11, Try.ntmps11
    go_wp2
    go_ret
    exact ⟨by rw [HX.out]; rfl, (Below.refl _ _).alloc (Nat.le_refl _) _⟩
end Go.Proofs.Ytgkmlcghkkpgpaa
