/-
  leb.GetRow and stookref01.GetRow answer a counted row, in new memory.
-/
import Derived.Test.YteemhdoegjdaiaaCount
import Derived.Test.YteemhdoegjdaiaaPutRow
import Derived.Test.YteemhdoegjdaiaaCut
namespace Go.Proofs.Yteemhdoegjdaiaa
open Go.RowKit
set_option linter.unusedVariables false

/-- A call that answers these bytes in new memory without spare room, a place and an error, and turns nothing that was there. -/
def IsRowF (r : List Nat × Nat × Nat) (w : World) (e : Ending) (w' : World) : Prop :=
  ∃ A, e = .returned (.tuple #[.slice A r.1.length r.1.length, .int .i64 r.2.1, .int .i64 r.2.2]) ∧ OwnB w' w.heap.size (.slice A r.1.length r.1.length) r.1 ∧ Below w.heap.size w w'
/-- The same, with spare room or without. -/
def IsRowN (r : List Nat × Nat × Nat) (w : World) (e : Ending) (w' : World) : Prop :=
  ∃ A c, e = .returned (.tuple #[.slice A r.1.length c, .int .i64 r.2.1, .int .i64 r.2.2]) ∧ OwnB w' w.heap.size (.slice A r.1.length c) r.1 ∧ Below w.heap.size w w'
theorem IsRowF.none_ {w w' : World} {r : List Nat × Nat × Nat} {e : Nat} (h : r = ([], 0, e)) (hb : Below w.heap.size w w') : IsRowF r w (.returned (.tuple #[.slice none 0 0, .int .i64 0, .int .i64 (e : Nat)])) w' := by
  subst h; exact ⟨none, rfl, OwnB.nil_ _ _, hb⟩
theorem IsRowN.none_ {w w' : World} {r : List Nat × Nat × Nat} {e : Nat} (h : r = ([], 0, e)) (hb : Below w.heap.size w w') : IsRowN r w (.returned (.tuple #[.slice none 0 0, .int .i64 0, .int .i64 (e : Nat)])) w' := by
  subst h; exact ⟨none, 0, rfl, OwnB.nil_ _ _, hb⟩

theorem IsRowF.of {w w' : World} {r : List Nat × Nat × Nat} {y : List Nat} {k e : Nat} {A : Option Addr} (h : r = (y, k, e)) (ho : OwnB w' w.heap.size (.slice A y.length y.length) y) (hb : Below w.heap.size w w') :
    IsRowF r w (.returned (.tuple #[.slice A y.length y.length, .int .i64 (k : Nat), .int .i64 (e : Nat)])) w' := by
  subst h; exact ⟨A, rfl, ho, hb⟩
theorem IsRowN.of {w w' : World} {r : List Nat × Nat × Nat} {y : List Nat} {k e c : Nat} {A : Option Addr} (h : r = (y, k, e)) (ho : OwnB w' w.heap.size (.slice A y.length c) y) (hb : Below w.heap.size w w') :
    IsRowN r w (.returned (.tuple #[.slice A y.length c, .int .i64 (k : Nat), .int .i64 (e : Nat)])) w' := by
  subst h; exact ⟨A, c, rfl, ho, hb⟩

/-- What the two have in common: the cut of the bytes that the row is. -/
theorem Bv.piece_ {w : World} {B b off N c : Nat} {l : List Nat} (h : Bv w B (.slice (some ⟨b, off, none⟩) N c) l) {x n : Nat} (hx : x + n ≤ l.length) (hc : c ≠ x) :
    Bv w B (.slice (some ⟨b, off + x, none⟩) n (c - x)) ((l.drop x).take n) := h.cut_ hx
theorem Bv.empty_ (w : World) (B : Nat) (a : Addr) : Bv w B (.slice (some a) 0 0) [] := ⟨some a, 0, rfl, by simp, by simp [maxLen], by simp, Bts.nil_ _ _ _⟩

set_option maxHeartbeats 2000000 in
set_option maxRecDepth 100000 in
theorem getRow_any (v : Value) (l : List Nat) (B : Nat) (a most : Int) (w : World) (hB : B ≤ w.heap.size) (h : Bv w B v l) (hm : most ≤ 9223372036854775807) (hsz : l.length ≤ 140737488355328) :
    Calls Try.prog 34 #[v, .int .i64 a, .int .i64 most] w (IsRowF (Mt.getRow l a most) w) := by
  have HC := Lib.hid (count_any v l B a most w h hm)
  clear hm
  have H0 := Lib.hid h
  rcases Mt.count_cases h.lt_ a most with ⟨e, he2, he5, hr⟩ | ⟨k, n, r, rfl, hk, hb, hs, hle, hr, hmm⟩
  · have HR := Lib.hid hr
    have HX := Lib.hid (Mt.getRow_err hr (by omega))
    have hq : (((e : Nat) : Int) != 0) = true := by rw [bne_iff_ne]; omega
    clear hr
    go_enter Try.func34, Try.ntmps34
    go_wp2_with fail
    ((with_reducible refine HC.out.mono ?_); rintro e' w2 ⟨he, hb2⟩)
    rw [HR.out] at he
    subst he
    clear HC
    go_wp2
    go_ret3
    exact IsRowF.none_ HX.out hb2
  · obtain ⟨x, hx⟩ : ∃ x, k + (Mt.put n).length = x := ⟨_, rfl⟩
    rw [hx] at hr hle
    have HR := Lib.hid hr
    obtain ⟨A, c, rfl, hc1, hc2, hc3, h4⟩ := id h
    obtain ⟨b, off, rfl, _⟩ := h4.2 (by omega)
    unfold maxLen at hc2
    clear h4 hc3 hs hb hx h hmm
    by_cases hsh : l.length - x < n
    · have HX := Lib.hid (Mt.getRow_short hr hsh)
      have hsh' : ((l.length : Nat) : Int) - (x : Int) < (n : Int) := by omega
      clear hr
      go_enter Try.func34, Try.ntmps34
      go_wp2_with fail
      ((with_reducible refine HC.out.mono ?_); rintro e' w2 ⟨he, hb2⟩)
      rw [HR.out] at he
      subst he
      clear HC
      go_wp2
      go_ret3
      exact IsRowF.none_ HX.out hb2
    · have hX := Mt.getRow_ok hr hsh
      have hn : x + n ≤ l.length := by omega
      have hsh' : (n : Int) ≤ ((l.length : Nat) : Int) - (x : Int) := by omega
      have hlen : ((l.drop x).take n).length = n := by rw [List.length_take, List.length_drop]; omega
      obtain ⟨y, hy⟩ : ∃ y, (l.drop x).take n = y := ⟨_, rfl⟩
      rw [hy] at hX hlen
      have HX := Lib.hid hX
      have HL := Lib.hid hlen
      have HY := Lib.hid hy
      clear hr hsh hX hlen hy
      by_cases hcap : c = x
      · subst hcap
        have hn0 : n = 0 := by omega
        subst hn0
        obtain rfl : y = [] := List.eq_nil_of_length_eq_zero HL.out
        go_enter Try.func34, Try.ntmps34
        go_wp2_with fail
        ((with_reducible refine HC.out.mono ?_); rintro e' w2 ⟨he, hb2⟩)
        rw [HR.out] at he
        subst he
        have HB := Lib.hid hb2
        have HRW := Lib.hid (Rws.one_ (Bv.empty_ w2 w2.heap.size ⟨b, off, none⟩) (Nat.le_refl _))
        have HJ := Lib.hid (join_any _ _ _ _ (by simp) HRW.out (by simp [cat]))
        clear HC hb2
        go_wp2_with fail
        ((with_reducible refine HJ.out.mono ?_); rintro e w3 ⟨g, rfl, ho3, hb3⟩)
        rw [show cat [([] : List Nat)] = ([] : List Nat) by simp [cat]] at ho3 ⊢
        have hO := ho3.mono_ (base' := w.heap.size) (by have := HB.out.size; simp; omega)
        have hB2 := HB.out.trans ((Below.alloc (Below.refl _ _) HB.out.size _).trans (hb3.mono (by have := HB.out.size; simp; omega)))
        clear ho3 hb3 HJ HRW HB
        go_wp2
        go_ret3
        exact IsRowF.of HX.out hO hB2
      · have hp := H0.out.piece_ hn hcap
        rw [HY.out] at hp
        have HP := Lib.hid hp
        have hyl : y.length ≤ 140737488355328 := by have := HL.out; omega
        clear hp
        go_enter Try.func34, Try.ntmps34
        go_wp2_with fail
        ((with_reducible refine HC.out.mono ?_); rintro e' w2 ⟨he, hb2⟩)
        rw [HR.out] at he
        subst he
        have HB := Lib.hid hb2
        have HRW := Lib.hid (Rws.one_ (HP.out.below_ hb2 hB) (by have := hb2.size; omega))
        have HJ := Lib.hid (join_any _ _ _ _ (by simp) HRW.out (by simpa [cat] using hyl))
        clear HC hb2
        go_wp2_with fail
        ((with_reducible refine HJ.out.mono ?_); rintro e w3 ⟨g, rfl, ho3, hb3⟩)
        rw [show cat [y] = y by simp [cat]] at ho3 ⊢
        have hO := ho3.mono_ (base' := w.heap.size) (by have := HB.out.size; simp; omega)
        have hB2 := HB.out.trans ((Below.alloc (Below.refl _ _) HB.out.size _).trans (hb3.mono (by have := HB.out.size; simp; omega)))
        clear ho3 hb3 HJ HRW HB
        go_wp2
        go_ret3
        exact IsRowF.of HX.out hO hB2
end Go.Proofs.Yteemhdoegjdaiaa
