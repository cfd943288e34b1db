/-
  MathC: Plain mathematics of chapter 1 (leb): what reading a number can tell.
  MathE: Plain mathematics of chapter 1 (leb): a count, and a counted row.
  RCount: stookref01.Count answers a count of at most so many.
-/
import Derived.Test.YtlefkaoibokjdaaPf01
import Derived.Test.YtlefkaoibokjdaaPf06
namespace Go.Proofs.Ytlefkaoibokjdaa.Mt
theorem rd_cases (f : Nat) : ∀ (i X : Nat) (s : List Nat), i + f = 9 → (∃ n k, rd i X s = (n, k, 0)) ∨ rd i X s = (0, 0, 4) ∨ rd i X s = (0, 0, 5) := by
  induction f with
  | zero =>
    intro i X s hi
    cases s with
    | nil => right; left; rfl
    | cons c r =>
      rw [rd]
      split
      · right; right; rfl
      · rw [if_pos (by omega)]; left; exact ⟨_, _, rfl⟩
  | succ f ih =>
    intro i X s hi
    cases s with
    | nil => right; left; rfl
    | cons c r =>
      rw [rd]
      split
      · right; right; rfl
      · by_cases h : c < 128
        · rw [if_pos h]; left; exact ⟨_, _, rfl⟩
        · rw [if_neg h]; exact ih (i + 1) _ r (by omega)

theorem get_cases {l : List Nat} (hl : ∀ x ∈ l, x < 256) (a : Int) :
    (∃ e, 2 ≤ e ∧ e ≤ 5 ∧ get l a = (0, 0, e)) ∨
    (∃ (k n : Nat) (r : List Nat), a = (k : Int) ∧ k < l.length ∧ B64 n ∧ l.drop k = put n ++ r ∧ k + (put n).length ≤ l.length ∧ get l a = (n, k + (put n).length, 0)) := by
  by_cases h : a < 0 ∨ (l.length : Int) < a
  · exact .inl ⟨2, by omega, by omega, get_arg h⟩
  · obtain ⟨k, rfl⟩ := Int.eq_ofNat_of_zero_le (show 0 ≤ a by omega)
    have hk : k ≤ l.length := by omega
    rcases rd_cases 9 0 0 (l.drop k) rfl with ⟨n, m, hr⟩ | hr | hr
    · obtain ⟨hb, hm, r, hs⟩ := rd_ok (fun x hx => hl x (List.mem_of_mem_drop hx)) hr
      have hlen := congrArg List.length hs
      have hp := put_len_pos n
      rw [List.length_drop, List.length_append] at hlen
      refine .inr ⟨k, n, r, rfl, by omega, hb, hs, by omega, ?_⟩
      rw [get_ok hk hr, hm]
    · exact .inl ⟨4, by omega, by omega, get_err hk hr (by decide)⟩
    · exact .inl ⟨5, by omega, by omega, get_err hk hr (by decide)⟩
end Go.Proofs.Ytlefkaoibokjdaa.Mt
namespace Go.Proofs.Ytlefkaoibokjdaa.Mt
def count (l : List Nat) (a most : Int) : Nat × Nat × Nat :=
  if (get l a).2.2 ≠ 0 then (0, 0, (get l a).2.2) else if most < 0 ∨ most < ((get l a).1 : Nat) then (0, 0, 3) else get l a
theorem count_err {l : List Nat} {a most : Int} {e : Nat} (h : get l a = (0, 0, e)) (he : e ≠ 0) : count l a most = (0, 0, e) := by unfold count; rw [h, if_pos he]
theorem count_lim {l : List Nat} {a most : Int} {n k : Nat} (h : get l a = (n, k, 0)) (hm : most < 0 ∨ most < (n : Int)) : count l a most = (0, 0, 3) := by unfold count; rw [h, if_neg (by simp), if_pos hm]
theorem count_ok {l : List Nat} {a most : Int} {n k : Nat} (h : get l a = (n, k, 0)) (hm : ¬ (most < 0 ∨ most < (n : Int))) : count l a most = (n, k, 0) := by unfold count; rw [h, if_neg (by simp), if_neg hm]

theorem count_cases {l : List Nat} (hl : ∀ x ∈ l, x < 256) (a most : Int) :
    (∃ e, 2 ≤ e ∧ e ≤ 5 ∧ count l a most = (0, 0, e)) ∨
    (∃ (k n : Nat) (r : List Nat), a = (k : Int) ∧ k < l.length ∧ B64 n ∧ l.drop k = put n ++ r ∧ k + (put n).length ≤ l.length ∧ count l a most = (n, k + (put n).length, 0) ∧ (n : Int) ≤ most) := by
  rcases get_cases hl a with ⟨e, h1, h2, h3⟩ | ⟨k, n, r, h1, h2, h3, h4, h5, h6⟩
  · exact .inl ⟨e, h1, h2, count_err h3 (by omega)⟩
  · by_cases hm : most < 0 ∨ most < (n : Int)
    · exact .inl ⟨3, by omega, by omega, count_lim h6 hm⟩
    · exact .inr ⟨k, n, r, h1, h2, h3, h4, h5, count_ok h6 hm, by omega⟩

def getRow (l : List Nat) (a most : Int) : List Nat × Nat × Nat :=
  if (count l a most).2.2 ≠ 0 then ([], 0, (count l a most).2.2)
  else if l.length - (count l a most).2.1 < (count l a most).1 then ([], 0, 4)
  else ((l.drop (count l a most).2.1).take (count l a most).1, (count l a most).2.1 + (count l a most).1, 0)
theorem getRow_err {l : List Nat} {a most : Int} {e : Nat} (h : count l a most = (0, 0, e)) (he : e ≠ 0) : getRow l a most = ([], 0, e) := by unfold getRow; rw [h, if_pos he]
theorem getRow_short {l : List Nat} {a most : Int} {n k : Nat} (h : count l a most = (n, k, 0)) (hm : l.length - k < n) : getRow l a most = ([], 0, 4) := by unfold getRow; rw [h, if_neg (by simp), if_pos hm]
theorem getRow_ok {l : List Nat} {a most : Int} {n k : Nat} (h : count l a most = (n, k, 0)) (hm : ¬ l.length - k < n) : getRow l a most = ((l.drop k).take n, k + n, 0) := by unfold getRow; rw [h, if_neg (by simp), if_neg hm]
end Go.Proofs.Ytlefkaoibokjdaa.Mt
namespace Go.Proofs.Ytlefkaoibokjdaa
open Go.RowKit
set_option linter.unusedVariables false

/-- A call that answers these three numbers (all of Go's type int), and turns nothing that was there. -/
def IsCnt (r : Nat × Nat × Nat) (w : World) (e : Ending) (w' : World) : Prop :=
  e = .returned (.tuple #[.int .i64 r.1, .int .i64 r.2.1, .int .i64 r.2.2]) ∧ Below w.heap.size w w'
theorem IsCnt.of {w w' : World} {r : Nat × Nat × Nat} {n k e : Nat} (h : r = (n, k, e)) (hb : Below w.heap.size w w') : IsCnt r w (.returned (.tuple #[.int .i64 (n : Nat), .int .i64 (k : Nat), .int .i64 (e : Nat)])) w' := by
  subst h; exact ⟨rfl, hb⟩
theorem Bv.lt_ {w : World} {B : Nat} {v : Value} {l : List Nat} (h : Bv w B v l) : ∀ x ∈ l, x < 256 := by obtain ⟨_, _, _, _, _, _, h, _⟩ := h; exact h

set_option maxHeartbeats 1000000 in
set_option maxRecDepth 100000 in
theorem rcount_any (v : Value) (l : List Nat) (B : Nat) (a most : Int) (w : World) (h : Bv w B v l) (hm : most ≤ 9223372036854775807) :
    Calls Try.prog 45 #[v, .int .i64 a, .int .i64 most] w (IsCnt (Mt.count l a most) w) := by
  have HC := Lib.hid (rget_any v l B a w h)
  have HM := Lib.hid hm
  clear hm
  rcases Mt.get_cases h.lt_ a with ⟨e, he2, he5, hr⟩ | ⟨k, n, r, rfl, hk, hb, hs, hle, hr⟩
  · have HR := Lib.hid hr
    have HX := Lib.hid (Mt.count_err (most := most) hr (by omega))
    have hq : (((e : Nat) : Int) != 0) = true := by rw [bne_iff_ne]; omega
    clear hr
    go_enter Try.func45, Try.ntmps45
    go_wp2_with fail
    ((with_reducible refine HC.out.mono ?_); rintro e' w2 ⟨he, hb2⟩)
    rw [HR.out] at he
    subst he
    clear HC
    go_wp2
    go_ret3
    exact IsCnt.of HX.out hb2
  · have HR := Lib.hid hr
    obtain ⟨m, hm⟩ : ∃ m, (Mt.put n).length = m := ⟨_, rfl⟩
    rw [hm] at hr
    have HR := Lib.hid hr
    clear hs hb hle
    by_cases h1 : most < 0
    · have HX := Lib.hid (Mt.count_lim hr (.inl h1))
      clear hr hm
      go_enter Try.func45, Try.ntmps45
      go_wp2_with fail
      ((with_reducible refine HC.out.mono ?_); rintro e' w2 ⟨he, hb2⟩)
      rw [HR.out] at he
      subst he
      clear HC
      go_wp2
      go_ret3
      exact IsCnt.of HX.out hb2
    · obtain ⟨q, rfl⟩ := Int.eq_ofNat_of_zero_le (show 0 ≤ most by omega)
      have HW : Hid (IntKind.u64.wrap (q : Int) = (q : Int)) := by have := HM.out; unfold Hid; rw [IntKind.wrap_u64]; omega
      by_cases h2 : q < n
      · have HX := Lib.hid (Mt.count_lim (most := (q : Int)) hr (.inr (by omega)))
        clear hr hm h1
        go_enter Try.func45, Try.ntmps45
        go_wp2_with fail
        ((with_reducible refine HC.out.mono ?_); rintro e' w2 ⟨he, hb2⟩)
        rw [HR.out] at he
        subst he
        have HW2 := HW.out
        clear HC
        go_wp2
        go_ret3
        exact IsCnt.of HX.out hb2
      · have HX := Lib.hid (Mt.count_ok (most := (q : Int)) hr (by omega))
        have HN : Hid (wrap64 (n : Int) = (n : Int)) := by have := HM.out; unfold Hid wrap64; omega
        clear hr hm h1
        go_enter Try.func45, Try.ntmps45
        go_wp2_with fail
        ((with_reducible refine HC.out.mono ?_); rintro e' w2 ⟨he, hb2⟩)
        rw [HR.out] at he
        subst he
        have HW2 := HW.out
        clear HC
        go_wp2
        go_ret3
        rw [HN.out]
        exact IsCnt.of HX.out hb2
end Go.Proofs.Ytlefkaoibokjdaa
