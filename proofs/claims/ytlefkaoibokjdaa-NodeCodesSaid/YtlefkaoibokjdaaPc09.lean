/-
  RCount: stookref01.Count answers a count of at most so many.
  Count: leb.getCount answers a count of at most so many.
  Cut: A cut of a slice of bytes.
-/
import Derived.Test.YtlefkaoibokjdaaPc08
import Derived.Test.YtlefkaoibokjdaaPc01
namespace Go.Proofs.Ytlefkaoibokjdaa
open Go.RowKit
set_option linter.unusedVariables false

/-- A call that answers these three numbers (all of Go's type int), and turns nothing that was there. -/
def IsCnt (r : Nat × Nat × Nat) (w : World) (e : Ending) (w' : World) : Prop :=
  e = .returned (.tuple #[.int .i64 r.1, .int .i64 r.2.1, .int .i64 r.2.2]) ∧ Below w.heap.size w w'
theorem IsCnt.of {w w' : World} {r : Nat × Nat × Nat} {n k e : Nat} (h : r = (n, k, e)) (hb : Below w.heap.size w w') : IsCnt r w (.returned (.tuple #[.int .i64 (n : Nat), .int .i64 (k : Nat), .int .i64 (e : Nat)])) w' := by
  subst h; exact ⟨rfl, hb⟩
theorem Bv.lt_ {w : World} {B : Nat} {v : Value} {l : List Nat} (h : Bv w B v l) : ∀ x ∈ l, x < 256 := by obtain ⟨_, _, _, _, _, _, h, _⟩ := h; exact h

set_option maxHeartbeats 1000000 in
set_option maxRecDepth 100000 in
theorem rcount_any (v : Value) (l : List Nat) (B : Nat) (a most : Int) (w : World) (h : Bv w B v l) (hm : most ≤ 9223372036854775807) :
    Calls Try.prog 45 #[v, .int .i64 a, .int .i64 most] w (IsCnt (Mt.count l a most) w) := by
  have HC := Lib.hid (rget_any v l B a w h)
  have HM := Lib.hid hm
  clear hm
  rcases Mt.get_cases h.lt_ a with ⟨e, he2, he5, hr⟩ | ⟨k, n, r, rfl, hk, hb, hs, hle, hr⟩
  · have HR := Lib.hid hr
    have HX := Lib.hid (Mt.count_err (most := most) hr (by omega))
    have hq : (((e : Nat) : Int) != 0) = true := by rw [bne_iff_ne]; omega
    clear hr
    go_enter Try.func45, Try.ntmps45
    go_wp2_with fail
    ((with_reducible refine HC.out.mono ?_); rintro e' w2 ⟨he, hb2⟩)
    rw [HR.out] at he
    subst he
    clear HC
    go_wp2
    go_ret3
    exact IsCnt.of HX.out hb2
  · have HR := Lib.hid hr
    obtain ⟨m, hm⟩ : ∃ m, (Mt.put n).length = m := ⟨_, rfl⟩
    rw [hm] at hr
    have HR := Lib.hid hr
    clear hs hb hle
    by_cases h1 : most < 0
    · have HX := Lib.hid (Mt.count_lim hr (.inl h1))
      clear hr hm
      go_enter Try.func45, Try.ntmps45
      go_wp2_with fail
      ((with_reducible refine HC.out.mono ?_); rintro e' w2 ⟨he, hb2⟩)
      rw [HR.out] at he
      subst he
      clear HC
      go_wp2
      go_ret3
      exact IsCnt.of HX.out hb2
    · obtain ⟨q, rfl⟩ := Int.eq_ofNat_of_zero_le (show 0 ≤ most by omega)
      have HW : Hid (IntKind.u64.wrap (q : Int) = (q : Int)) := by have := HM.out; unfold Hid; rw [IntKind.wrap_u64]; omega
      by_cases h2 : q < n
      · have HX := Lib.hid (Mt.count_lim (most := (q : Int)) hr (.inr (by omega)))
        clear hr hm h1
        go_enter Try.func45, Try.ntmps45
        go_wp2_with fail
        ((with_reducible refine HC.out.mono ?_); rintro e' w2 ⟨he, hb2⟩)
        rw [HR.out] at he
        subst he
        have HW2 := HW.out
        clear HC
        go_wp2
        go_ret3
        exact IsCnt.of HX.out hb2
      · have HX := Lib.hid (Mt.count_ok (most := (q : Int)) hr (by omega))
        have HN : Hid (wrap64 (n : Int) = (n : Int)) := by have := HM.out; unfold Hid wrap64; omega
        clear hr hm h1
        go_enter Try.func45, Try.ntmps45
        go_wp2_with fail
        ((with_reducible refine HC.out.mono ?_); rintro e' w2 ⟨he, hb2⟩)
        rw [HR.out] at he
        subst he
        have HW2 := HW.out
        clear HC
        go_wp2
        go_ret3
        rw [HN.out]
        exact IsCnt.of HX.out hb2
end Go.Proofs.Ytlefkaoibokjdaa
namespace Go.Proofs.Ytlefkaoibokjdaa
open Go.RowKit
set_option linter.unusedVariables false

set_option maxHeartbeats 1000000 in
set_option maxRecDepth 100000 in
theorem count_any (v : Value) (l : List Nat) (B : Nat) (a most : Int) (w : World) (h : Bv w B v l) (hm : most ≤ 9223372036854775807) :
    Calls Try.prog 70 #[v, .int .i64 a, .int .i64 most] w (IsCnt (Mt.count l a most) w) := by
  have HC := Lib.hid (get_any v l B a w h)
  have HM := Lib.hid hm
  clear hm
  rcases Mt.get_cases h.lt_ a with ⟨e, he2, he5, hr⟩ | ⟨k, n, r, rfl, hk, hb, hs, hle, hr⟩
  · have HR := Lib.hid hr
    have HX := Lib.hid (Mt.count_err (most := most) hr (by omega))
    have hq : (((e : Nat) : Int) != 0) = true := by rw [bne_iff_ne]; omega
    clear hr
    go_enter Try.func70, Try.ntmps70
    go_wp2_with fail
    ((with_reducible refine HC.out.mono ?_); rintro e' w2 ⟨he, hb2⟩)
    rw [HR.out] at he
    subst he
    clear HC
    go_wp2
    go_ret3
    exact IsCnt.of HX.out hb2
  · have HR := Lib.hid hr
    obtain ⟨m, hm⟩ : ∃ m, (Mt.put n).length = m := ⟨_, rfl⟩
    rw [hm] at hr
    have HR := Lib.hid hr
    clear hs hb hle
    by_cases h1 : most < 0
    · have HX := Lib.hid (Mt.count_lim hr (.inl h1))
      clear hr hm
      go_enter Try.func70, Try.ntmps70
      go_wp2_with fail
      ((with_reducible refine HC.out.mono ?_); rintro e' w2 ⟨he, hb2⟩)
      rw [HR.out] at he
      subst he
      clear HC
      go_wp2
      go_ret3
      exact IsCnt.of HX.out hb2
    · obtain ⟨q, rfl⟩ := Int.eq_ofNat_of_zero_le (show 0 ≤ most by omega)
      have HW : Hid (IntKind.u64.wrap (q : Int) = (q : Int)) := by have := HM.out; unfold Hid; rw [IntKind.wrap_u64]; omega
      by_cases h2 : q < n
      · have HX := Lib.hid (Mt.count_lim (most := (q : Int)) hr (.inr (by omega)))
        clear hr hm h1
        go_enter Try.func70, Try.ntmps70
        go_wp2_with fail
        ((with_reducible refine HC.out.mono ?_); rintro e' w2 ⟨he, hb2⟩)
        rw [HR.out] at he
        subst he
        have HW2 := HW.out
        clear HC
        go_wp2
        go_ret3
        exact IsCnt.of HX.out hb2
      · have HX := Lib.hid (Mt.count_ok (most := (q : Int)) hr (by omega))
        have HN : Hid (wrap64 (n : Int) = (n : Int)) := by have := HM.out; unfold Hid wrap64; omega
        clear hr hm h1
        go_enter Try.func70, Try.ntmps70
        go_wp2_with fail
        ((with_reducible refine HC.out.mono ?_); rintro e' w2 ⟨he, hb2⟩)
        rw [HR.out] at he
        subst he
        have HW2 := HW.out
        clear HC
        go_wp2
        go_ret3
        rw [HN.out]
        exact IsCnt.of HX.out hb2
end Go.Proofs.Ytlefkaoibokjdaa
namespace Go.Proofs.Ytlefkaoibokjdaa
theorem Bv.cut_ {w : World} {B b off n c : Nat} {l : List Nat} (h : Bv w B (.slice (some ⟨b, off, none⟩) n c) l) {k m : Nat} (hk : k + m ≤ l.length) :
    Bv w B (.slice (some ⟨b, off + k, none⟩) m (c - k)) ((l.drop k).take m) := by
  obtain ⟨A', c', e, h1, h2, h3, h4, h5⟩ := h
  injection e with e1 e2 e3
  subst e1 e3
  have hlen : ((l.drop k).take m).length = m := by rw [List.length_take, List.length_drop]; omega
  refine ⟨some ⟨b, off + k, none⟩, c - k, by rw [hlen], by omega, by omega, by simp, fun x hx => h4 x (List.mem_of_mem_drop (List.mem_of_mem_take hx)), fun hp => ?_⟩
  obtain ⟨b', off', e, hb, hc⟩ := h5 (by omega)
  injection e with e
  injection e with e4 e5
  subst e4 e5
  refine ⟨b, off + k, rfl, hb, fun j u hj => ?_⟩
  have h6 := hc (k + j) u (by
    rw [List.getElem?_take] at hj
    split at hj
    · rw [List.getElem?_drop] at hj; exact hj
    · cases hj)
  rw [← h6]
  congr 2
  omega
end Go.Proofs.Ytlefkaoibokjdaa
