/-
  stookref01.GetRow answers a counted row, in new memory.
-/
import Derived.Test.YteemhdoegjdaiaaGetRow
namespace Go.Proofs.Yteemhdoegjdaiaa
open Go.RowKit
set_option linter.unusedVariables false

set_option maxHeartbeats 2000000 in
set_option maxRecDepth 100000 in
theorem rgetRow_any (v : Value) (l : List Nat) (B : Nat) (a most : Int) (w : World) (hB : B ≤ w.heap.size) (h : Bv w B v l) (hm : most ≤ 9223372036854775807) (hsz : l.length ≤ 140737488355328) :
    Calls Try.prog 35 #[v, .int .i64 a, .int .i64 most] w (IsRowN (Mt.getRow l a most) w) := by
  have HC := Lib.hid (rcount_any v l B a most w h hm)
  clear hm
  have H0 := Lib.hid h
  rcases Mt.count_cases h.lt_ a most with ⟨e, he2, he5, hr⟩ | ⟨k, n, r, rfl, hk, hb, hs, hle, hr, hmm⟩
  · have HR := Lib.hid hr
    have HX := Lib.hid (Mt.getRow_err hr (by omega))
    have hq : (((e : Nat) : Int) != 0) = true := by rw [bne_iff_ne]; omega
    clear hr
    go_enter Try.func35, Try.ntmps35
    go_wp2_with fail
    ((with_reducible refine HC.out.mono ?_); rintro e' w2 ⟨he, hb2⟩)
    rw [HR.out] at he
    subst he
    clear HC
    go_wp2
    go_ret3
    exact IsRowN.none_ HX.out hb2
  · obtain ⟨x, hx⟩ : ∃ x, k + (Mt.put n).length = x := ⟨_, rfl⟩
    rw [hx] at hr hle
    have HR := Lib.hid hr
    obtain ⟨A, c, rfl, hc1, hc2, hc3, h4⟩ := id h
    obtain ⟨b, off, rfl, _⟩ := h4.2 (by omega)
    unfold maxLen at hc2
    clear h4 hc3 hs hb hx h hmm
    by_cases hsh : l.length - x < n
    · have HX := Lib.hid (Mt.getRow_short hr hsh)
      have hsh' : ((l.length : Nat) : Int) - (x : Int) < (n : Int) := by omega
      clear hr
      go_enter Try.func35, Try.ntmps35
      go_wp2_with fail
      ((with_reducible refine HC.out.mono ?_); rintro e' w2 ⟨he, hb2⟩)
      rw [HR.out] at he
      subst he
      clear HC
      go_wp2
      go_ret3
      exact IsRowN.none_ HX.out hb2
    · have hX := Mt.getRow_ok hr hsh
      have hn : x + n ≤ l.length := by omega
      have hsh' : (n : Int) ≤ ((l.length : Nat) : Int) - (x : Int) := by omega
      have hlen : ((l.drop x).take n).length = n := by rw [List.length_take, List.length_drop]; omega
      obtain ⟨y, hy⟩ : ∃ y, (l.drop x).take n = y := ⟨_, rfl⟩
      rw [hy] at hX hlen
      have HX := Lib.hid hX
      have HL := Lib.hid hlen
      have HY := Lib.hid hy
      have hyl : y.length ≤ 140737488355328 := by omega
      clear hr hsh hX hlen hy
      by_cases hcap : c = x
      · subst hcap
        have hn0 : n = 0 := by omega
        subst hn0
        obtain rfl : y = [] := List.eq_nil_of_length_eq_zero HL.out
        go_enter Try.func35, Try.ntmps35
        go_wp2_with fail
        ((with_reducible refine HC.out.mono ?_); rintro e' w2 ⟨he, hb2⟩)
        rw [HR.out] at he
        subst he
        have HB := Lib.hid hb2
        have hz := hb2.size
        have HP := Lib.hid (Bv.empty_ w2 w2.heap.size ⟨b, off, none⟩)
        have hnil := Lib.hid (OwnB.nil_ w2 w.heap.size)
        clear HC hb2
        go_wp2_with (at_builtin; go_must (refine wpList_append_bytes _ rfl _ _ rfl rfl w.heap.size _ rfl [] hnil.out _ rfl _ [] HP.out (by simp) hz ?_; intro A3 c3 w3 hA))
        go_ret3
        have hO := hA.own
        have hB2 := HB.out.grown hA.grown hz (by intro k hk; cases hk)
        exact IsRowN.of HX.out hO hB2
      · have hp := H0.out.piece_ hn hcap
        rw [HY.out] at hp
        have HP := Lib.hid hp
        clear hp
        go_enter Try.func35, Try.ntmps35
        go_wp2_with fail
        ((with_reducible refine HC.out.mono ?_); rintro e' w2 ⟨he, hb2⟩)
        rw [HR.out] at he
        subst he
        have HB := Lib.hid hb2
        have hz := hb2.size
        have hq := HP.out.below_ hb2 hB
        rw [show n = x + n - x by omega] at hq
        have HP2 := Lib.hid hq
        clear hq
        have hnil := Lib.hid (OwnB.nil_ w2 w.heap.size)
        clear HC hb2
        go_wp2_with (at_builtin; go_must (refine wpList_append_bytes _ rfl _ _ rfl rfl w.heap.size _ rfl [] hnil.out _ rfl _ y HP2.out (by simp; omega) hz ?_; intro A3 c3 w3 hA))
        go_ret3
        have hO := hA.own
        have hB2 := HB.out.grown hA.grown hz (by intro k hk; cases hk)
        exact IsRowN.of HX.out hO hB2
end Go.Proofs.Yteemhdoegjdaiaa
