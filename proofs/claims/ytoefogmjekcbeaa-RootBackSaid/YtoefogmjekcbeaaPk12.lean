/-
  MathD: Plain mathematics of chapter 1 (leb): the document's own way of reading a number.
  Octs: stookref00.Same answers whether two slices hold the same numbers.
  OwnLit: A literal slice is the call's own.
-/
import Derived.Test.YtoefogmjekcbeaaPk01
import Derived.Test.YtoefogmjekcbeaaPk02
import Derived.Deep.QuietTactic
import Derived.BigQuiet
import Derived.WalkKit
import Derived.Lib.Hide
namespace Go.Proofs.Ytoefogmjekcbeaa.Mt
theorem val_snoc (s : List Nat) (c : Nat) : val (s ++ [c]) = val s + c % 128 * 128 ^ s.length := by
  induction s with
  | nil => simp [val]
  | cons x r ih =>
    simp only [List.cons_append, val, ih, List.length_cons, Nat.pow_succ]
    rw [Nat.mul_add, ← Nat.mul_assoc, Nat.mul_comm 128 (c % 128), Nat.mul_assoc (c % 128), Nat.mul_comm 128 (128 ^ _)]
    omega
theorem val_lt (s : List Nat) : val s < 128 ^ s.length := by
  induction s with
  | nil => simp [val]
  | cons x r ih => simp only [val, List.length_cons, Nat.pow_succ]; omega
theorem val_drop (s : List Nat) : ∀ j, val (s.drop j) ≤ val s := by
  induction s with
  | nil => intro j; simp [val]
  | cons x r ih =>
    intro j
    cases j with
    | zero => simp
    | succ j => have := ih j; simp only [List.drop_succ_cons, val]; omega
theorem take_snoc {s : List Nat} {k c : Nat} {r : List Nat} (h : s.drop k = c :: r) : s.take (k + 1) = s.take k ++ [c] := by
  rw [List.take_add, h]; rfl
theorem val_take {s : List Nat} {k c : Nat} {r : List Nat} (h : s.drop k = c :: r) : val (s.take (k + 1)) = val (s.take k) + c % 128 * 128 ^ k := by
  have hk : k < s.length := by
    rcases Nat.lt_or_ge k s.length with h1 | h1
    · exact h1
    · rw [List.drop_of_length_le h1] at h; cases h
  rw [take_snoc h, val_snoc, List.length_take, Nat.min_eq_left (by omega)]
theorem val_small {s : List Nat} {k c : Nat} {r : List Nat} (h : s.drop k = c :: r) (hk : k ≤ 9) (hc : c < 128) (h9 : 8 < k → c < 2) : val (s.take (k + 1)) < 18446744073709551616 := by
  have h1 := val_lt (s.take k)
  have h2 : (s.take k).length ≤ k := List.length_take_le _ _
  have h3 : val (s.take k) < 128 ^ k := Nat.lt_of_lt_of_le h1 (Nat.pow_le_pow_right (by decide) h2)
  rw [val_take h, Nat.mod_eq_of_lt hc]
  by_cases h8 : 8 < k
  · obtain rfl : k = 9 := by omega
    have := h9 h8
    omega
  · have h4 : c * 128 ^ k ≤ 127 * 128 ^ k := Nat.mul_le_mul_right _ (by omega)
    have h5 : (128 : Nat) ^ k ≤ 128 ^ 8 := Nat.pow_le_pow_right (by decide) (by omega)
    omega
theorem drop_byte {l : List Nat} {a k c : Nat} (hd : l.drop (a + k) = c :: l.drop (a + k + 1)) : (l.drop a).drop k = c :: l.drop (a + k + 1) := by rw [List.drop_drop]; exact hd
theorem horner {s : List Nat} {p d : Nat} {r : List Nat} (h : s.drop p = d :: r) : val (s.drop p) = d % 128 + 128 * val (s.drop (p + 1)) := by
  have hr2 : s.drop (p + 1) = r := by
    have := congrArg (List.drop 1) h
    simpa [List.drop_drop] using this
  rw [hr2, h]; rfl
theorem rd_take {s : List Nat} {k c : Nat} {r : List Nat} (hr : rd 0 0 s = rd k (val (s.take k)) (s.drop k)) (h : s.drop k = c :: r) (h9 : ¬ (k = 9 ∧ 1 < c)) (hc : 128 ≤ c) : rd 0 0 s = rd (k + 1) (val (s.take (k + 1))) (s.drop (k + 1)) := by
  have hr2 : s.drop (k + 1) = r := by
    have := congrArg (List.drop 1) h
    simpa [List.drop_drop] using this
  rw [hr, h, rd_on h9 hc, val_take h, hr2]
end Go.Proofs.Ytoefogmjekcbeaa.Mt
namespace Go.Proofs.Ytoefogmjekcbeaa
open Go.RowKit
set_option linter.unusedVariables false

set_option maxHeartbeats 400000 in
theorem octs_ne (A A' : Option Addr) (la lb : List Nat) (c c' : Nat) (w : World) (hlen : la.length ≤ maxLen) (hlen' : lb.length ≤ maxLen) (hne : la.length ≠ lb.length) :
    Calls Try.prog 8 #[.slice A la.length c, .slice A' lb.length c'] w (IsBool false w) := by
  unfold maxLen at hlen hlen'
  have hq : (((la.length : Nat) : Int) != ((lb.length : Nat) : Int)) = true := by rw [bne_iff_ne]; omega
  go_enter Try.func8, Try.ntmps8
  go_wp2
  go_ret
  exact ⟨rfl, Below.refl _ _⟩

set_option maxHeartbeats 400000 in
theorem octs_eq (A A' : Option Addr) (la lb : List Nat) (c c' B B' : Nat) (w : World) (ha : Lv yK w B (.slice A la.length c) la) (hb : Lv yK w B' (.slice A' lb.length c') lb) (heq : la.length = lb.length) :
    Calls Try.prog 8 #[.slice A la.length c, .slice A' lb.length c'] w (IsBool (decide (la = lb)) w) := by
  have hlen : la.length ≤ 9223372036854775807 := by have := ha.len_; simp only [maxLen] at this; omega
  have hq : (((la.length : Nat) : Int) != ((lb.length : Nat) : Int)) = false := by rw [heq]; simp
  have HE := Lib.hid heq
  have hle : la.length ≤ lb.length := by omega
  have hge : lb.length ≤ la.length := by omega
  clear heq
  go_enter Try.func8, Try.ntmps8
  go_wp2
  go_loopw [5] (fun i wr => ∃ k : Nat, k ≤ la.length ∧ i = .int .i64 k ∧ Hid (la.take k = lb.take k) ∧ Below w.heap.size w wr ∧ Hid (Lv yK wr B (.slice A la.length c) la) ∧ Hid (Lv yK wr B' (.slice A' lb.length c') lb)) (fun i _ => la.length - (intOf i).toNat)
  case atStart => exact ⟨0, by omega, rfl, by simp [Hid], Below.refl _ _, ha, hb⟩
  case round =>
    obtain ⟨k, hk, rfl, HT, hbel, HA, HB⟩ := hrel
    by_cases hlt : k < la.length
    · obtain ⟨b1, o1, x, rfl, hb1, hx, hd, hcell⟩ := HA.out.byte_ hlt
      obtain ⟨b2, o2, y, rfl, hb2, hy, hd', hcell'⟩ := HB.out.byte_ (k := k) (by omega)
      have HS := Lib.hid (take_both HT.out hd hd')
      clear hd hd' ha hb hx hy
      have hlt' : k < lb.length := by omega
      by_cases hxy : x = y
      · subst hxy
        have hq2 : (((x : Nat) : Int) != ((x : Nat) : Int)) = false := by simp
        go_wp2
        go_quiet (fail)
        go_wp2
        go_roundw
        case rel => exact ⟨k + 1, by omega, by go_num, HS.out.2 (by simp), below_drewN hbel _, HA.out, HB.out⟩
        case measure => simp [intOf]; omega
      · have hq2 : (((x : Nat) : Int) != ((y : Nat) : Int)) = true := by rw [bne_iff_ne]; omega
        go_wp2
        go_quiet (fail)
        go_wp2
        go_ret
        have hne : la ≠ lb := take_unlike (fun e => hxy (HS.out.1 e))
        exact ⟨by simp [hne], below_drewN hbel _⟩
    · go_wp2
      go_ret
      have h1 : la = lb := take_whole HT.out (by omega) (by omega)
      exact ⟨by simp [h1], hbel⟩

theorem octs_lv (v v' : Value) (la lb : List Nat) (B B' : Nat) (w : World) (h : Lv yK w B v la) (h' : Lv yK w B' v' lb) :
    Calls Try.prog 8 #[v, v'] w (IsBool (decide (la = lb)) w) := by
  have k := h
  have k' := h'
  obtain ⟨A, c, rfl, h1, h2, _⟩ := h
  obtain ⟨A', c', rfl, h1', h2', _⟩ := h'
  by_cases he : la.length = lb.length
  · exact octs_eq A A' la lb c c' B B' w k k' he
  · have hne : la ≠ lb := fun e => he (by rw [e])
    have := octs_ne A A' la lb c c' w (by omega) (by omega) he
    simpa [hne] using this
end Go.Proofs.Ytoefogmjekcbeaa
namespace Go.Proofs.Ytoefogmjekcbeaa
open Go.RowKit
set_option linter.unusedVariables false

/-- A literal slice. -/
theorem own_lit {P : Program} {α : Type} {K : El P α} (w : World) (base : Nat) (l : List α) (hok : ∀ x ∈ l, K.ok x) (hm : l.length ≤ maxLen) (hb : base ≤ w.heap.size) (n : Nat) (hn : n = l.length) (cs : Array Value) (hcs : cs = (K.flat l).toArray) (t : TypeId) (ht : t = K.e) : OwnL K (w.alloc (.cells cs t)) base (.slice (some ⟨w.heap.size, 0, none⟩) n n) l := by
  subst hn hcs ht
  refine ⟨hok, .inr ⟨w.heap.size, [], rfl, hb, by simp, by simpa using hm, ?_⟩⟩
  rw [List.append_nil]
  exact heap_alloc_new w _
end Go.Proofs.Ytoefogmjekcbeaa
