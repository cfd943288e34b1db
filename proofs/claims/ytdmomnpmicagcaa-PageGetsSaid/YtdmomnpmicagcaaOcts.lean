/-
  stookref00.Same answers whether two slices hold the same numbers.
-/
import Derived.Test.YtdmomnpmicagcaaKByte
import Derived.Test.YtdmomnpmicagcaaMem
import Derived.Deep.QuietTactic
import Derived.BigQuiet
namespace Go.Proofs.Ytdmomnpmicagcaa
open Go.RowKit
set_option linter.unusedVariables false

set_option maxHeartbeats 400000 in
theorem octs_ne (A A' : Option Addr) (la lb : List Nat) (c c' : Nat) (w : World) (hlen : la.length ≤ maxLen) (hlen' : lb.length ≤ maxLen) (hne : la.length ≠ lb.length) :
    Calls Try.prog 9 #[.slice A la.length c, .slice A' lb.length c'] w (IsBool false w) := by
  unfold maxLen at hlen hlen'
  have hq : (((la.length : Nat) : Int) != ((lb.length : Nat) : Int)) = true := by rw [bne_iff_ne]; omega
  go_enter Try.func9, Try.ntmps9
  go_wp2
  go_ret
  exact ⟨rfl, Below.refl _ _⟩

set_option maxHeartbeats 400000 in
theorem octs_eq (A A' : Option Addr) (la lb : List Nat) (c c' B B' : Nat) (w : World) (ha : Lv yK w B (.slice A la.length c) la) (hb : Lv yK w B' (.slice A' lb.length c') lb) (heq : la.length = lb.length) :
    Calls Try.prog 9 #[.slice A la.length c, .slice A' lb.length c'] w (IsBool (decide (la = lb)) w) := by
  have hlen : la.length ≤ 9223372036854775807 := by have := ha.len_; simp only [maxLen] at this; omega
  have hq : (((la.length : Nat) : Int) != ((lb.length : Nat) : Int)) = false := by rw [heq]; simp
  have HE := Lib.hid heq
  have hle : la.length ≤ lb.length := by omega
  have hge : lb.length ≤ la.length := by omega
  clear heq
  go_enter Try.func9, Try.ntmps9
  go_wp2
  go_loopw [5] (fun i wr => ∃ k : Nat, k ≤ la.length ∧ i = .int .i64 k ∧ Hid (la.take k = lb.take k) ∧ Below w.heap.size w wr ∧ Hid (Lv yK wr B (.slice A la.length c) la) ∧ Hid (Lv yK wr B' (.slice A' lb.length c') lb)) (fun i _ => la.length - (intOf i).toNat)
  case atStart => exact ⟨0, by omega, rfl, by simp [Hid], Below.refl _ _, ha, hb⟩
  case round =>
    obtain ⟨k, hk, rfl, HT, hbel, HA, HB⟩ := hrel
    by_cases hlt : k < la.length
    · obtain ⟨b1, o1, x, rfl, hb1, hx, hd, hcell⟩ := HA.out.byte_ hlt
      obtain ⟨b2, o2, y, rfl, hb2, hy, hd', hcell'⟩ := HB.out.byte_ (k := k) (by omega)
      have HS := Lib.hid (take_both HT.out hd hd')
      clear hd hd' ha hb hx hy
      have hlt' : k < lb.length := by omega
      by_cases hxy : x = y
      · subst hxy
        have hq2 : (((x : Nat) : Int) != ((x : Nat) : Int)) = false := by simp
        go_wp2
        go_quiet (fail)
        go_wp2
        go_roundw
        case rel => exact ⟨k + 1, by omega, by go_num, HS.out.2 (by simp), below_drewN hbel _, HA.out, HB.out⟩
        case measure => simp [intOf]; omega
      · have hq2 : (((x : Nat) : Int) != ((y : Nat) : Int)) = true := by rw [bne_iff_ne]; omega
        go_wp2
        go_quiet (fail)
        go_wp2
        go_ret
        have hne : la ≠ lb := take_unlike (fun e => hxy (HS.out.1 e))
        exact ⟨by simp [hne], below_drewN hbel _⟩
    · go_wp2
      go_ret
      have h1 : la = lb := take_whole HT.out (by omega) (by omega)
      exact ⟨by simp [h1], hbel⟩

theorem octs_lv (v v' : Value) (la lb : List Nat) (B B' : Nat) (w : World) (h : Lv yK w B v la) (h' : Lv yK w B' v' lb) :
    Calls Try.prog 9 #[v, v'] w (IsBool (decide (la = lb)) w) := by
  have k := h
  have k' := h'
  obtain ⟨A, c, rfl, h1, h2, _⟩ := h
  obtain ⟨A', c', rfl, h1', h2', _⟩ := h'
  by_cases he : la.length = lb.length
  · exact octs_eq A A' la lb c c' B B' w k k' he
  · have hne : la ≠ lb := fun e => he (by rw [e])
    have := octs_ne A A' la lb c c' w (by omega) (by omega) he
    simpa [hne] using this
end Go.Proofs.Ytdmomnpmicagcaa
