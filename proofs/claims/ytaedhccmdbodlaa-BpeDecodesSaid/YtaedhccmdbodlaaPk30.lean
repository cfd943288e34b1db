/-
  Octs: stookref00.Same answers whether two slices hold the same numbers.
  FrameB: From what a row says of a slice of bytes to a list (Lv yK).
  FrameI: From what a row says of a slice of ints to the words of this text.
-/
import Derived.Test.YtaedhccmdbodlaaPk06
import Derived.Test.YtaedhccmdbodlaaPk03
import Derived.Deep.QuietTactic
import Derived.BigQuiet
import Derived.Test.YtaedhccmdbodlaaPk01
import Derived.Test.YtaedhccmdbodlaaPk11
import Derived.Test.YtaedhccmdbodlaaPk02
namespace Go.Proofs.Ytaedhccmdbodlaa
open Go.RowKit
set_option linter.unusedVariables false

set_option maxHeartbeats 400000 in
theorem octs_ne (A A' : Option Addr) (la lb : List Nat) (c c' : Nat) (w : World) (hlen : la.length ≤ maxLen) (hlen' : lb.length ≤ maxLen) (hne : la.length ≠ lb.length) :
    Calls Try.prog 24 #[.slice A la.length c, .slice A' lb.length c'] w (IsBool false w) := by
  unfold maxLen at hlen hlen'
  have hq : (((la.length : Nat) : Int) != ((lb.length : Nat) : Int)) = true := by rw [bne_iff_ne]; omega
  go_enter Try.func24, Try.ntmps24
  go_wp2
  go_ret
  exact ⟨rfl, Below.refl _ _⟩

set_option maxHeartbeats 400000 in
theorem octs_eq (A A' : Option Addr) (la lb : List Nat) (c c' B B' : Nat) (w : World) (ha : Lv yK w B (.slice A la.length c) la) (hb : Lv yK w B' (.slice A' lb.length c') lb) (heq : la.length = lb.length) :
    Calls Try.prog 24 #[.slice A la.length c, .slice A' lb.length c'] w (IsBool (decide (la = lb)) w) := by
  have hlen : la.length ≤ 9223372036854775807 := by have := ha.len_; simp only [maxLen] at this; omega
  have hq : (((la.length : Nat) : Int) != ((lb.length : Nat) : Int)) = false := by rw [heq]; simp
  have HE := Lib.hid heq
  have hle : la.length ≤ lb.length := by omega
  have hge : lb.length ≤ la.length := by omega
  clear heq
  go_enter Try.func24, Try.ntmps24
  go_wp2
  go_loopw [5] (fun i wr => ∃ k : Nat, k ≤ la.length ∧ i = .int .i64 k ∧ Hid (la.take k = lb.take k) ∧ Below w.heap.size w wr ∧ Hid (Lv yK wr B (.slice A la.length c) la) ∧ Hid (Lv yK wr B' (.slice A' lb.length c') lb)) (fun i _ => la.length - (intOf i).toNat)
  case atStart => exact ⟨0, by omega, rfl, by simp [Hid], Below.refl _ _, ha, hb⟩
  case round =>
    obtain ⟨k, hk, rfl, HT, hbel, HA, HB⟩ := hrel
    by_cases hlt : k < la.length
    · obtain ⟨b1, o1, x, rfl, hb1, hx, hd, hcell⟩ := HA.out.byte_ hlt
      obtain ⟨b2, o2, y, rfl, hb2, hy, hd', hcell'⟩ := HB.out.byte_ (k := k) (by omega)
      have HS := Lib.hid (take_both HT.out hd hd')
      clear hd hd' ha hb hx hy
      have hlt' : k < lb.length := by omega
      by_cases hxy : x = y
      · subst hxy
        have hq2 : (((x : Nat) : Int) != ((x : Nat) : Int)) = false := by simp
        go_wp2
        go_quiet (fail)
        go_wp2
        go_roundw
        case rel => exact ⟨k + 1, by omega, by go_num, HS.out.2 (by simp), below_drewN hbel _, HA.out, HB.out⟩
        case measure => simp [intOf]; omega
      · have hq2 : (((x : Nat) : Int) != ((y : Nat) : Int)) = true := by rw [bne_iff_ne]; omega
        go_wp2
        go_quiet (fail)
        go_wp2
        go_ret
        have hne : la ≠ lb := take_unlike (fun e => hxy (HS.out.1 e))
        exact ⟨by simp [hne], below_drewN hbel _⟩
    · go_wp2
      go_ret
      have h1 : la = lb := take_whole HT.out (by omega) (by omega)
      exact ⟨by simp [h1], hbel⟩

theorem octs_lv (v v' : Value) (la lb : List Nat) (B B' : Nat) (w : World) (h : Lv yK w B v la) (h' : Lv yK w B' v' lb) :
    Calls Try.prog 24 #[v, v'] w (IsBool (decide (la = lb)) w) := by
  have k := h
  have k' := h'
  obtain ⟨A, c, rfl, h1, h2, _⟩ := h
  obtain ⟨A', c', rfl, h1', h2', _⟩ := h'
  by_cases he : la.length = lb.length
  · exact octs_eq A A' la lb c c' B B' w k k' he
  · have hne : la ≠ lb := fun e => he (by rw [e])
    have := octs_ne A A' la lb c c' w (by omega) (by omega) he
    simpa [hne] using this
end Go.Proofs.Ytaedhccmdbodlaa
namespace Go.Proofs.Ytaedhccmdbodlaa
open Go.ChangeShapes Go.WideShapes Go.RowKit
set_option linter.unusedVariables false

theorem octs_in {H : Type} {enc : TypeId × Value → H} {w : World} {sp : Nat → Bool} {held : Bool} {fuel : Nat} {a : Option Addr} {len cap : Nat} {x : DataW H × List MemPlace} (h : DataW.trod enc Try.prog w 0 sp held fuel 25 [.slice a len cap] = some x) :
    ∃ l : List Nat, l.length = len ∧ Lv yK w w.heap.size (.slice a len cap) l :=
  lv_open yK (by kernel_rfl) (fun fuel cs x h => by
    obtain ⟨n, rfl, _, hw⟩ := DataW.trod_int Try.underlying5 h
    have hb := bounds_u8 hw
    obtain ⟨t, rfl⟩ := Int.eq_ofNat_of_zero_le hb.1
    exact ⟨t, (by show _ < _; omega), rfl⟩) h
end Go.Proofs.Ytaedhccmdbodlaa
namespace Go.Proofs.Ytaedhccmdbodlaa
open Go.ChangeShapes Go.WideShapes Go.ChangeAt Go.RowKit
set_option linter.unusedVariables false

theorem i64_wf {n : Int} (h : (Lit.int .i64 n).wf = true) : I64 n := by
  have := bounds_i64 h
  unfold I64; omega
/-- Any kind of elements of one cell: what came in is a list. -/
theorem list_in {P : Program} {α : Type} (K : El P α) (h1 : K.size = 1) (of : Int → α) (cell : Int → Value) {w : World} {a : Option Addr} {len cap : Nat} (wf : Int → Prop) (hok : ∀ n, wf n → K.ok (of n)) (henc : ∀ n, wf n → K.enc (of n) = [cell n])
    (h : (a = none ∧ len = 0 ∧ cap = 0) ∨ ∃ (x : Addr) (zs : List Int), a = some x ∧ len ≤ cap ∧ cap ≤ maxLen ∧ zs.length = cap ∧ (∀ i, i < zs.length → w.cell? (x.add i) = some (cell (zs.getD i 0))) ∧ ∀ n ∈ zs, wf n) :
    ∃ l : List α, l.length = len ∧ Lv K w w.heap.size (.slice a len cap) l := by
  rcases h with ⟨rfl, rfl, rfl⟩ | ⟨x, zs, rfl, hl, hm, hz, hcell, hwz⟩
  · exact ⟨[], rfl, Lv.nil_ _ _ _⟩
  · have hlen : ((zs.take len).map of).length = len := by simp; omega
    refine ⟨(zs.take len).map of, hlen, some x, cap, by rw [hlen], by omega, hm, by simp, ?_, fun hp => ?_⟩
    · intro y hy
      obtain ⟨n, hn, rfl⟩ := List.mem_map.1 hy
      exact hok n (hwz n (List.mem_of_mem_take hn))
    · rw [hlen] at hp
      obtain ⟨b, off, spot⟩ := x
      have hc := hcell 0 (by omega)
      have hspot : spot = none := by simpa [Addr.add] using World.cell?_spot hc
      subst hspot
      refine ⟨b, off, rfl, ?_, fun j u hj => ?_⟩
      · rw [add_addr] at hc
        exact World.block_lt_of_cell? w _ hc
      · have hj' : j < len := by
          have := (List.getElem?_eq_some_iff.1 hj).1
          rw [flat_len, hlen, h1] at this
          omega
        have h4 := hcell j (by omega)
        rw [add_addr] at h4
        have hzj : zs[j]? = some (zs.getD j 0) := by rw [List.getD_eq_getElem?_getD, List.getElem?_eq_getElem (by omega)]; rfl
        have hat : ((zs.take len).map of)[j]? = some (of (zs.getD j 0)) := by rw [List.getElem?_map, List.getElem?_take, if_pos hj', hzj]; rfl
        have h5 := flat_at (K := K) hat (j := 0) (by omega)
        rw [henc _ (hwz _ (List.mem_of_getElem? hzj)), h1, Nat.mul_one, Nat.add_zero] at h5
        rw [h5] at hj
        rw [h4]
        exact hj
theorem ints_in {w : World} {a : Option Addr} {len cap : Nat}
    (h : (a = none ∧ len = 0 ∧ cap = 0) ∨ ∃ (x : Addr) (zs : List Int), a = some x ∧ len ≤ cap ∧ cap ≤ maxLen ∧ zs.length = cap ∧ (∀ i, i < zs.length → w.cell? (x.add i) = some (.int .i64 (zs.getD i 0))) ∧ ∀ n ∈ zs, (Lit.int .i64 n).wf = true) :
    ∃ l : List Int, l.length = len ∧ Lv iK w w.heap.size (.slice a len cap) l :=
  list_in iK rfl (fun n => n) (fun n => .int .i64 n) (fun n => (Lit.int .i64 n).wf = true) (fun n h => i64_wf h) (fun n h => rfl) h
end Go.Proofs.Ytaedhccmdbodlaa
