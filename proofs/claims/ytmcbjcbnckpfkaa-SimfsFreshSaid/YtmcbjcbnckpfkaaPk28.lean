/-
  WideL: What Wide made, as a fact of its block.
  Same: stookref00.Same answers whether two slices hold the same bytes.
  SameB: stookref00.Same on two slices that read as lists of bytes.
-/
import Derived.Test.YtmcbjcbnckpfkaaPk27
import Derived.Test.YtmcbjcbnckpfkaaPk02
import Derived.Test.YtmcbjcbnckpfkaaPk04
import Derived.Deep.QuietTactic
import Derived.BigQuiet
import Derived.Test.YtmcbjcbnckpfkaaPk26
namespace Go.Proofs.Ytmcbjcbnckpfkaa
open Go.RowKit
set_option linter.unusedVariables false
/-- Block g holds these bytes and three bytes 7. -/
structure WideAt (w : World) (g : Nat) (l : List Nat) : Prop where
  heap : w.heap[g]? = some (.cells ((l ++ [7, 7, 7]).map u8).toArray 5 (0, 0))
  ok : ∀ x ∈ l, x < 256
  max : l.length + 3 ≤ maxLen
section
variable {w w' : World} {g base : Nat} {l : List Nat} {F : Nat → Prop}
theorem wide_ok (h : ∀ x ∈ l, x < 256) : ∀ x ∈ l ++ [7, 7, 7], x < 256 := fun x hx => by
  rcases List.mem_append.1 hx with hx | hx
  · exact h x hx
  · simp at hx; omega
theorem WideAt.of {n : Nat} (h : OwnB w base (.slice (some ⟨g, 0, none⟩) n n) (l ++ [7, 7, 7])) (hn : n = l.length + 3) (hm : l.length + 3 ≤ maxLen) : base ≤ g ∧ WideAt w g l := by
  have e : n = (l ++ [7, 7, 7]).length := by simp [hn]
  subst e
  obtain ⟨h1, h2⟩ := h.heap_
  exact ⟨h1, h2, fun x hx => h.1 x (List.mem_append_left _ hx), hm⟩
theorem WideAt.lt (h : WideAt w g l) : g < w.heap.size := by
  have := h.heap
  apply Decidable.byContradiction
  intro hn
  rw [Array.getElem?_eq_none (by omega)] at this
  cases this
theorem WideAt.turned (h : WideAt w g l) (ht : Turned F w w') (hn : ¬ F g) : WideAt w' g l := ⟨(ht.block g h.lt hn).trans h.heap, h.ok, h.max⟩
theorem WideAt.below (h : WideAt w g l) (hb : Below w.heap.size w w') : WideAt w' g l := ⟨(hb.block g h.lt).trans h.heap, h.ok, h.max⟩
theorem WideAt.full (h : WideAt w g l) : Bv w w.heap.size (.slice (some ⟨g, 0, none⟩) (l.length + 3) (l.length + 3)) (l ++ [7, 7, 7]) := by
  have h1 := (OwnB.of_heap (base := 0) (Nat.zero_le _) (wide_ok h.ok) (by have := h.max; simp; omega) h.heap).form_
  simpa using h1
theorem WideAt.lv (h : WideAt w g l) : Lv yK w w.heap.size (.slice (some ⟨g, 0, none⟩) l.length (l.length + 3)) l := by
  have ht := h.full.take_ (k := l.length) (by simp)
  rw [List.take_left] at ht
  exact ht.lv_
theorem WideAt.own (h : WideAt w g l) : OwnL yK w 0 (.slice (some ⟨g, 0, none⟩) l.length (l.length + 3)) l := by
  refine ⟨h.ok, .inr ⟨g, [7, 7, 7], rfl, Nat.zero_le _, fun x hx => ?_, h.max, ?_⟩⟩
  · simp at hx; show x < 256; omega
  · rw [h.heap, octs_flat]; rfl
end
end Go.Proofs.Ytmcbjcbnckpfkaa
namespace Go.Proofs.Ytmcbjcbnckpfkaa
open Go.RowKit
set_option linter.unusedVariables false

theorem take_eq_succ {la lb : List Nat} {k a b : Nat} (h : la.take k = lb.take k) (ha : la.drop k = a :: la.drop (k + 1)) (hb : lb.drop k = b :: lb.drop (k + 1)) : (la.take (k + 1) = lb.take (k + 1)) ↔ a = b := by
  have h1 : la.take (k + 1) = la.take k ++ [a] := by
    have := List.take_add (l := la) (i := k) (j := 1)
    rw [this, ha]; rfl
  have h2 : lb.take (k + 1) = lb.take k ++ [b] := by
    have := List.take_add (l := lb) (i := k) (j := 1)
    rw [this, hb]; rfl
  rw [h1, h2, h]
  simp

theorem take_ne {la lb : List Nat} {k : Nat} (h : la.take k ≠ lb.take k) : la ≠ lb := fun e => h (by rw [e])

set_option maxHeartbeats 400000 in
theorem same_ne (A A' : Option Addr) (la lb : List Nat) (c c' : Nat) (w : World) (hlen : la.length ≤ maxLen) (hlen' : lb.length ≤ maxLen) (hne : la.length ≠ lb.length) :
    Calls Try.prog 21 #[.slice A la.length c, .slice A' lb.length c'] w (IsBool false w) := by
  unfold maxLen at hlen hlen'
  have hq : (((la.length : Nat) : Int) != ((lb.length : Nat) : Int)) = true := by rw [bne_iff_ne]; omega
  go_enter Try.func21, Try.ntmps21
  go_wp2
  go_ret
  exact ⟨rfl, Below.refl _ _⟩

set_option maxHeartbeats 400000 in
theorem same_eq (A A' : Option Addr) (la lb : List Nat) (c c' B B' : Nat) (w : World) (ha : Bts w B A la) (hb : Bts w B' A' lb) (hlen : la.length ≤ maxLen) (heq : la.length = lb.length) :
    Calls Try.prog 21 #[.slice A la.length c, .slice A' lb.length c'] w (IsBool (decide (la = lb)) w) := by
  unfold maxLen at hlen
  have hq : (((la.length : Nat) : Int) != ((lb.length : Nat) : Int)) = false := by rw [heq]; simp
  have HE := Lib.hid heq
  have hle : la.length ≤ lb.length := by omega
  have hge : lb.length ≤ la.length := by omega
  clear heq
  go_enter Try.func21, Try.ntmps21
  go_wp2
  go_loopw [5] (fun i wr => ∃ k : Nat, k ≤ la.length ∧ i = .int .i64 k ∧ Hid (la.take k = lb.take k) ∧ Below w.heap.size w wr ∧ Hid (Bts wr B A la) ∧ Hid (Bts wr B' A' lb)) (fun i _ => la.length - (intOf i).toNat)
  case atStart => exact ⟨0, by omega, rfl, by simp [Hid], Below.refl _ _, ha, hb⟩
  case round =>
    obtain ⟨k, hk, rfl, HT, hbel, HA, HB⟩ := hrel
    by_cases hlt : k < la.length
    · obtain ⟨b1, o1, x, rfl, hb1, hx, hd, hcell⟩ := HA.out.at_ hlt
      obtain ⟨b2, o2, y, rfl, hb2, hy, hd', hcell'⟩ := HB.out.at_ (k := k) (by omega)
      have HS := Lib.hid (take_eq_succ HT.out hd hd')
      clear hd hd' ha hb
      have hlt' : k < lb.length := by omega
      by_cases hxy : x = y
      · subst hxy
        have hq2 : ((x : Int) != (x : Int)) = false := by simp
        go_wp2
        go_quiet (fail)
        go_wp2
        go_roundw
        case rel => exact ⟨k + 1, by omega, by go_num, HS.out.2 (by simp), below_drewN hbel _, HA.out, HB.out⟩
        case measure => simp [intOf]; omega
      · have hq2 : ((x : Int) != (y : Int)) = true := by rw [bne_iff_ne]; omega
        go_wp2
        go_quiet (fail)
        go_wp2
        go_ret
        have hne : la ≠ lb := take_ne (fun e => hxy (HS.out.1 e))
        exact ⟨by simp [hne], below_drewN hbel _⟩
    · go_wp2
      go_ret
      have h0 : k = la.length := by omega
      have h1 : la = lb := by
        have := HT.out
        rw [List.take_of_length_le (by omega), List.take_of_length_le (by omega)] at this
        exact this
      exact ⟨by simp [h1], hbel⟩

theorem same_any (A A' : Option Addr) (la lb : List Nat) (c c' B B' : Nat) (w : World) (ha : Bts w B A la) (hb : Bts w B' A' lb) (hlen : la.length ≤ maxLen) (hlen' : lb.length ≤ maxLen) :
    Calls Try.prog 21 #[.slice A la.length c, .slice A' lb.length c'] w (IsBool (decide (la = lb)) w) := by
  by_cases h : la.length = lb.length
  · exact same_eq A A' la lb c c' B B' w ha hb hlen h
  · have hne : la ≠ lb := fun e => h (by rw [e])
    have := same_ne A A' la lb c c' w hlen hlen' h
    simpa [hne] using this
end Go.Proofs.Ytmcbjcbnckpfkaa
namespace Go.Proofs.Ytmcbjcbnckpfkaa
open Go.RowKit

theorem same_bv (v v' : Value) (la lb : List Nat) (B B' : Nat) (w : World) (h : Bv w B v la) (h' : Bv w B' v' lb) :
    Calls Try.prog 21 #[v, v'] w (IsBool (decide (la = lb)) w) := by
  obtain ⟨A, c, rfl, h1, h2, h3, h4⟩ := h
  obtain ⟨A', c', rfl, h1', h2', h3', h4'⟩ := h'
  exact same_any A A' la lb c c' B B' w h4 h4' (by omega) (by omega)

end Go.Proofs.Ytmcbjcbnckpfkaa
