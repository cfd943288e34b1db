/-
  Left: stookref00.Left: what Wide made is as it was, the room behind it, too.
  WholeL: A list of the call's own to its room's end.
  SpoilO: stookref00.Spoil (Lv yK): writes over a slice of the call's own, the room behind it too, and nothing else.
-/
import Derived.Test.YtmcbjcbnckpfkaaPk28
import Derived.Test.YtmcbjcbnckpfkaaPk01
import Derived.Test.YtmcbjcbnckpfkaaPk02
import Derived.Test.YtmcbjcbnckpfkaaPk04
namespace Go.Proofs.Ytmcbjcbnckpfkaa
open Go.RowKit
set_option linter.unusedVariables false

set_option maxHeartbeats 1000000 in
set_option maxRecDepth 100000 in
theorem left_any (g : Nat) (l : List Nat) (v : Value) (B B' : Nat) (w : World) (h : Bv w B (.slice (some ⟨g, 0, none⟩) (l.length + 3) (l.length + 3)) (l ++ [7, 7, 7])) (h' : Bv w B' v l) :
    Calls Try.prog 31 #[.slice (some ⟨g, 0, none⟩) l.length (l.length + 3), v] w (IsBool true w) := by
  have h1 := h.take_ (k := l.length) (by simp)
  rw [List.take_left] at h1
  have HS := Lib.hid (same_bv _ _ _ _ _ _ w h1 h')
  obtain ⟨A0, c0, e0, _, hc0, _, hts⟩ := h
  injection e0 with e1 e2 e3
  subst e1 e3
  unfold maxLen at hc0
  have hcell : ∀ j, j < 3 → w.cell? ⟨g, l.length + j, none⟩ = some (.int .u8 7) := by
    intro j hj
    obtain ⟨b, off, e4, _, hc⟩ := hts.2 (by simp)
    injection e4 with e4
    injection e4 with e5 e6
    subst e5 e6
    have h2 : (l ++ [7, 7, 7])[l.length + j]? = some 7 := by
      rw [List.getElem?_append_right (by omega)]
      have e : l.length + j - l.length = j := by omega
      rw [e]
      match j, hj with
      | 0, _ => rfl
      | 1, _ => rfl
      | 2, _ => rfl
    have h3 := hc _ _ h2
    rw [Nat.zero_add] at h3
    exact h3
  have k0 := hcell 0 (by omega)
  have k1 := hcell 1 (by omega)
  have k2 := hcell 2 (by omega)
  rw [Nat.add_zero] at k0
  obtain ⟨A, c, rfl, _, _, _, _⟩ := h'
  clear h1 hts hcell e2
  go_enter Try.func31, Try.ntmps31
  go_wp2_with fail
  ((with_reducible refine HS.out.mono ?_); rintro e w1 ⟨he, hb⟩)
  simp only [decide_true] at he
  subst he
  have m0 : w1.cell? ⟨g, l.length, none⟩ = some (.int .u8 7) := (hb.cell (p := ⟨g, l.length, none⟩) (World.block_lt_of_cell? w _ k0)).trans k0
  have m1 : w1.cell? ⟨g, l.length + 1, none⟩ = some (.int .u8 7) := (hb.cell (p := ⟨g, l.length + 1, none⟩) (World.block_lt_of_cell? w _ k1)).trans k1
  have m2 : w1.cell? ⟨g, l.length + 2, none⟩ = some (.int .u8 7) := (hb.cell (p := ⟨g, l.length + 2, none⟩) (World.block_lt_of_cell? w _ k2)).trans k2
  have HB := Lib.hid hb
  clear HS k0 k1 k2 hb
  go_wp2
  go_ret
  exact ⟨rfl, HB.out⟩

end Go.Proofs.Ytmcbjcbnckpfkaa
namespace Go.Proofs.Ytmcbjcbnckpfkaa
open Go.RowKit
set_option linter.unusedVariables false

theorem OwnL.whole_ {P : Program} {α : Type} {K : El P α} {w : World} {base g n c : Nat} {l : List α} (h : OwnL K w base (.slice (some ⟨g, 0, none⟩) n c) l) : ∃ y : List α, y.length = c ∧ OwnL K w base (.slice (some ⟨g, 0, none⟩) c c) y ∧ n ≤ c ∧ c ≤ maxLen := by
  rcases h.2 with ⟨e, _⟩ | ⟨g', s, e, hb, hs, hm, hh⟩
  · cases e
  · injection e with e1 e2 e3
    injection e1 with e1
    injection e1 with e1
    subst e1 e2 e3
    refine ⟨l ++ s, by simp, ⟨fun y hy => (List.mem_append.1 hy).elim (h.1 y) (hs y), .inr ⟨g, [], by simp, hb, by simp, by simpa using hm, by simpa using hh⟩⟩, by omega, hm⟩
end Go.Proofs.Ytmcbjcbnckpfkaa
namespace Go.Proofs.Ytmcbjcbnckpfkaa
open Go.RowKit
set_option linter.unusedVariables false

theorem xor_oct (c d : Nat) : ∃ z : Nat, bits BinOp.xor IntKind.u8 (c : Int) (d : Int) = (z : Int) ∧ z < 256 := by
  unfold bits
  rw [IntKind.wrap_u8]
  refine ⟨(((match BinOp.xor with
    | .and => BitVec.ofInt IntKind.u8.bits (c : Int) &&& BitVec.ofInt IntKind.u8.bits (d : Int)
    | .or => BitVec.ofInt IntKind.u8.bits (c : Int) ||| BitVec.ofInt IntKind.u8.bits (d : Int)
    | .xor => BitVec.ofInt IntKind.u8.bits (c : Int) ^^^ BitVec.ofInt IntKind.u8.bits (d : Int)
    | _ => BitVec.ofInt IntKind.u8.bits (c : Int) &&& ~~~ BitVec.ofInt IntKind.u8.bits (d : Int)).toNat) % 256 : Nat), by simp, by omega⟩

set_option maxHeartbeats 1000000 in
set_option maxRecDepth 100000 in
theorem spoilO_some (g base n c : Nat) (l : List Nat) (w : World) (h : OwnL yK w base (.slice (some ⟨g, 0, none⟩) n c) l) :
    Calls Try.prog 32 #[.slice (some ⟨g, 0, none⟩) n c, .int .u8 1] w (IsTurned (.slice (some ⟨g, 0, none⟩) n c) w) := by
  obtain ⟨y0, hy0, hw, hnc, hm⟩ := h.whole_
  have hm : c ≤ 9223372036854775807 := by simp only [maxLen] at hm; omega
  have H := Lib.hid hw
  have HY0 := Lib.hid hy0
  clear h hw hy0
  go_enter Try.func32, Try.ntmps32
  go_wp2
  go_loopw [4] (fun i wr => ∃ (k : Nat) (y : List Nat), k ≤ c ∧ i = .int .i64 k ∧ Hid (y.length = c) ∧ Hid (OwnL yK wr base (.slice (some ⟨g, 0, none⟩) c c) y) ∧ w.grownBy wr (some g)) (fun i _ => c - (intOf i).toNat)
  case atStart => exact ⟨0, y0, by omega, rfl, HY0.out, H.out, World.grownBy.refl _ _⟩
  case round =>
    obtain ⟨k, y, hk, rfl, HY, HO, hbr⟩ := hrel
    by_cases hlt : k < c
    · have hky : k < y.length := by have := HY.out; omega
      obtain ⟨g', x, e4, e2, hb, hx, hd, hcell, hfr⟩ := HO.out.byte_ hky
      injection e4 with e4
      injection e4 with e5 e6
      subst e5
      obtain ⟨z, hz, hz2⟩ := xor_oct x 1
      change bits BinOp.xor IntKind.u8 (x : Int) 1 = _ at hz
      obtain ⟨hs1, hs2⟩ := HO.out.setByte_ hky hz2
      have HS := Lib.hid hs1
      have HG := Lib.hid hs2
      clear hd e2 hs1 hs2 HO hx hky
      go_wp2
      exact ⟨⟨k + 1, y.set k z, by omega, by go_num, by unfold Hid; rw [List.length_set, HY.out], HS.out, grownBy_trans hbr HG.out⟩, by simp [intOf]; omega⟩
    · go_wp2
      go_end0
      exact ⟨⟨_, rfl⟩, hbr⟩

set_option maxHeartbeats 1000000 in
theorem spoilO_none (w : World) :
    Calls Try.prog 32 #[.slice none 0 0, .int .u8 1] w (IsTurned (.slice none 0 0) w) := by
  go_enter Try.func32, Try.ntmps32
  go_wp2
  refine wp_loop_rounds 1 ?_
  rw [rounds_succ]
  go_wp2
  go_end0
  exact ⟨⟨_, rfl⟩, World.grownBy.refl _ _⟩

theorem spoilO_any (base : Nat) (v : Value) (l : List Nat) (w : World) (h : OwnL yK w base v l) :
    Calls Try.prog 32 #[v, .int .u8 1] w (IsTurned v w) := by
  rcases h.2 with ⟨rfl, _⟩ | ⟨g, s, rfl, _⟩
  · exact spoilO_none w
  · exact spoilO_some g base _ _ l w h
end Go.Proofs.Ytmcbjcbnckpfkaa
