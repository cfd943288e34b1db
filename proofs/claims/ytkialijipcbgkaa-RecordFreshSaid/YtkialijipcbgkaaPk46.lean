/-
  CopyI: stookref00.CopyInts.
  WholeL: A list of the call's own to its room's end.
  SpoilI: stookref00.SpoilInts: writes over a slice of the call's own, the room behind it too, and nothing else.
  SpoilO: stookref00.Spoil (Lv yK): writes over a slice of the call's own, the room behind it too, and nothing else.
-/
import Derived.Test.YtkialijipcbgkaaPk03
import Derived.Test.YtkialijipcbgkaaPk01
import Derived.Test.YtkialijipcbgkaaPk02
import Derived.Test.YtkialijipcbgkaaPk07
namespace Go.Proofs.Ytkialijipcbgkaa
open Go.RowKit
set_option linter.unusedVariables false

set_option maxHeartbeats 1000000 in
set_option maxRecDepth 100000 in
theorem copyInts_any (v : Value) (l : List Int) (B : Nat) (w : World) (h : Lv iK w B v l) (hsz : l.length ≤ 17592186044416) :
    Calls Try.prog 25 #[v] w (IsL1 iK l w) := by
  have H0 := Lib.hid h
  obtain ⟨A, c, rfl, _⟩ := h
  have hnil := Lib.hid (OwnL.nil_ iK w w.heap.size)
  go_enter Try.func25, Try.ntmps25
  go_wp2_with (at_builtin; go_must (refine wpList_append_l _ iK rfl _ _ rfl w.heap.size _ rfl [] hnil.out _ rfl _ l H0.out (by show _ * 8 ≤ _; simp; omega) (by simp [maxLen]; omega) (Nat.le_refl _) ?_; intro A3 c3 w1 hA hG))
  go_ret
  simp only [List.nil_append] at hA
  exact ⟨A3, c3, by simp, hA, (Below.refl w.heap.size w).grown hG (Nat.le_refl _) (by intro k hk; cases hk)⟩
end Go.Proofs.Ytkialijipcbgkaa
namespace Go.Proofs.Ytkialijipcbgkaa
open Go.RowKit
set_option linter.unusedVariables false

theorem OwnL.whole_ {P : Program} {α : Type} {K : El P α} {w : World} {base g n c : Nat} {l : List α} (h : OwnL K w base (.slice (some ⟨g, 0, none⟩) n c) l) : ∃ y : List α, y.length = c ∧ OwnL K w base (.slice (some ⟨g, 0, none⟩) c c) y ∧ n ≤ c ∧ c ≤ maxLen := by
  rcases h.2 with ⟨e, _⟩ | ⟨g', s, e, hb, hs, hm, hh⟩
  · cases e
  · injection e with e1 e2 e3
    injection e1 with e1
    injection e1 with e1
    subst e1 e2 e3
    refine ⟨l ++ s, by simp, ⟨fun y hy => (List.mem_append.1 hy).elim (h.1 y) (hs y), .inr ⟨g, [], by simp, hb, by simp, by simpa using hm, by simpa using hh⟩⟩, by omega, hm⟩
end Go.Proofs.Ytkialijipcbgkaa
namespace Go.Proofs.Ytkialijipcbgkaa
open Go.RowKit
set_option linter.unusedVariables false

theorem xor_int (x y : Int) : I64 (bits BinOp.xor IntKind.i64 x y) := by
  unfold bits I64
  rw [IntKind.wrap_i64]
  omega
set_option maxHeartbeats 1000000 in
set_option maxRecDepth 100000 in
theorem spoilInts_some (g base n c : Nat) (l : List Int) (w : World) (h : OwnL iK w base (.slice (some ⟨g, 0, none⟩) n c) l) :
    Calls Try.prog 28 #[.slice (some ⟨g, 0, none⟩) n c, .int .i64 1] w (IsTurned (.slice (some ⟨g, 0, none⟩) n c) w) := by
  obtain ⟨y0, hy0, hw, hnc, hm⟩ := h.whole_
  have hm : c ≤ 9223372036854775807 := by simp only [maxLen] at hm; omega
  have H := Lib.hid hw
  have HY0 := Lib.hid hy0
  clear h hw hy0
  go_enter Try.func28, Try.ntmps28
  go_wp2
  go_loopw [4] (fun i wr => ∃ (k : Nat) (y : List Int), k ≤ c ∧ i = .int .i64 k ∧ Hid (y.length = c) ∧ Hid (OwnL iK wr base (.slice (some ⟨g, 0, none⟩) c c) y) ∧ w.grownBy wr (some g)) (fun i _ => c - (intOf i).toNat)
  case atStart => exact ⟨0, y0, by omega, rfl, HY0.out, H.out, World.grownBy.refl _ _⟩
  case round =>
    obtain ⟨k, y, hk, rfl, HY, HO, hbr⟩ := hrel
    by_cases hlt : k < c
    · have hky : k < y.length := by have := HY.out; omega
      obtain ⟨g', x, e4, e2, hb, hx, hd, hcell, hfr⟩ := HO.out.int_ hky
      injection e4 with e4
      injection e4 with e5 e6
      subst e5
      obtain ⟨hs1, hs2⟩ := HO.out.setInt_ hky (xor_int x 1)
      have HS := Lib.hid hs1
      have HG := Lib.hid hs2
      clear hd e2 hs1 hs2 HO hx hky
      go_wp2
      exact ⟨⟨k + 1, y.set k (bits BinOp.xor IntKind.i64 x 1), by omega, by go_num, by unfold Hid; rw [List.length_set, HY.out], HS.out, grownBy_trans hbr HG.out⟩, by simp [intOf]; omega⟩
    · go_wp2
      go_end0
      exact ⟨⟨_, rfl⟩, hbr⟩

set_option maxHeartbeats 1000000 in
theorem spoilInts_none (w : World) :
    Calls Try.prog 28 #[.slice none 0 0, .int .i64 1] w (IsTurned (.slice none 0 0) w) := by
  go_enter Try.func28, Try.ntmps28
  go_wp2
  refine wp_loop_rounds 1 ?_
  rw [rounds_succ]
  go_wp2
  go_end0
  exact ⟨⟨_, rfl⟩, World.grownBy.refl _ _⟩

theorem spoilInts_any (base : Nat) (v : Value) (l : List Int) (w : World) (h : OwnL iK w base v l) :
    Calls Try.prog 28 #[v, .int .i64 1] w (IsTurned v w) := by
  rcases h.2 with ⟨rfl, _⟩ | ⟨g, s, rfl, _⟩
  · exact spoilInts_none w
  · exact spoilInts_some g base _ _ l w h
end Go.Proofs.Ytkialijipcbgkaa
namespace Go.Proofs.Ytkialijipcbgkaa
open Go.RowKit
set_option linter.unusedVariables false

theorem xor_oct (c d : Nat) : ∃ z : Nat, bits BinOp.xor IntKind.u8 (c : Int) (d : Int) = (z : Int) ∧ z < 256 := by
  unfold bits
  rw [IntKind.wrap_u8]
  refine ⟨(((match BinOp.xor with
    | .and => BitVec.ofInt IntKind.u8.bits (c : Int) &&& BitVec.ofInt IntKind.u8.bits (d : Int)
    | .or => BitVec.ofInt IntKind.u8.bits (c : Int) ||| BitVec.ofInt IntKind.u8.bits (d : Int)
    | .xor => BitVec.ofInt IntKind.u8.bits (c : Int) ^^^ BitVec.ofInt IntKind.u8.bits (d : Int)
    | _ => BitVec.ofInt IntKind.u8.bits (c : Int) &&& ~~~ BitVec.ofInt IntKind.u8.bits (d : Int)).toNat) % 256 : Nat), by simp, by omega⟩

set_option maxHeartbeats 1000000 in
set_option maxRecDepth 100000 in
theorem spoilO_some (g base n c : Nat) (l : List Nat) (w : World) (h : OwnL yK w base (.slice (some ⟨g, 0, none⟩) n c) l) :
    Calls Try.prog 26 #[.slice (some ⟨g, 0, none⟩) n c, .int .u8 1] w (IsTurned (.slice (some ⟨g, 0, none⟩) n c) w) := by
  obtain ⟨y0, hy0, hw, hnc, hm⟩ := h.whole_
  have hm : c ≤ 9223372036854775807 := by simp only [maxLen] at hm; omega
  have H := Lib.hid hw
  have HY0 := Lib.hid hy0
  clear h hw hy0
  go_enter Try.func26, Try.ntmps26
  go_wp2
  go_loopw [4] (fun i wr => ∃ (k : Nat) (y : List Nat), k ≤ c ∧ i = .int .i64 k ∧ Hid (y.length = c) ∧ Hid (OwnL yK wr base (.slice (some ⟨g, 0, none⟩) c c) y) ∧ w.grownBy wr (some g)) (fun i _ => c - (intOf i).toNat)
  case atStart => exact ⟨0, y0, by omega, rfl, HY0.out, H.out, World.grownBy.refl _ _⟩
  case round =>
    obtain ⟨k, y, hk, rfl, HY, HO, hbr⟩ := hrel
    by_cases hlt : k < c
    · have hky : k < y.length := by have := HY.out; omega
      obtain ⟨g', x, e4, e2, hb, hx, hd, hcell, hfr⟩ := HO.out.byte_ hky
      injection e4 with e4
      injection e4 with e5 e6
      subst e5
      obtain ⟨z, hz, hz2⟩ := xor_oct x 1
      change bits BinOp.xor IntKind.u8 (x : Int) 1 = _ at hz
      obtain ⟨hs1, hs2⟩ := HO.out.setByte_ hky hz2
      have HS := Lib.hid hs1
      have HG := Lib.hid hs2
      clear hd e2 hs1 hs2 HO hx hky
      go_wp2
      exact ⟨⟨k + 1, y.set k z, by omega, by go_num, by unfold Hid; rw [List.length_set, HY.out], HS.out, grownBy_trans hbr HG.out⟩, by simp [intOf]; omega⟩
    · go_wp2
      go_end0
      exact ⟨⟨_, rfl⟩, hbr⟩

set_option maxHeartbeats 1000000 in
theorem spoilO_none (w : World) :
    Calls Try.prog 26 #[.slice none 0 0, .int .u8 1] w (IsTurned (.slice none 0 0) w) := by
  go_enter Try.func26, Try.ntmps26
  go_wp2
  refine wp_loop_rounds 1 ?_
  rw [rounds_succ]
  go_wp2
  go_end0
  exact ⟨⟨_, rfl⟩, World.grownBy.refl _ _⟩

theorem spoilO_any (base : Nat) (v : Value) (l : List Nat) (w : World) (h : OwnL yK w base v l) :
    Calls Try.prog 26 #[v, .int .u8 1] w (IsTurned v w) := by
  rcases h.2 with ⟨rfl, _⟩ | ⟨g, s, rfl, _⟩
  · exact spoilO_none w
  · exact spoilO_some g base _ _ l w h
end Go.Proofs.Ytkialijipcbgkaa
