/-
  stookref00.Spoil (Lv yK), by any byte: writes over a slice of the call's own, the room behind it too, and nothing else.
-/
import Derived.Test.YtdmomnpmicagcaaKByte
import Derived.Test.YtdmomnpmicagcaaLAns
import Derived.Test.YtdmomnpmicagcaaMem
import Derived.Test.YtdmomnpmicagcaaWholeL
namespace Go.Proofs.Ytdmomnpmicagcaa
open Go.RowKit
set_option linter.unusedVariables false

theorem xor_octB (c d : Nat) : ∃ z : Nat, bits BinOp.xor IntKind.u8 (c : Int) (d : Int) = (z : Int) ∧ z < 256 := by
  unfold bits
  rw [IntKind.wrap_u8]
  refine ⟨(((match BinOp.xor with
    | .and => BitVec.ofInt IntKind.u8.bits (c : Int) &&& BitVec.ofInt IntKind.u8.bits (d : Int)
    | .or => BitVec.ofInt IntKind.u8.bits (c : Int) ||| BitVec.ofInt IntKind.u8.bits (d : Int)
    | .xor => BitVec.ofInt IntKind.u8.bits (c : Int) ^^^ BitVec.ofInt IntKind.u8.bits (d : Int)
    | _ => BitVec.ofInt IntKind.u8.bits (c : Int) &&& ~~~ BitVec.ofInt IntKind.u8.bits (d : Int)).toNat) % 256 : Nat), by simp, by omega⟩

set_option maxHeartbeats 1000000 in
set_option maxRecDepth 100000 in
theorem spoilB_some (g base n c d : Nat) (l : List Nat) (w : World) (h : OwnL yK w base (.slice (some ⟨g, 0, none⟩) n c) l) :
    Calls Try.prog 14 #[.slice (some ⟨g, 0, none⟩) n c, .int .u8 (d : Nat)] w (IsTurned (.slice (some ⟨g, 0, none⟩) n c) w) := by
  obtain ⟨y0, hy0, hw, hnc, hm⟩ := h.whole_
  have hm : c ≤ 9223372036854775807 := by simp only [maxLen] at hm; omega
  have H := Lib.hid hw
  have HY0 := Lib.hid hy0
  clear h hw hy0
  go_enter Try.func14, Try.ntmps14
  go_wp2
  go_loopw [4] (fun i wr => ∃ (k : Nat) (y : List Nat), k ≤ c ∧ i = .int .i64 k ∧ Hid (y.length = c) ∧ Hid (OwnL yK wr base (.slice (some ⟨g, 0, none⟩) c c) y) ∧ w.grownBy wr (some g)) (fun i _ => c - (intOf i).toNat)
  case atStart => exact ⟨0, y0, by omega, rfl, HY0.out, H.out, World.grownBy.refl _ _⟩
  case round =>
    obtain ⟨k, y, hk, rfl, HY, HO, hbr⟩ := hrel
    by_cases hlt : k < c
    · have hky : k < y.length := by have := HY.out; omega
      obtain ⟨g', x, e4, e2, hb, hx, hd, hcell, hfr⟩ := HO.out.byte_ hky
      injection e4 with e4
      injection e4 with e5 e6
      subst e5
      obtain ⟨z, hz, hz2⟩ := xor_octB x d
      obtain ⟨hs1, hs2⟩ := HO.out.setByte_ hky hz2
      have HS := Lib.hid hs1
      have HG := Lib.hid hs2
      clear hd e2 hs1 hs2 HO hx hky
      go_wp2
      exact ⟨⟨k + 1, y.set k z, by omega, by go_num, by unfold Hid; rw [List.length_set, HY.out], HS.out, grownBy_trans hbr HG.out⟩, by simp [intOf]; omega⟩
    · go_wp2
      go_end0
      exact ⟨⟨_, rfl⟩, hbr⟩

set_option maxHeartbeats 1000000 in
theorem spoilB_none (d : Nat) (w : World) :
    Calls Try.prog 14 #[.slice none 0 0, .int .u8 (d : Nat)] w (IsTurned (.slice none 0 0) w) := by
  go_enter Try.func14, Try.ntmps14
  go_wp2
  refine wp_loop_rounds 1 ?_
  rw [rounds_succ]
  go_wp2
  go_end0
  exact ⟨⟨_, rfl⟩, World.grownBy.refl _ _⟩

theorem spoilB_any (d base : Nat) (v : Value) (l : List Nat) (w : World) (h : OwnL yK w base v l) :
    Calls Try.prog 14 #[v, .int .u8 (d : Nat)] w (IsTurned v w) := by
  rcases h.2 with ⟨rfl, _⟩ | ⟨g, s, rfl, _⟩
  · exact spoilB_none d w
  · exact spoilB_some g base _ _ d l w h
end Go.Proofs.Ytdmomnpmicagcaa
