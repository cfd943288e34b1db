/-
  SpoilO: stookref00.Spoil (Lv yK): writes over a slice of the call's own, the room behind it too, and nothing else.
  CopyI: stookref00.CopyInts.
  Cut: A cut of a slice of bytes.
-/
import Derived.Test.YtaedhccmdbodlaaPk06
import Derived.Test.YtaedhccmdbodlaaPk03
import Derived.Test.YtaedhccmdbodlaaPk32
import Derived.Test.YtaedhccmdbodlaaPk02
import Derived.Test.YtaedhccmdbodlaaPk31
namespace Go.Proofs.Ytaedhccmdbodlaa
open Go.RowKit
set_option linter.unusedVariables false

theorem xor_oct (c d : Nat) : ∃ z : Nat, bits BinOp.xor IntKind.u8 (c : Int) (d : Int) = (z : Int) ∧ z < 256 := by
  unfold bits
  rw [IntKind.wrap_u8]
  refine ⟨(((match BinOp.xor with
    | .and => BitVec.ofInt IntKind.u8.bits (c : Int) &&& BitVec.ofInt IntKind.u8.bits (d : Int)
    | .or => BitVec.ofInt IntKind.u8.bits (c : Int) ||| BitVec.ofInt IntKind.u8.bits (d : Int)
    | .xor => BitVec.ofInt IntKind.u8.bits (c : Int) ^^^ BitVec.ofInt IntKind.u8.bits (d : Int)
    | _ => BitVec.ofInt IntKind.u8.bits (c : Int) &&& ~~~ BitVec.ofInt IntKind.u8.bits (d : Int)).toNat) % 256 : Nat), by simp, by omega⟩

set_option maxHeartbeats 1000000 in
set_option maxRecDepth 100000 in
theorem spoilO_some (g base n c : Nat) (l : List Nat) (w : World) (h : OwnL yK w base (.slice (some ⟨g, 0, none⟩) n c) l) :
    Calls Try.prog 29 #[.slice (some ⟨g, 0, none⟩) n c, .int .u8 1] w (IsTurned (.slice (some ⟨g, 0, none⟩) n c) w) := by
  obtain ⟨y0, hy0, hw, hnc, hm⟩ := h.whole_
  have hm : c ≤ 9223372036854775807 := by simp only [maxLen] at hm; omega
  have H := Lib.hid hw
  have HY0 := Lib.hid hy0
  clear h hw hy0
  go_enter Try.func29, Try.ntmps29
  go_wp2
  go_loopw [4] (fun i wr => ∃ (k : Nat) (y : List Nat), k ≤ c ∧ i = .int .i64 k ∧ Hid (y.length = c) ∧ Hid (OwnL yK wr base (.slice (some ⟨g, 0, none⟩) c c) y) ∧ w.grownBy wr (some g)) (fun i _ => c - (intOf i).toNat)
  case atStart => exact ⟨0, y0, by omega, rfl, HY0.out, H.out, World.grownBy.refl _ _⟩
  case round =>
    obtain ⟨k, y, hk, rfl, HY, HO, hbr⟩ := hrel
    by_cases hlt : k < c
    · have hky : k < y.length := by have := HY.out; omega
      obtain ⟨g', x, e4, e2, hb, hx, hd, hcell, hfr⟩ := HO.out.byte_ hky
      injection e4 with e4
      injection e4 with e5 e6
      subst e5
      obtain ⟨z, hz, hz2⟩ := xor_oct x 1
      change bits BinOp.xor IntKind.u8 (x : Int) 1 = _ at hz
      obtain ⟨hs1, hs2⟩ := HO.out.setByte_ hky hz2
      have HS := Lib.hid hs1
      have HG := Lib.hid hs2
      clear hd e2 hs1 hs2 HO hx hky
      go_wp2
      exact ⟨⟨k + 1, y.set k z, by omega, by go_num, by unfold Hid; rw [List.length_set, HY.out], HS.out, grownBy_trans hbr HG.out⟩, by simp [intOf]; omega⟩
    · go_wp2
      go_end0
      exact ⟨⟨_, rfl⟩, hbr⟩

set_option maxHeartbeats 1000000 in
theorem spoilO_none (w : World) :
    Calls Try.prog 29 #[.slice none 0 0, .int .u8 1] w (IsTurned (.slice none 0 0) w) := by
  go_enter Try.func29, Try.ntmps29
  go_wp2
  refine wp_loop_rounds 1 ?_
  rw [rounds_succ]
  go_wp2
  go_end0
  exact ⟨⟨_, rfl⟩, World.grownBy.refl _ _⟩

theorem spoilO_any (base : Nat) (v : Value) (l : List Nat) (w : World) (h : OwnL yK w base v l) :
    Calls Try.prog 29 #[v, .int .u8 1] w (IsTurned v w) := by
  rcases h.2 with ⟨rfl, _⟩ | ⟨g, s, rfl, _⟩
  · exact spoilO_none w
  · exact spoilO_some g base _ _ l w h
end Go.Proofs.Ytaedhccmdbodlaa
namespace Go.Proofs.Ytaedhccmdbodlaa
open Go.RowKit
set_option linter.unusedVariables false

set_option maxHeartbeats 1000000 in
set_option maxRecDepth 100000 in
theorem copyInts_any (v : Value) (l : List Int) (B : Nat) (w : World) (h : Lv iK w B v l) (hsz : l.length ≤ 17592186044416) :
    Calls Try.prog 27 #[v] w (IsL1 iK l w) := by
  have H0 := Lib.hid h
  obtain ⟨A, c, rfl, _⟩ := h
  have hnil := Lib.hid (OwnL.nil_ iK w w.heap.size)
  go_enter Try.func27, Try.ntmps27
  go_wp2_with (at_builtin; go_must (refine wpList_append_l _ iK rfl _ _ rfl w.heap.size _ rfl [] hnil.out _ rfl _ l H0.out (by show _ * 8 ≤ _; simp; omega) (by simp [maxLen]; omega) (Nat.le_refl _) ?_; intro A3 c3 w1 hA hG))
  go_ret
  simp only [List.nil_append] at hA
  exact ⟨A3, c3, by simp, hA, (Below.refl w.heap.size w).grown hG (Nat.le_refl _) (by intro k hk; cases hk)⟩
end Go.Proofs.Ytaedhccmdbodlaa
namespace Go.Proofs.Ytaedhccmdbodlaa
theorem Bv.cut_ {w : World} {B b off n c : Nat} {l : List Nat} (h : Bv w B (.slice (some ⟨b, off, none⟩) n c) l) {k m : Nat} (hk : k + m ≤ l.length) :
    Bv w B (.slice (some ⟨b, off + k, none⟩) m (c - k)) ((l.drop k).take m) := by
  obtain ⟨A', c', e, h1, h2, h3, h4, h5⟩ := h
  injection e with e1 e2 e3
  subst e1 e3
  have hlen : ((l.drop k).take m).length = m := by rw [List.length_take, List.length_drop]; omega
  refine ⟨some ⟨b, off + k, none⟩, c - k, by rw [hlen], by omega, by omega, by simp, fun x hx => h4 x (List.mem_of_mem_drop (List.mem_of_mem_take hx)), fun hp => ?_⟩
  obtain ⟨b', off', e, hb, hc⟩ := h5 (by omega)
  injection e with e
  injection e with e4 e5
  subst e4 e5
  refine ⟨b, off + k, rfl, hb, fun j u hj => ?_⟩
  have h6 := hc (k + j) u (by
    rw [List.getElem?_take] at hj
    split at hj
    · rw [List.getElem?_drop] at hj; exact hj
    · cases hj)
  rw [← h6]
  congr 2
  omega
end Go.Proofs.Ytaedhccmdbodlaa
