/-
  stookref00.Spoil: writes over a row of the call's own, and nothing else.
-/
import Derived.Test.YtejipcnihgpdhaaHeap
import Derived.Test.YtejipcnihgpdhaaSet
namespace Go.Proofs.Ytejipcnihgpdhaa
open Go.RowKit
set_option linter.unusedVariables false

theorem xor_byte (c d : Nat) : ∃ z : Nat, bits BinOp.xor IntKind.u8 (c : Int) (d : Int) = (z : Int) ∧ z < 256 := by
  unfold bits
  rw [IntKind.wrap_u8]
  refine ⟨(((match BinOp.xor with
    | .and => BitVec.ofInt IntKind.u8.bits (c : Int) &&& BitVec.ofInt IntKind.u8.bits (d : Int)
    | .or => BitVec.ofInt IntKind.u8.bits (c : Int) ||| BitVec.ofInt IntKind.u8.bits (d : Int)
    | .xor => BitVec.ofInt IntKind.u8.bits (c : Int) ^^^ BitVec.ofInt IntKind.u8.bits (d : Int)
    | _ => BitVec.ofInt IntKind.u8.bits (c : Int) &&& ~~~ BitVec.ofInt IntKind.u8.bits (d : Int)).toNat) % 256 : Nat), by simp, by omega⟩

theorem grown_trans {w w1 w2 : World} {r : Option Nat} (h : w.grownBy w1 r) (h2 : w1.grownBy w2 r) : w.grownBy w2 r :=
  ⟨h2.os.trans h.os, h2.tape.trans h.tape, h2.output.trans h.output, Nat.le_trans h.size h2.size, fun k hk hne => (h2.block k (Nat.lt_of_lt_of_le hk h.size) hne).trans (h.block k hk hne)⟩
theorem grown_refl (w : World) (r : Option Nat) : w.grownBy w r := ⟨rfl, rfl, rfl, Nat.le_refl _, fun _ _ _ => rfl⟩

/-- A call that answers nothing, and turns nothing below block B. -/
def IsDone (B : Nat) (w : World) (e : Ending) (w' : World) : Prop := (∃ v, e = .returned v) ∧ Below B w w'
/-- A call that answers nothing, and turns but one row of the caller's own, which stays as long. -/
def IsSpoilt (base : Nat) (u : Value) (n : Nat) (w : World) (e : Ending) (w' : World) : Prop := (∃ v, e = .returned v) ∧ w.grownBy w' u.ownBlock ∧ ∃ y : List Nat, y.length = n ∧ OwnB w' base u y

set_option maxHeartbeats 1000000 in
set_option maxRecDepth 100000 in
theorem spoilt_cut (g base n : Nat) (l : List Nat) (w : World) (h : OwnB w base (.slice (some ⟨g, 0, none⟩) l.length l.length) l) :
    Calls Try.prog 28 #[.slice (some ⟨g, 0, none⟩) n l.length, .int .u8 1] w (IsSpoilt base (.slice (some ⟨g, 0, none⟩) l.length l.length) l.length w) := by
  have hm : l.length ≤ 9223372036854775807 := by obtain ⟨_, _, e, h1, h2, _⟩ := h.form_; simp only [maxLen] at h2; omega
  have hg := h.heap_.1
  have H := Lib.hid h
  clear h
  go_enter Try.func28, Try.ntmps28
  go_wp2
  go_loopw [4] (fun i wr => ∃ (k : Nat) (y : List Nat), k ≤ l.length ∧ i = .int .i64 k ∧ Hid (y.length = l.length) ∧ Hid (OwnB wr base (.slice (some ⟨g, 0, none⟩) l.length l.length) y) ∧ w.grownBy wr (some g)) (fun i _ => l.length - (intOf i).toNat)
  case atStart => exact ⟨0, l, by omega, rfl, rfl, H.out, grown_refl _ _⟩
  case round =>
    obtain ⟨k, y, hk, rfl, HY, HO, hbr⟩ := hrel
    by_cases hlt : k < l.length
    · have hky : k < y.length := by have := HY.out; omega
      obtain ⟨A', c', e', _, _, _, hts⟩ := HO.out.form_
      injection e' with e1 e2 e3
      subst e1
      obtain ⟨b, off, x, e4, hb, hx, hd, hcell⟩ := hts.at_ hky
      injection e4 with e4
      injection e4 with e5 e6
      subst e5 e6
      rw [Nat.zero_add] at hcell
      obtain ⟨z, hz, hz256⟩ := xor_byte x 1
      have ho := HO.out
      rw [← HY.out] at ho
      obtain ⟨hs1, hs2⟩ := ho.set_ k hz256
      have hfr : wr.frozen? ⟨g, k, none⟩ = false := ho.2.frozenAt k
      rw [List.length_set, HY.out] at hs1
      have HS := Lib.hid hs1
      have HG := Lib.hid hs2
      have HZ : Hid (bits BinOp.xor IntKind.u8 (x : Int) 1 = (z : Int)) := hz
      clear hts hd e3 e2 hs1 hs2 ho hz HO
      go_wp2
      rw [HZ.out]
      exact ⟨⟨k + 1, y.set k z, by omega, by go_num, by unfold Hid; rw [List.length_set, HY.out], HS.out, grown_trans hbr HG.out⟩, by simp [intOf]; omega⟩
    · go_wp2
      go_end0
      exact ⟨⟨_, rfl⟩, hbr, y, HY.out, HO.out⟩

theorem spoilt_some (g base : Nat) (l : List Nat) (w : World) (h : OwnB w base (.slice (some ⟨g, 0, none⟩) l.length l.length) l) :
    Calls Try.prog 28 #[.slice (some ⟨g, 0, none⟩) l.length l.length, .int .u8 1] w (IsSpoilt base (.slice (some ⟨g, 0, none⟩) l.length l.length) l.length w) := spoilt_cut g base l.length l w h

set_option maxHeartbeats 1000000 in
theorem spoilt_none (base : Nat) (w : World) :
    Calls Try.prog 28 #[.slice none 0 0, .int .u8 1] w (IsSpoilt base (.slice none 0 0) 0 w) := by
  go_enter Try.func28, Try.ntmps28
  go_wp2
  refine wp_loop_rounds 1 ?_
  rw [rounds_succ]
  go_wp2
  go_end0
  exact ⟨⟨_, rfl⟩, grown_refl _ _, [], rfl, OwnB.nil_ _ _⟩

theorem spoilt_any (base : Nat) (A : Option Addr) (l : List Nat) (w : World) (h : OwnB w base (.slice A l.length l.length) l) :
    Calls Try.prog 28 #[.slice A l.length l.length, .int .u8 1] w (IsSpoilt base (.slice A l.length l.length) l.length w) := by
  rcases h.2.2 with ⟨e, h0⟩ | ⟨g, cap, cur, e, _⟩
  · injection e with e1 e2 e3
    subst e1
    rw [h0]
    exact spoilt_none base w
  · injection e with e1 e2 e3
    subst e1
    exact spoilt_some g base l w h
theorem spoil_any (base : Nat) (A : Option Addr) (l : List Nat) (w : World) (h : OwnB w base (.slice A l.length l.length) l) (hb : base ≤ w.heap.size) :
    Calls Try.prog 28 #[.slice A l.length l.length, .int .u8 1] w (IsDone base w) := by
  refine (spoilt_any base A l w h).mono ?_
  rintro e w' ⟨h1, h2, _⟩
  exact ⟨h1, (Below.refl base w).grown h2 hb (fun k hk => (h.lt_ k hk).1)⟩

end Go.Proofs.Ytejipcnihgpdhaa
