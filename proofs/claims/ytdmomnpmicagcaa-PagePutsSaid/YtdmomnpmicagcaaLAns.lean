/-
  Words for what calls answer: a list in new memory, a list and an error.
-/
import Derived.Test.YtdmomnpmicagcaaEl
namespace Go.Proofs.Ytdmomnpmicagcaa
open Go.RowKit
set_option linter.unusedVariables false

section
variable {P : Program} {α : Type}
/-- A call that answers this list in new memory, and turns nothing that was there. -/
def IsL1 (K : El P α) (l : List α) (w : World) (e : Ending) (w' : World) : Prop :=
  ∃ A c, e = .returned (.slice A l.length c) ∧ OwnL K w' w.heap.size (.slice A l.length c) l ∧ Below w.heap.size w w'
/-- A call that answers this list in new memory and an error, and turns nothing that was there. -/
def IsLE (K : El P α) (r : List α × Nat) (w : World) (e : Ending) (w' : World) : Prop :=
  ∃ A c, e = .returned (.tuple #[.slice A r.1.length c, .int .i64 r.2]) ∧ OwnL K w' w.heap.size (.slice A r.1.length c) r.1 ∧ Below w.heap.size w w'
/-- A call that answers nothing, and turns but one slice of the caller's own. -/
def IsTurned (v : Value) (w : World) (e : Ending) (w' : World) : Prop := (∃ x, e = .returned x) ∧ w.grownBy w' v.ownBlock
/-- A call that answers an error, and turns nothing that was there. -/
def IsErr (n : Nat) (w : World) (e : Ending) (w' : World) : Prop := e = .returned (.int .i64 (n : Nat)) ∧ Below w.heap.size w w'

variable {K : El P α}
theorem IsLE.none_ {w : World} {r : List α × Nat} {e : Nat} {x : Int} (h : r = ([], e)) (hx : x = (e : Nat)) : IsLE K r w (.returned (.tuple #[.slice none 0 0, .int .i64 x])) w := by
  subst h hx; exact ⟨none, 0, rfl, OwnL.nil_ _ _ _, Below.refl _ _⟩
theorem IsLE.none_b {w w' : World} {r : List α × Nat} {e : Nat} {x : Int} (h : r = ([], e)) (hx : x = (e : Nat)) (hb : Below w.heap.size w w') : IsLE K r w (.returned (.tuple #[.slice none 0 0, .int .i64 x])) w' := by
  subst h hx; exact ⟨none, 0, rfl, OwnL.nil_ _ _ _, hb⟩
theorem IsLE.of {w w' : World} {r : List α × Nat} {y : List α} {e c n : Nat} {x : Int} {A : Option Addr} (h : r = (y, e)) (hn : n = y.length) (hx : x = (e : Nat)) (ho : OwnL K w' w.heap.size (.slice A n c) y) (hb : Below w.heap.size w w') :
    IsLE K r w (.returned (.tuple #[.slice A n c, .int .i64 x])) w' := by subst h hx hn; exact ⟨A, c, rfl, ho, hb⟩
/-- What a call of a list and an error answered, where it is known. -/
theorem IsLE.out_ {w w' : World} {e : Ending} {r : List α × Nat} (h : IsLE K r w e w') {l : List α} {n : Nat} (hr : r = (l, n)) :
    ∃ A c, e = .returned (.tuple #[.slice A l.length c, .int .i64 n]) ∧ OwnL K w' w.heap.size (.slice A l.length c) l ∧ Below w.heap.size w w' := by subst hr; exact h
theorem grownBy_trans {w w1 w2 : World} {r : Option Nat} (h : w.grownBy w1 r) (h2 : w1.grownBy w2 r) : w.grownBy w2 r :=
  ⟨h2.os.trans h.os, h2.tape.trans h.tape, h2.output.trans h.output, Nat.le_trans h.size h2.size, fun k hk hne => (h2.block k (Nat.lt_of_lt_of_le hk h.size) hne).trans (h.block k hk hne)⟩
/-- What a call turned but in blocks from B on, or in the row of one own slice. -/
theorem Below.turned {w w1 w2 : World} {B : Nat} {v : Value} (h : Below B w w1) (hg : w1.grownBy w2 v.ownBlock) (hB : B ≤ w1.heap.size) (hv : ∀ k, v.ownBlock = some k → B ≤ k) : Below B w w2 := h.grown hg hB hv
end
end Go.Proofs.Ytdmomnpmicagcaa
