/-
  KI64: What fits into an int.
  KInt: The kind of elements int: slices of int.
  LAns: Words for what calls answer: a list in new memory, a list and an error.
-/
import Derived.Outline
import Derived.Test.YtlefkaoibokjdaaPc02
import Derived.Test.YtlefkaoibokjdaaProg
namespace Go.Proofs.Ytlefkaoibokjdaa
/-- What fits into an int. -/
def I64 (x : Int) : Prop := -9223372036854775808 ≤ x ∧ x < 9223372036854775808
theorem i64_nat {n : Nat} (h : n < 9223372036854775808) : I64 (n : Int) := by unfold I64; omega
theorem i64_wrap {x : Int} (h : I64 x) : IntKind.i64.wrap x = x := by unfold I64 at h; rw [IntKind.wrap_i64]; omega
end Go.Proofs.Ytlefkaoibokjdaa
namespace Go.Proofs.Ytlefkaoibokjdaa
open Go.RowKit
set_option linter.unusedVariables false

def iK : El Try.prog Int where
  e := 3
  s := 24
  size := 1
  bytes := 8
  zero := .int .i64 0
  z := 0
  enc := fun x => [.int .i64 x]
  ok := I64
  len := fun _ => rfl
  one := fun x u hu => by simp at hu; subst hu; rfl
  okz := by unfold I64; omega
  encz := rfl
  pos := by decide
  under := Try.underlying24
  info := by kernel_rfl


section
variable {w : World} {base B n c : Nat} {A : Option Addr} {l : List Int}
theorem Lv.int_ (h : Lv iK w B (.slice A n c) l) {k : Nat} (hk : k < l.length) :
    ∃ b off x, A = some ⟨b, off, none⟩ ∧ b < B ∧ I64 x ∧ l[k]? = some x ∧ w.cell? ⟨b, off + k, none⟩ = some (.int .i64 x) := by
  obtain ⟨b, off, x, h1, h2, h3, h4, h5⟩ := h.at_ hk
  have h6 := h5 0 (.int .i64 x) rfl
  refine ⟨b, off, x, h1, h2, h3, h4, ?_⟩
  have e : off + (k * iK.size + 0) = off + k := by show off + (k * 1 + 0) = _; omega
  rw [e] at h6
  exact h6
theorem OwnL.int_ (h : OwnL iK w base (.slice A n c) l) {k : Nat} (hk : k < l.length) :
    ∃ g x, A = some ⟨g, 0, none⟩ ∧ n = l.length ∧ base ≤ g ∧ I64 x ∧ l[k]? = some x ∧ w.cell? ⟨g, k, none⟩ = some (.int .i64 x) ∧ w.frozen? ⟨g, k, none⟩ = false := by
  obtain ⟨g, x, h1, h2, h3, h4, h5, h6, h7⟩ := h.at_ hk
  have h8 := h6 0 (.int .i64 x) rfl
  refine ⟨g, x, h1, h2, h3, h4, h5, ?_, h7 k⟩
  have e : k * iK.size + 0 = k := by show k * 1 + 0 = _; omega
  rw [e] at h8
  exact h8
theorem OwnL.was_ {g : Nat} (h : OwnL iK w base (.slice (some ⟨g, 0, none⟩) n c) l) {k : Nat} (hk : k < l.length) : ∃ x, l[k]? = some x ∧ w.cell? ⟨g, k, none⟩ = some (.int .i64 x) := by
  obtain ⟨g', x, e, _, _, _, h5, h6, _⟩ := h.int_ hk
  injection e with e
  injection e with e
  subst e
  exact ⟨x, h5, h6⟩
theorem OwnL.setInt_ {g : Nat} (h : OwnL iK w base (.slice (some ⟨g, 0, none⟩) n c) l) {j : Nat} (hj : j < l.length) {x : Int} (hx : I64 x) :
    OwnL iK (w.setCell ⟨g, j, none⟩ (.int .i64 x)) base (.slice (some ⟨g, 0, none⟩) n c) (l.set j x) ∧ w.grownBy (w.setCell ⟨g, j, none⟩ (.int .i64 x)) (some g) := h.set_ rfl hj hx rfl
end
end Go.Proofs.Ytlefkaoibokjdaa
namespace Go.Proofs.Ytlefkaoibokjdaa
open Go.RowKit
set_option linter.unusedVariables false

section
variable {P : Program} {α : Type}
/-- A call that answers this list in new memory, and turns nothing that was there. -/
def IsL1 (K : El P α) (l : List α) (w : World) (e : Ending) (w' : World) : Prop :=
  ∃ A c, e = .returned (.slice A l.length c) ∧ OwnL K w' w.heap.size (.slice A l.length c) l ∧ Below w.heap.size w w'
/-- A call that answers this list in new memory and an error, and turns nothing that was there. -/
def IsLE (K : El P α) (r : List α × Nat) (w : World) (e : Ending) (w' : World) : Prop :=
  ∃ A c, e = .returned (.tuple #[.slice A r.1.length c, .int .i64 r.2]) ∧ OwnL K w' w.heap.size (.slice A r.1.length c) r.1 ∧ Below w.heap.size w w'
/-- A call that answers nothing, and turns but one slice of the caller's own. -/
def IsTurned (v : Value) (w : World) (e : Ending) (w' : World) : Prop := (∃ x, e = .returned x) ∧ w.grownBy w' v.ownBlock
/-- A call that answers an error, and turns nothing that was there. -/
def IsErr (n : Nat) (w : World) (e : Ending) (w' : World) : Prop := e = .returned (.int .i64 (n : Nat)) ∧ Below w.heap.size w w'

variable {K : El P α}
theorem IsLE.none_ {w : World} {r : List α × Nat} {e : Nat} {x : Int} (h : r = ([], e)) (hx : x = (e : Nat)) : IsLE K r w (.returned (.tuple #[.slice none 0 0, .int .i64 x])) w := by
  subst h hx; exact ⟨none, 0, rfl, OwnL.nil_ _ _ _, Below.refl _ _⟩
theorem IsLE.none_b {w w' : World} {r : List α × Nat} {e : Nat} {x : Int} (h : r = ([], e)) (hx : x = (e : Nat)) (hb : Below w.heap.size w w') : IsLE K r w (.returned (.tuple #[.slice none 0 0, .int .i64 x])) w' := by
  subst h hx; exact ⟨none, 0, rfl, OwnL.nil_ _ _ _, hb⟩
theorem IsLE.of {w w' : World} {r : List α × Nat} {y : List α} {e c n : Nat} {x : Int} {A : Option Addr} (h : r = (y, e)) (hn : n = y.length) (hx : x = (e : Nat)) (ho : OwnL K w' w.heap.size (.slice A n c) y) (hb : Below w.heap.size w w') :
    IsLE K r w (.returned (.tuple #[.slice A n c, .int .i64 x])) w' := by subst h hx hn; exact ⟨A, c, rfl, ho, hb⟩
/-- What a call of a list and an error answered, where it is known. -/
theorem IsLE.out_ {w w' : World} {e : Ending} {r : List α × Nat} (h : IsLE K r w e w') {l : List α} {n : Nat} (hr : r = (l, n)) :
    ∃ A c, e = .returned (.tuple #[.slice A l.length c, .int .i64 n]) ∧ OwnL K w' w.heap.size (.slice A l.length c) l ∧ Below w.heap.size w w' := by subst hr; exact h
theorem grownBy_trans {w w1 w2 : World} {r : Option Nat} (h : w.grownBy w1 r) (h2 : w1.grownBy w2 r) : w.grownBy w2 r :=
  ⟨h2.os.trans h.os, h2.tape.trans h.tape, h2.output.trans h.output, Nat.le_trans h.size h2.size, fun k hk hne => (h2.block k (Nat.lt_of_lt_of_le hk h.size) hne).trans (h.block k hk hne)⟩
/-- What a call turned but in blocks from B on, or in the row of one own slice. -/
theorem Below.turned {w w1 w2 : World} {B : Nat} {v : Value} (h : Below B w w1) (hg : w1.grownBy w2 v.ownBlock) (hB : B ≤ w1.heap.size) (hv : ∀ k, v.ownBlock = some k → B ≤ k) : Below B w w2 := h.grown hg hB hv
end
end Go.Proofs.Ytlefkaoibokjdaa
