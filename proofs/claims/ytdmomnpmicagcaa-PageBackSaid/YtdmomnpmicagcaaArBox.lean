/-
  An array of four bytes in a box.
-/
import Derived.Test.YtdmomnpmicagcaaRow
import Derived.Test.YtdmomnpmicagcaaApp
import Derived.Deep.WholeRow
namespace Go.Proofs.Ytdmomnpmicagcaa
open Go.RowKit
set_option linter.unusedVariables false
/-- An array's cells in a box below B. -/
def ArAt (w : World) (B g : Nat) (C : Array Value) : Prop := g < B ∧ Rw w g 34 C
theorem ArAt.below_ {w w' : World} {B B' g : Nat} {C : Array Value} (h : ArAt w B g C) (hb : Below B' w w') (hB : B ≤ B') : ArAt w' B g C := ⟨h.1, h.2.below hb (Nat.lt_of_lt_of_le h.1 hB)⟩
theorem ArAt.mono_ {w : World} {B B' g : Nat} {C : Array Value} (h : ArAt w B g C) (hB : B ≤ B') : ArAt w B' g C := ⟨Nat.lt_of_lt_of_le h.1 hB, h.2⟩
theorem ar_boxat {w W : World} {C : Array Value} (hW : w.alloc (.cells C 34) = W) : ArAt W W.heap.size w.heap.size C ∧ Below w.heap.size w W := by
  subst hW
  exact ⟨⟨by simp, Rw.new w _ _⟩, (Below.refl _ _).alloc (Nat.le_refl _) _⟩
theorem wpList_build_atP {P : Program} {ops : Array Oper} {rest : List Oper} {o : Oper} {a : Act} {w : World} {Q : Exit → Act → World → Prop} (hg : o.guard = none) (t : TypeId) (parts : Array (Nat × Operand)) (ho : o.op = .build t parts) (c : Array Value)
    (hf : P.built t (parts.map fun (i, x) => (i, a.eval x)).toList = some c)
    (h : wpList P ops Q rest (a.put o.dst (.agg c)) w) : wpList P ops Q (o :: rest) a w :=
  wpList_build hg t parts ho (by rw [hf]; rfl) (by rw [hf]; exact h)
theorem ar_size : (Try.prog.info? 34).map (·.size) = some 4 := by kernel_rfl
theorem ar_built0 : Try.prog.built 34 [] = some #[.int .u8 0, .int .u8 0, .int .u8 0, .int .u8 0] := by kernel_rfl
end Go.Proofs.Ytdmomnpmicagcaa
