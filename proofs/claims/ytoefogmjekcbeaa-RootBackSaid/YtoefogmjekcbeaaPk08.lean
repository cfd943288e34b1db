/-
  EqlNil: A slice of bytes compared with nil.
  ExecL: Loads of rows, whole and in part, as operations of a region that draws.
  Four: The four bytes of a sum, the lowest first; a row with its own sum behind it has always the same sum.
-/
import Derived.Test.YtoefogmjekcbeaaProg
import Derived.WalkKit
import Derived.Test.YtoefogmjekcbeaaPk03
import Derived.Deep.MidRow
import Derived.Test.YtoefogmjekcbeaaPk05
namespace Go.Proofs.Ytoefogmjekcbeaa
open Go.RowKit
set_option linter.unusedVariables false
theorem equalIn_slice_nil (w : World) (d : Nat) (A : Option Addr) (n c : Nat) : (Op.equalIn (d + 1) 25 (.slice A n c) (.slice none 0 0)).run Try.prog w = .ok A.isNone w := by
  cases A <;> simp [Op.equalIn, run_underlying Try.underlying25]
theorem eql_nil_slice (w : World) (A : Option Addr) (n c : Nat) : (binOp .eql 25 (.slice A n c) (.slice none 0 0)).run Try.prog w = .ok (.bool A.isNone) w := by
  simp only [binOp]
  simp [show Op.equal 25 (.slice A n c) (.slice none 0 0) = Op.equalIn (9999 + 1) 25 (.slice A n c) (.slice none 0 0) from rfl, equalIn_slice_nil w 9999 A n c]
end Go.Proofs.Ytoefogmjekcbeaa
namespace Go.Proofs.Ytoefogmjekcbeaa
open Go.RowKit
set_option linter.unusedVariables false
/-- A load of a whole row, as an operation of a region that draws. -/
theorem exec_load_row {P : Program} {a : Act} {o : Oper} (ty : TypeId) (x : Operand) (ho : o.op = .load ty x) (g : Nat) (hx : a.eval x = .pointer (some ⟨g, 0, none⟩)) (t : TypeId) (cs : Array Value) (fr : Nat × Nat) (d : TypeDesc) (w : World)
    (hg : w.heap[g]? = some (.cells cs t fr)) (hu : P.underlying ty = some d) (hd : (match d with | .struct _ | .array _ _ => true | _ => false) = true) (hi : (P.info? ty).map (·.size) = some cs.size) :
    (execOp a.eval o).run P w = .ok (.value (.agg cs)) w := by
  unfold execOp
  simp only [ho, hx, Instr.loadAt, Instr.sureAddr, Sem.run_bind, Sem.run_pure, Result.andThen_ok, run_loadVar_row w g t ty cs fr d hg hu hd hi]
/-- A load of part of a row, as an operation of a region that draws. -/
theorem exec_load_mid {P : Program} {a : Act} {o : Oper} (ty : TypeId) (x : Operand) (ho : o.op = .load ty x) (b off : Nat) (hx : a.eval x = .pointer (some ⟨b, off, none⟩)) (cs : Array Value) (d : TypeDesc) (w : World)
    (hc : w.rangeAt b off cs.toList) (hu : P.underlying ty = some d) (hd : d.isRow = true) (hi : (P.info? ty).map (·.size) = some cs.size) : (execOp a.eval o).run P w = .ok (.value (.agg cs)) w := by
  unfold execOp
  simp only [ho, hx, Instr.loadAt, Instr.sureAddr, Sem.run_bind, Sem.run_pure, Result.andThen_ok, run_loadVar_mid w b off ty cs.toList d hc hu hd (by simpa using hi)]
end Go.Proofs.Ytoefogmjekcbeaa
namespace Go.Proofs.Ytoefogmjekcbeaa

/-- The four bytes of a number, the lowest first. -/
def four (n : Nat) : List Nat := [Cr.byt n 0, Cr.byt n 1, Cr.byt n 2, Cr.byt n 3]
theorem four_len (n : Nat) : (four n).length = 4 := rfl
theorem four_lt (n : Nat) : ∀ x ∈ four n, x < 256 := by
  intro x hx
  simp only [four, List.mem_cons, List.not_mem_nil, or_false] at hx
  rcases hx with rfl | rfl | rfl | rfl <;> exact Cr.byt_lt _ _
theorem le_four {n : Nat} (h : Cr.B32 n) : Cr.le (four n) = n := by
  unfold Cr.B32 at h
  simp only [four, Cr.le, Cr.byt]
  omega

namespace Fr
/-! ### A frame's own sum: behind its four bytes the sum of all is always the same number -/
def rest : Nat := Cr.flip (Cr.stepN 32 Cr.ones)
theorem of_frame {l : List Nat} (hl : ∀ x ∈ l, x < 256) : Cr.of (l ++ four (Cr.of l)) = rest := by
  have hb := Cr.of_b32 hl
  have h : Cr.flip (Cr.of l) ^^^ Cr.of l = Cr.ones := by rw [Cr.flip_eq, Nat.xor_assoc, Nat.xor_self, Nat.xor_zero]
  rw [Cr.of_append, Cr.more_eq, Cr.raw_le (four_lt _), le_four hb, h, four_len]
  rfl
end Fr
end Go.Proofs.Ytoefogmjekcbeaa
