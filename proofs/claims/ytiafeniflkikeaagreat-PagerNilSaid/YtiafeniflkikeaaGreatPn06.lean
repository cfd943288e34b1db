/- Parts of the proof. -/
import Derived.Test.YtiafeniflkikeaaGreatProg
import Derived.WalkKit
import Derived.Test.YtiafeniflkikeaaGreatPn02
import Derived.Deep.MidRow
import Derived.Test.YtiafeniflkikeaaGreatPn04
import Derived.Test.YtiafeniflkikeaaGreatRows
import Derived.Test.YtiafeniflkikeaaGreatPn01
import Derived.ProofKit
import Derived.OpenShut
import Derived.ShutString
import Derived.ChangeOld
import Derived.Below
namespace Go.Proofs.YtiafeniflkikeaaGreat
open Go.RowKit
set_option linter.unusedVariables false
theorem equalIn_slice_nil (w : World) (d : Nat) (A : Option Addr) (n c : Nat) : (Op.equalIn (d + 1) 40 (.slice A n c) (.slice none 0 0)).run Tryz.prog w = .ok A.isNone w := by
 cases A <;> simp [Op.equalIn, run_underlying Tryz.underlying40]
theorem eql_nil_slice (w : World) (A : Option Addr) (n c : Nat) : (binOp .eql 40 (.slice A n c) (.slice none 0 0)).run Tryz.prog w = .ok (.bool A.isNone) w := by
 simp only [binOp]
 simp [show Op.equal 40 (.slice A n c) (.slice none 0 0) = Op.equalIn (9999 + 1) 40 (.slice A n c) (.slice none 0 0) from rfl, equalIn_slice_nil w 9999 A n c]
end Go.Proofs.YtiafeniflkikeaaGreat
namespace Go.Proofs.YtiafeniflkikeaaGreat
open Go.RowKit
set_option linter.unusedVariables false
theorem exec_load_row {P : Program} {a : Act} {o : Oper} (ty : TypeId) (x : Operand) (ho : o.op = .load ty x) (g : Nat) (hx : a.eval x = .pointer (some ⟨g, 0, none⟩)) (t : TypeId) (cs : Array Value) (fr : Nat × Nat) (d : TypeDesc) (w : World)
  (hg : w.heap[g]? = some (.cells cs t fr)) (hu : P.underlying ty = some d) (hd : (match d with | .struct _ | .array _ _ => true | _ => false) = true) (hi : (P.info? ty).map (·.size) = some cs.size) :
  (execOp a.eval o).run P w = .ok (.value (.agg cs)) w := by
 unfold execOp
 simp only [ho, hx, Instr.loadAt, Instr.sureAddr, Sem.run_bind, Sem.run_pure, Result.andThen_ok, run_loadVar_row w g t ty cs fr d hg hu hd hi]
theorem exec_load_mid {P : Program} {a : Act} {o : Oper} (ty : TypeId) (x : Operand) (ho : o.op = .load ty x) (b off : Nat) (hx : a.eval x = .pointer (some ⟨b, off, none⟩)) (cs : Array Value) (d : TypeDesc) (w : World)
  (hc : w.rangeAt b off cs.toList) (hu : P.underlying ty = some d) (hd : d.isRow = true) (hi : (P.info? ty).map (·.size) = some cs.size) : (execOp a.eval o).run P w = .ok (.value (.agg cs)) w := by
 unfold execOp
 simp only [ho, hx, Instr.loadAt, Instr.sureAddr, Sem.run_bind, Sem.run_pure, Result.andThen_ok, run_loadVar_mid w b off ty cs.toList d hc hu hd (by simpa using hi)]
end Go.Proofs.YtiafeniflkikeaaGreat
namespace Go.Proofs.YtiafeniflkikeaaGreat
def four (n : Nat) : List Nat := [Cr.byt n 0, Cr.byt n 1, Cr.byt n 2, Cr.byt n 3]
theorem four_len (n : Nat) : (four n).length = 4 := rfl
theorem four_lt (n : Nat) : ∀ x ∈ four n, x < 256 := by
 intro x hx
 simp only [four, List.mem_cons, List.not_mem_nil, or_false] at hx
 rcases hx with rfl | rfl | rfl | rfl <;> exact Cr.byt_lt _ _
theorem le_four {n : Nat} (h : Cr.B32 n) : Cr.le (four n) = n := by
 unfold Cr.B32 at h
 simp only [four, Cr.le, Cr.byt]
 omega
namespace Fr
def rest : Nat := Cr.flip (Cr.stepN 32 Cr.ones)
end Fr
end Go.Proofs.YtiafeniflkikeaaGreat
namespace Go.Proofs.YtiafeniflkikeaaGreat
open Go.ChangeShapes Go.WideShapes Go.ChangeAt Go.RowKit
open Go.ChangeMaps (open_string shut_string)
set_option linter.unusedVariables false
theorem own : ownKnob Tryz.prog.godebug = none := by kernel_rfl
theorem laidOut : laidOutB Tryz.prog = true := by kernel_rfl
end Go.Proofs.YtiafeniflkikeaaGreat
