/-
  A slice of bytes compared with nil.
-/
import Derived.Test.YtdmomnpmicagcaaProg
import Derived.WalkKit
namespace Go.Proofs.Ytdmomnpmicagcaa
open Go.RowKit
set_option linter.unusedVariables false
theorem equalIn_slice_nil (w : World) (d : Nat) (A : Option Addr) (n c : Nat) : (Op.equalIn (d + 1) 22 (.slice A n c) (.slice none 0 0)).run Try.prog w = .ok A.isNone w := by
  cases A <;> simp [Op.equalIn, run_underlying Try.underlying22]
theorem eql_nil_slice (w : World) (A : Option Addr) (n c : Nat) : (binOp .eql 22 (.slice A n c) (.slice none 0 0)).run Try.prog w = .ok (.bool A.isNone) w := by
  simp only [binOp]
  simp [show Op.equal 22 (.slice A n c) (.slice none 0 0) = Op.equalIn (9999 + 1) 22 (.slice A n c) (.slice none 0 0) from rfl, equalIn_slice_nil w 9999 A n c]
end Go.Proofs.Ytdmomnpmicagcaa
