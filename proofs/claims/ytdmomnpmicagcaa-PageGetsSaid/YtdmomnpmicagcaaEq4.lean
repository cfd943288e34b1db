/-
  Arrays of four bytes: of a slice of four; two of them compared.
-/
import Derived.Test.YtdmomnpmicagcaaEqB
namespace Go.Proofs.Ytdmomnpmicagcaa
open Go.RowKit
set_option linter.unusedVariables false

theorem array_at (a : Addr) (w : World) : (Instr.arrayAt 34 (.slice (some a) 4 4)).run Try.prog w = .ok (.pointer (some a)) w := by
  simp [Instr.arrayAt, run_underlying Try.underlying34]
theorem equal4 {s t : List Nat} (hs : s.length = 4) (ht : t.length = 4) (hs8 : ∀ x ∈ s, x < 256) (ht8 : ∀ x ∈ t, x < 256) (w : World) :
    (Op.equalIn 10000 34 (.agg (s.map u8).toArray) (.agg (t.map u8).toArray)).run Try.prog w = .ok (decide (s = t)) w := by
  have h := run_equalIn_bytes (P := Try.prog) w 9998 34 5 4 Try.underlying34 Try.underlying5 size_of5 (s.map UInt8.ofNat) (t.map UInt8.ofNat) (by simpa using hs) (by simpa using ht)
  rw [cells_u8 hs8, cells_u8 ht8, u8_inj hs8 ht8] at h
  exact h
end Go.Proofs.Ytdmomnpmicagcaa
