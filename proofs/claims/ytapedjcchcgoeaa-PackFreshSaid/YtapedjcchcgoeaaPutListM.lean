/-
  What counted lists are, in bytes; a length as a word.
-/
import Derived.Test.YtapedjcchcgoeaaApp
namespace Go.Proofs.Ytapedjcchcgoeaa
open Go.RowKit
set_option linter.unusedVariables false

/-- The bytes of numbers, one behind the other. -/
def puts (l : List Nat) : List Nat := (l.map Mt.put).flatten
def putList (l : List Nat) : List Nat := Mt.put l.length ++ puts l
theorem puts_nil : puts [] = [] := rfl
theorem puts_snoc (l : List Nat) (c : Nat) : puts (l ++ [c]) = puts l ++ Mt.put c := by simp [puts]
theorem puts_len (l : List Nat) : (puts l).length ≤ 10 * l.length := by
  induction l with
  | nil => simp [puts]
  | cons x r ih =>
    have h := Mt.put_len_le x
    have e : puts (x :: r) = Mt.put x ++ puts r := by simp [puts]
    rw [e]
    simp only [List.length_append, List.length_cons]
    omega
theorem take_one {l : List Nat} {k c : Nat} {r : List Nat} (h : l.drop k = c :: r) : l.take (k + 1) = l.take k ++ [c] := by
  rw [List.take_add, h]; rfl

theorem Bv.alloc_ {w : World} {B : Nat} {v : Value} {l : List Nat} (h : Bv w B v l) (hB : B ≤ w.heap.size) (o : Obj) : Bv (w.alloc o) B v l :=
  h.below_ ((Below.refl B w).alloc hB o) (Nat.le_refl _)

theorem wrap_len (n : Nat) (h : n ≤ 140737488355328) : IntKind.u64.wrap (n : Int) = (n : Int) := by rw [IntKind.wrap_u64]; omega
end Go.Proofs.Ytapedjcchcgoeaa
