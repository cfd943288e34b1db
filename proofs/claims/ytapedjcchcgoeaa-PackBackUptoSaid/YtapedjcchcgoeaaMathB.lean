/-
  Plain mathematics of chapter 1 (leb), more.
-/
import Derived.Test.YtapedjcchcgoeaaMath
namespace Go.Proofs.Ytapedjcchcgoeaa.Mt
theorem get_put {n : Nat} (hn : B64 n) (x y : List Nat) : get (x ++ put n ++ y) (x.length : Nat) = (n, x.length + (put n).length, 0) := by
  refine get_ok (by simp) ?_
  rw [List.append_assoc, List.drop_left]
  exact rd_put hn y
end Go.Proofs.Ytapedjcchcgoeaa.Mt
