/-
  Rows, one behind the other.
-/
import Derived.Test.YtapedjcchcgoeaaMath
namespace Go.Proofs.Ytapedjcchcgoeaa

/-- All rows, one behind the other. -/
def cat (ls : List (List Nat)) : List Nat := ls.flatten
theorem flat_succ {ls : List (List Nat)} {k : Nat} {l : List Nat} (h : ls[k]? = some l) : cat (ls.take (k + 1)) = cat (ls.take k) ++ l := by
  unfold cat
  rw [List.take_add_one, h]; simp
theorem flat_le (ls : List (List Nat)) (k : Nat) : (cat (ls.take k)).length ≤ (cat ls).length := by
  unfold cat
  have h := List.take_append_drop k ls
  have h2 := congrArg (fun x => x.flatten.length) h
  simp only [List.flatten_append, List.length_append] at h2
  omega

end Go.Proofs.Ytapedjcchcgoeaa
