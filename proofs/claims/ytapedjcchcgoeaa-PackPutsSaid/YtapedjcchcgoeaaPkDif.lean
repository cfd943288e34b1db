/-
  The numbers of a row's differences.
-/
import Derived.Test.YtapedjcchcgoeaaPkMath
import Derived.Test.YtapedjcchcgoeaaPutListM
import Derived.Test.YtapedjcchcgoeaaKWord
namespace Go.Proofs.Ytapedjcchcgoeaa.Pk
def dif (was : Int) : List Int → List Nat
  | [] => []
  | t :: r => fold (t - was) :: dif t r
theorem dif_len (l : List Int) : ∀ was, (dif was l).length = l.length := by
  induction l with
  | nil => intro was; rfl
  | cons t r ih => intro was; rw [dif, List.length_cons, ih, List.length_cons]
theorem dif_app (a b : List Int) : ∀ was, dif was (a ++ b) = dif was a ++ dif (a.getLastD was) b := by
  induction a with
  | nil => intro was; rfl
  | cons t r ih =>
    intro was
    rw [List.cons_append, dif, dif, ih, List.cons_append]
    cases r with
    | nil => rfl
    | cons x r => simp [List.getLastD]
theorem dif_more {l : List Int} {k : Nat} {x : Int} (h : l[k]? = some x) : dif 0 (l.take (k + 1)) = dif 0 (l.take k) ++ [fold (x - (l.take k).getLastD 0)] := by
  rw [take_more h, dif_app]
  simp [dif]
theorem dif_puts (l : List Int) : ∀ was, puts (dif was l) = bytes was l := by
  induction l with
  | nil => intro was; rfl
  | cons t r ih =>
    intro was
    have h := ih t
    unfold puts at h ⊢
    rw [dif, bytes, List.map_cons, List.flatten_cons, h]
/-- What differences answers. -/
def difE (l : List Int) : List Nat × Nat := if 65536 < l.length then ([], 3) else if ∀ t ∈ l, Tok t then (dif 0 l, 0) else ([], 2)
theorem dif_put {l : List Int} (h : ¬ 65536 < l.length) (ht : ∀ t ∈ l, Tok t) : putE l = (putList (dif 0 l), 0) := by
  unfold putE putList
  rw [if_neg h, if_pos ht, dif_len, dif_puts]
theorem dif_cases (l : List Int) : (∃ e, 2 ≤ e ∧ e ≤ 3 ∧ difE l = ([], e) ∧ putE l = ([], e)) ∨ (l.length ≤ 65536 ∧ difE l = (dif 0 l, 0) ∧ putE l = (putList (dif 0 l), 0)) := by
  by_cases h : 65536 < l.length
  · exact .inl ⟨3, by omega, by omega, if_pos h, if_pos h⟩
  · by_cases ht : ∀ t ∈ l, Tok t
    · exact .inr ⟨by omega, (if_neg h).trans (if_pos ht), dif_put h ht⟩
    · exact .inl ⟨2, by omega, by omega, (if_neg h).trans (if_neg ht), (if_neg h).trans (if_neg ht)⟩
end Go.Proofs.Ytapedjcchcgoeaa.Pk
