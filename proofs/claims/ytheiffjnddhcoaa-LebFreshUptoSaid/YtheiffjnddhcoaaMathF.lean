/-
  Plain mathematics of chapter 1 (leb): a counted list.
-/
import Derived.Test.YtheiffjnddhcoaaMathE
namespace Go.Proofs.Ytheiffjnddhcoaa.Mt
/-- What was read ahead, and what comes behind it. -/
def prep (ys : List Nat) (t : List Nat × Nat × Nat) : List Nat × Nat × Nat := if t.2.2 ≠ 0 then ([], 0, t.2.2) else (ys ++ t.1, t.2.1, 0)
/-- So many numbers from place x on. -/
def gets : Nat → List Nat → Nat → List Nat × Nat × Nat
  | 0, _, x => ([], x, 0)
  | n + 1, l, x => if (get l (x : Nat)).2.2 ≠ 0 then ([], 0, (get l (x : Nat)).2.2) else prep [(get l (x : Nat)).1] (gets n l (get l (x : Nat)).2.1)
theorem gets_err {n x e : Nat} {l : List Nat} (h : get l (x : Nat) = (0, 0, e)) (he : e ≠ 0) : gets (n + 1) l x = ([], 0, e) := by rw [gets, h, if_pos he]
theorem gets_on {n x v x' : Nat} {l : List Nat} (h : get l (x : Nat) = (v, x', 0)) : gets (n + 1) l x = prep [v] (gets n l x') := by rw [gets, h, if_neg (by simp)]
theorem prep_err {ys : List Nat} {e : Nat} (he : e ≠ 0) : prep ys ([], 0, e) = ([], 0, e) := by unfold prep; rw [if_pos he]
theorem prep_ok (ys zs : List Nat) (x : Nat) : prep ys (zs, x, 0) = (ys ++ zs, x, 0) := by unfold prep; rw [if_neg (by simp)]
theorem prep_prep (ys zs : List Nat) (t : List Nat × Nat × Nat) : prep ys (prep zs t) = prep (ys ++ zs) t := by
  unfold prep
  by_cases h : t.2.2 ≠ 0
  · rw [if_pos h, if_pos (by simpa using h)]
    simp [h]
  · rw [if_neg h]
    simp at h
    simp [h]
theorem gets_form (n : Nat) (l : List Nat) (x : Nat) : prep [] (gets n l x) = gets n l x := by
  cases n with
  | zero => rfl
  | succ n =>
    rw [gets]
    by_cases h : (get l (x : Nat)).2.2 ≠ 0
    · rw [if_pos h, prep_err h]
    · rw [if_neg h, prep_prep]; rfl
def getList (l : List Nat) (a most : Int) : List Nat × Nat × Nat :=
  if (count l a most).2.2 ≠ 0 then ([], 0, (count l a most).2.2) else gets (count l a most).1 l (count l a most).2.1
theorem getList_err {l : List Nat} {a most : Int} {e : Nat} (h : count l a most = (0, 0, e)) (he : e ≠ 0) : getList l a most = ([], 0, e) := by unfold getList; rw [h, if_pos he]
theorem getList_ok {l : List Nat} {a most : Int} {n k : Nat} (h : count l a most = (n, k, 0)) : getList l a most = gets n l k := by unfold getList; rw [h, if_neg (by simp)]
end Go.Proofs.Ytheiffjnddhcoaa.Mt
