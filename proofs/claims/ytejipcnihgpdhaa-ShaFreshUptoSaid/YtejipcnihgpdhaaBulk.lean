/-
  What the bound of an upto statement gives: a slice's length.
-/
import Derived.Test.YtejipcnihgpdhaaFrame
import Derived.JoinedCond
namespace Go.Proofs.Ytejipcnihgpdhaa

theorem bulk_pos {H : Type} (d : DataW H) : 1 ≤ Rows.uptoBulk d := by
  cases d with
  | lit l => cases l <;> simp [Rows.uptoBulk]
  | nil => simp [Rows.uptoBulk]
  | ptr d => simp [Rows.uptoBulk]
  | slice elems spare => simp [Rows.uptoBulk]
  | agg parts => simp [Rows.uptoBulk]
  | iface t d => simp [Rows.uptoBulk]
  | map entries => simp [Rows.uptoBulk]
  | held h => simp [Rows.uptoBulk]
theorem bulk_len {H : Type} (l : List (DataW H)) : l.length ≤ Rows.uptoBulkAll l := by
  induction l with
  | nil => simp
  | cons x r ih =>
    have := bulk_pos x
    simp only [Rows.uptoBulkAll, List.length_cons]
    omega
theorem bulk_ints {H : Type} (k : IntKind) (zs : List Int) (n : Nat) (h : n ≤ zs.length) : n ≤ Rows.uptoBulk (DataW.slice (H := H) (Go.ChangeShapes.lits k (zs.take n)) (Go.ChangeShapes.lits k (zs.drop n))) := by
  have h1 := bulk_len (Go.ChangeShapes.lits (H := H) k (zs.take n))
  have h2 : (Go.ChangeShapes.lits (H := H) k (zs.take n)).length = n := by simp [Go.ChangeShapes.lits]; omega
  simp only [Rows.uptoBulk]
  omega
theorem bulk_all {H : Type} {l : List (DataW H)} (hk : Rows.uptoSmall H l = true) : Rows.uptoBulkAll l ≤ 1048576 := of_decide_eq_true hk
end Go.Proofs.Ytejipcnihgpdhaa
