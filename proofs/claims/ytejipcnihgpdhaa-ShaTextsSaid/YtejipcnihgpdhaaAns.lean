/-
  Words for what calls answer: a number; bytes and an error.
-/
import Derived.Test.YtejipcnihgpdhaaApp
namespace Go.Proofs.Ytejipcnihgpdhaa
open Go.RowKit

/-- A call that answers this number of Go's type int, and turns nothing that was there. -/
def IsInt (n : Nat) (w : World) (e : Ending) (w' : World) : Prop := e = .returned (.int .i64 (n : Nat)) ∧ Below w.heap.size w w'
/-- A call that answers these bytes in new memory, with spare room or without, and an error, and turns nothing that was there. -/
def IsBE (r : List Nat × Nat) (w : World) (e : Ending) (w' : World) : Prop :=
  ∃ A c, e = .returned (.tuple #[.slice A r.1.length c, .int .i64 r.2]) ∧ OwnB w' w.heap.size (.slice A r.1.length c) r.1 ∧ Below w.heap.size w w'
/-- The same, without spare room. -/
def IsBEF (r : List Nat × Nat) (w : World) (e : Ending) (w' : World) : Prop :=
  ∃ A, e = .returned (.tuple #[.slice A r.1.length r.1.length, .int .i64 r.2]) ∧ OwnB w' w.heap.size (.slice A r.1.length r.1.length) r.1 ∧ Below w.heap.size w w'
theorem IsBE.of {w w' : World} {r : List Nat × Nat} {y : List Nat} {e c : Nat} {A : Option Addr} (h : r = (y, e)) (ho : OwnB w' w.heap.size (.slice A y.length c) y) (hb : Below w.heap.size w w') :
    IsBE r w (.returned (.tuple #[.slice A y.length c, .int .i64 (e : Nat)])) w' := by subst h; exact ⟨A, c, rfl, ho, hb⟩
theorem IsBEF.of {w w' : World} {r : List Nat × Nat} {y : List Nat} {e : Nat} {A : Option Addr} (h : r = (y, e)) (ho : OwnB w' w.heap.size (.slice A y.length y.length) y) (hb : Below w.heap.size w w') :
    IsBEF r w (.returned (.tuple #[.slice A y.length y.length, .int .i64 (e : Nat)])) w' := by subst h; exact ⟨A, rfl, ho, hb⟩
theorem IsBE.none_ {w : World} {r : List Nat × Nat} {e : Nat} (h : r = ([], e)) : IsBE r w (.returned (.tuple #[.slice none 0 0, .int .i64 (e : Nat)])) w := by
  subst h; exact ⟨none, 0, rfl, OwnB.nil_ _ _, Below.refl _ _⟩
theorem IsBEF.none_ {w : World} {r : List Nat × Nat} {e : Nat} (h : r = ([], e)) : IsBEF r w (.returned (.tuple #[.slice none 0 0, .int .i64 (e : Nat)])) w := by
  subst h; exact ⟨none, rfl, OwnB.nil_ _ _, Below.refl _ _⟩

end Go.Proofs.Ytejipcnihgpdhaa
