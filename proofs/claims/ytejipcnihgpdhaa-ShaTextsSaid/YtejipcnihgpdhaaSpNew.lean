/-
  sha.New, (*Hash).Write, Sum, Copy.
-/
import Derived.Test.YtejipcnihgpdhaaSpHashM
import Derived.Test.YtejipcnihgpdhaaSpPress
namespace Go.Proofs.Ytejipcnihgpdhaa
open Go.RowKit
set_option linter.unusedVariables false

/-- At g lies a hash to which these bytes were written. -/
def HashAt (w : World) (g : Nat) (l : List Nat) : Prop := ∃ s r, Sh.HS s r l ∧ Rw w g 50 (hc true s r l.length)
theorem HashAt.lt {w : World} {g : Nat} {l : List Nat} (h : HashAt w g l) : g < w.heap.size := by obtain ⟨s, r, _, h⟩ := h; exact h.lt
theorem HashAt.below {w w' : World} {g : Nat} {l : List Nat} (h : HashAt w g l) {B : Nat} (hb : Below B w w') (hB : g < B) : HashAt w' g l := by
  obtain ⟨s, r, h1, h2⟩ := h
  exact ⟨s, r, h1, h2.below hb hB⟩
def z64 : List Nat := List.replicate 64 0
def newCells : Array Value := hc true Sh.begin z64 0

set_option maxHeartbeats 1000000 in
set_option maxRecDepth 100000 in
theorem new_any (w : World) : Calls Try.prog 22 #[] w (fun e w' => ∃ g, e = .returned (.pointer (some ⟨g, 0, none⟩)) ∧ w.heap.size ≤ g ∧ HashAt w' g [] ∧ Below w.heap.size w w') := by
  go_enter Try.func22, Try.ntmps22
  go_wp2_with (first
    | (go_at_call 39; (with_reducible refine (beginning_any _).mono ?_); rintro e w1 ⟨rfl, hb⟩; have HB := Lib.hid hb; clear hb)
    | (refine wpList_build_at rfl _ _ rfl newCells (by kernel_rfl) ?_))
  go_ret
  exact ⟨w1.heap.size, rfl, HB.out.size, ⟨Sh.begin, z64, Sh.HS.new rfl (by unfold z64; decide), Rw.new _ _ _⟩, HB.out.alloc HB.out.size _⟩
end Go.Proofs.Ytejipcnihgpdhaa
