/-
  The kind of elements bool: slices of bool.
-/
import Derived.Test.YtggpldghdaggfaaEl
import Derived.Test.YtggpldghdaggfaaProg
namespace Go.Proofs.Ytggpldghdaggfaa
open Go.RowKit
set_option linter.unusedVariables false

def bK : El Try.prog Bool where
  e := 4
  s := 51
  size := 1
  bytes := 1
  zero := .bool false
  z := false
  enc := fun x => [.bool x]
  ok := fun _ => True
  len := fun _ => rfl
  one := fun x u hu => by simp at hu; subst hu; rfl
  okz := trivial
  encz := rfl
  pos := by decide
  under := Try.underlying51
  info := by kernel_rfl

section
variable {w : World} {base B n c : Nat} {A : Option Addr} {l : List Bool}
theorem Lv.bool_ (h : Lv bK w B (.slice A n c) l) {k : Nat} (hk : k < l.length) :
    ∃ b off x, A = some ⟨b, off, none⟩ ∧ b < B ∧ l[k]? = some x ∧ w.cell? ⟨b, off + k, none⟩ = some (.bool x) := by
  obtain ⟨b, off, x, h1, h2, _, h4, h5⟩ := h.at_ hk
  have h6 := h5 0 (.bool x) rfl
  refine ⟨b, off, x, h1, h2, h4, ?_⟩
  have e : off + (k * bK.size + 0) = off + k := by show off + (k * 1 + 0) = _; omega
  rw [e] at h6
  exact h6
theorem OwnL.bool_ (h : OwnL bK w base (.slice A n c) l) {k : Nat} (hk : k < l.length) :
    ∃ g x, A = some ⟨g, 0, none⟩ ∧ n = l.length ∧ base ≤ g ∧ l[k]? = some x ∧ w.cell? ⟨g, k, none⟩ = some (.bool x) ∧ w.frozen? ⟨g, k, none⟩ = false := by
  obtain ⟨g, x, h1, h2, h3, _, h5, h6, h7⟩ := h.at_ hk
  have h8 := h6 0 (.bool x) rfl
  refine ⟨g, x, h1, h2, h3, h5, ?_, h7 k⟩
  have e : k * bK.size + 0 = k := by show k * 1 + 0 = _; omega
  rw [e] at h8
  exact h8
theorem OwnL.setBool_ {g : Nat} (h : OwnL bK w base (.slice (some ⟨g, 0, none⟩) n c) l) {j : Nat} (hj : j < l.length) {x : Bool} :
    OwnL bK (w.setCell ⟨g, j, none⟩ (.bool x)) base (.slice (some ⟨g, 0, none⟩) n c) (l.set j x) ∧ w.grownBy (w.setCell ⟨g, j, none⟩ (.bool x)) (some g) := h.set_ rfl hj trivial rfl
end
end Go.Proofs.Ytggpldghdaggfaa
