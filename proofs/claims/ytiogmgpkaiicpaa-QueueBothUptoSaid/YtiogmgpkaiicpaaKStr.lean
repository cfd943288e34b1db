/-
  The kind of elements string: slices of strings.
-/
import Derived.Test.YtiogmgpkaiicpaaOpenL
import Derived.Test.YtiogmgpkaiicpaaProg
namespace Go.Proofs.Ytiogmgpkaiicpaa
open Go.ChangeShapes Go.WideShapes Go.RowKit
set_option linter.unusedVariables false

def sK : El Try.prog ByteArray where
  e := 9
  s := 52
  size := 1
  bytes := 16
  zero := .string ByteArray.empty
  z := ByteArray.empty
  enc := fun x => [.string x]
  ok := fun x => x.size ≤ maxLen
  len := fun _ => rfl
  one := fun x u hu => by simp at hu; subst hu; rfl
  okz := by simp [maxLen]
  encz := rfl
  pos := by decide
  under := Try.underlying52
  info := by kernel_rfl

section
variable {w : World} {base B n c : Nat} {A : Option Addr} {l : List ByteArray}
theorem Lv.str_ (h : Lv sK w B (.slice A n c) l) {k : Nat} (hk : k < l.length) :
    ∃ b off x, A = some ⟨b, off, none⟩ ∧ b < B ∧ x.size ≤ maxLen ∧ l[k]? = some x ∧ w.cell? ⟨b, off + k, none⟩ = some (.string x) := by
  obtain ⟨b, off, x, h1, h2, h3, h4, h5⟩ := h.at_ hk
  have h6 := h5 0 (.string x) rfl
  refine ⟨b, off, x, h1, h2, h3, h4, ?_⟩
  have e : off + (k * sK.size + 0) = off + k := by show off + (k * 1 + 0) = _; omega
  rw [e] at h6
  exact h6
end
theorem strs_in {H : Type} {enc : TypeId × Value → H} {w : World} {sp : Nat → Bool} {held : Bool} {fuel : Nat} {a : Option Addr} {len cap : Nat} {x : DataW H × List MemPlace} (h : DataW.trod enc Try.prog w 0 sp held fuel 52 [.slice a len cap] = some x) :
    ∃ l : List ByteArray, l.length = len ∧ Lv sK w w.heap.size (.slice a len cap) l :=
  lv_open sK (by kernel_rfl) (fun fuel cs x h => by
    obtain ⟨s, rfl, _, hs⟩ := DataW.trod_string Try.underlying9 h
    exact ⟨s, hs, rfl⟩) h
end Go.Proofs.Ytiogmgpkaiicpaa
