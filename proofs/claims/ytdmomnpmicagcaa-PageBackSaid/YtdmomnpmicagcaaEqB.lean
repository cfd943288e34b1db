/-
  Arrays of bytes, compared: their cells.
-/
import Derived.Test.YtdmomnpmicagcaaApp
import Derived.Stop.BytesEq
namespace Go.Proofs.Ytdmomnpmicagcaa
open Go.RowKit
set_option linter.unusedVariables false

theorem cells_u8 {l : List Nat} (h : ∀ x ∈ l, x < 256) : (l.map UInt8.ofNat).map Extern.Stop.cell = l.map u8 := by
  rw [List.map_map]
  refine List.map_congr_left fun x hx => ?_
  have := h x hx
  simp [Extern.Stop.cell, u8]
  omega
theorem u8_inj {l : List Nat} : ∀ {m : List Nat}, (∀ x ∈ l, x < 256) → (∀ x ∈ m, x < 256) → ((l.map UInt8.ofNat == m.map UInt8.ofNat) = decide (l = m)) := by
  induction l with
  | nil => intro m _ _; cases m <;> simp
  | cons x l ih =>
    intro m hl hm
    cases m with
    | nil => simp
    | cons y m =>
      have hx := hl x (by simp)
      have hy := hm y (by simp)
      have e : (UInt8.ofNat x == UInt8.ofNat y) = decide (x = y) := by
        rw [Bool.eq_iff_iff]
        simp [← UInt8.toNat_inj]
        omega
      rw [List.map_cons, List.map_cons, List.cons_beq_cons, ih (fun z hz => hl z (by simp [hz])) (fun z hz => hm z (by simp [hz])), e]
      rw [Bool.eq_iff_iff]
      simp
theorem size_of5 (w : World) : (sizeOf 5).run Try.prog w = .ok 1 w := by
  obtain ⟨i, hi, _, hs, _⟩ := info_parts info5
  simp [sizeOf, typeInfo, hi, hs]
end Go.Proofs.Ytdmomnpmicagcaa
