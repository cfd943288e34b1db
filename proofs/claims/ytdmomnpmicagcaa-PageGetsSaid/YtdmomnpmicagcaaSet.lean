/-
  One byte of a slice of the call's own: read, and set.
-/
import Derived.Test.YtdmomnpmicagcaaApp
namespace Go.Proofs.Ytdmomnpmicagcaa
open Go.RowKit
set_option linter.unusedVariables false

theorem OwnB.set_ {w : World} {base g c : Nat} {l : List Nat} (h : OwnB w base (.slice (some ⟨g, 0, none⟩) l.length c) l) (j : Nat) {x : Nat} (hx : x < 256) :
    OwnB (w.setCell ⟨g, j, none⟩ (.int .u8 (x : Nat))) base (.slice (some ⟨g, 0, none⟩) (l.set j x).length c) (l.set j x) ∧ w.grownBy (w.setCell ⟨g, j, none⟩ (.int .u8 (x : Nat))) (some g) := by
  obtain ⟨h1, h2⟩ := h.2.stored j (.int .u8 (x : Nat))
  refine ⟨⟨fun y hy => ?_, ?_⟩, h2⟩
  · rcases List.mem_or_eq_of_mem_set hy with h3 | rfl
    · exact h.1 y h3
    · exact hx
  · rw [List.length_set]
    have e : (l.set j x).map u8 = (l.map u8).set j (.int .u8 (x : Nat)) := by rw [List.map_set]; rfl
    rw [e]
    exact h1

theorem xor_u8_nat (a b : Nat) (ha : a < 256) (hb : b < 256) : bits .xor .u8 (a : Int) (b : Int) = ((a ^^^ b : Nat) : Int) := by
  have hx : a ^^^ b < 2 ^ 8 := Nat.xor_lt_two_pow (by omega) (by omega)
  have h1 : (BitVec.ofInt 8 (a : Int)).toNat = a := by
    rw [BitVec.ofInt_natCast, BitVec.toNat_ofNat]; exact Nat.mod_eq_of_lt (by omega)
  have h2 : (BitVec.ofInt 8 (b : Int)).toNat = b := by
    rw [BitVec.ofInt_natCast, BitVec.toNat_ofNat]; exact Nat.mod_eq_of_lt (by omega)
  show IntKind.u8.wrap ((BitVec.ofInt 8 (a : Int) ^^^ BitVec.ofInt 8 (b : Int)).toNat : Int) = _
  rw [BitVec.toNat_xor, h1, h2, IntKind.wrap_u8]
  omega
theorem OwnB.at_ {w : World} {base c n : Nat} {A : Option Addr} {l : List Nat} (h : OwnB w base (.slice A n c) l) {k : Nat} (hk : k < l.length) :
    ∃ g x, A = some ⟨g, 0, none⟩ ∧ base ≤ g ∧ l.getD k 0 = x ∧ x < 256 ∧ w.cell? ⟨g, k, none⟩ = some (.int .u8 (x : Nat)) ∧ w.frozen? ⟨g, k, none⟩ = false := by
  rcases h.2.2 with ⟨e, h0⟩ | ⟨g, cap, cur, e, hb, _⟩
  · omega
  · injection e with e1 e2 e3
    subst e1 e2
    refine ⟨g, l[k], rfl, hb, by rw [List.getD_eq_getElem?_getD, List.getElem?_eq_getElem hk]; rfl, h.1 _ (List.getElem_mem hk), ?_, h.2.frozenAt k⟩
    rw [h.2.cellAt k (by omega), List.getElem?_map, List.getElem?_eq_getElem hk]; rfl
end Go.Proofs.Ytdmomnpmicagcaa
