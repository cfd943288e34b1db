/-
  Words for memory: a slice of bytes that reads as a list of numbers, and what a call leaves behind.
-/
import Derived.Test.YtdmomnpmicagcaaProg
import Derived.Test.YtdmomnpmicagcaaMath
import Derived.WalkKit
import Derived.WalkLawsBesides
import Derived.WalkSpells
import Derived.Outline
import Derived.Lib.Hide
namespace Go.Proofs.Ytdmomnpmicagcaa
open Go.RowKit
set_option linter.unusedVariables false

/-- The slice with address A and length l.length holds the bytes l, in a block below B. -/
def Bts (w : World) (B : Nat) (A : Option Addr) (l : List Nat) : Prop :=
  (∀ x ∈ l, x < 256) ∧ (0 < l.length → ∃ b off, A = some ⟨b, off, none⟩ ∧ b < B ∧ ∀ j c, l[j]? = some c → w.cell? ⟨b, off + j, none⟩ = some (.int .u8 (c : Nat)))

section
variable {w w' : World} {B B' : Nat} {A : Option Addr} {l : List Nat}
theorem Bts.nil_ (w : World) (B : Nat) (A : Option Addr) : Bts w B A [] := ⟨by simp, by simp⟩
theorem Bts.at_ (h : Bts w B A l) {k : Nat} (hk : k < l.length) :
    ∃ b off c, A = some ⟨b, off, none⟩ ∧ b < B ∧ c < 256 ∧ l.drop k = c :: l.drop (k + 1) ∧ w.cell? ⟨b, off + k, none⟩ = some (.int .u8 (c : Nat)) := by
  obtain ⟨b, off, e, hb, hc⟩ := h.2 (by omega)
  exact ⟨b, off, l[k], e, hb, h.1 _ (List.getElem_mem hk), List.drop_eq_getElem_cons hk, hc k _ (List.getElem?_eq_getElem hk)⟩
theorem Bts.below (h : Bts w B A l) (hb : Below B' w w') (hB : B ≤ B') : Bts w' B A l :=
  ⟨h.1, fun hn => by
    obtain ⟨b, off, e, hl, hc⟩ := h.2 hn
    exact ⟨b, off, e, hl, fun j c hj => (hb.cell (p := ⟨b, off + j, none⟩) (by show b < B'; omega)).trans (hc j c hj)⟩⟩
theorem Bts.mono (h : Bts w B A l) (hB : B ≤ B') : Bts w B' A l :=
  ⟨h.1, fun hn => by
    obtain ⟨b, off, e, hl, hc⟩ := h.2 hn
    exact ⟨b, off, e, by omega, hc⟩⟩
end

/-- A call that answers this bool, and turns nothing that was there. -/
def IsBool (b : Bool) (w : World) (e : Ending) (w' : World) : Prop := e = .returned (.bool b) ∧ Below w.heap.size w w'
end Go.Proofs.Ytdmomnpmicagcaa
