/-
  Bytes in two words: Bv (layers 1 to 4) and Lv yK.
-/
import Derived.Test.YtdmomnpmicagcaaApp
import Derived.Test.YtdmomnpmicagcaaKByte
namespace Go.Proofs.Ytdmomnpmicagcaa
open Go.RowKit
set_option linter.unusedVariables false

theorem octs_flat (l : List Nat) : yK.flat l = l.map u8 := by
  show l.flatMap (fun x => [u8 x]) = l.map u8
  induction l with
  | nil => rfl
  | cons x r ih => rw [List.flatMap_cons, ih]; rfl
theorem Bv.lv_ {w : World} {B : Nat} {v : Value} {l : List Nat} (h : Bv w B v l) : Lv yK w B v l := by
  obtain ⟨A, c, e, h1, h2, h3, h4, h5⟩ := h
  refine ⟨A, c, e, h1, h2, h3, h4, fun hp => ?_⟩
  obtain ⟨b, off, hA, hb, hc⟩ := h5 hp
  refine ⟨b, off, hA, hb, fun j u hj => ?_⟩
  have hf := octs_flat l
  rw [hf, List.getElem?_map] at hj
  cases hx : l[j]? with
  | none => rw [hx] at hj; cases hj
  | some x =>
    rw [hx] at hj
    cases hj
    exact hc j x hx
theorem Lv.bv_ {w : World} {B : Nat} {v : Value} {l : List Nat} (h : Lv yK w B v l) : Bv w B v l := by
  obtain ⟨A, c, e, h1, h2, h3, h4, h5⟩ := h
  refine ⟨A, c, e, h1, h2, h3, h4, fun hp => ?_⟩
  obtain ⟨b, off, hA, hb, hc⟩ := h5 hp
  refine ⟨b, off, hA, hb, fun j x hj => hc j (u8 x) ?_⟩
  have hf := octs_flat l
  rw [hf, List.getElem?_map, hj]
  rfl
end Go.Proofs.Ytdmomnpmicagcaa
