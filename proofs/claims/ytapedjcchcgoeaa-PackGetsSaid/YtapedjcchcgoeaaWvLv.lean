/-
  Numbers in two words: Wv and Lv wK; full bytes of a call's own as a list.
-/
import Derived.Test.YtapedjcchcgoeaaBvLv
import Derived.Test.YtapedjcchcgoeaaWords
import Derived.Test.YtapedjcchcgoeaaKWord
namespace Go.Proofs.Ytapedjcchcgoeaa
open Go.RowKit
set_option linter.unusedVariables false

theorem words_flat (l : List Nat) : wK.flat l = l.map u64v := by
  show l.flatMap (fun x => [u64v x]) = l.map u64v
  induction l with
  | nil => rfl
  | cons x r ih => rw [List.flatMap_cons, ih]; rfl
theorem Lv.wv_ {w : World} {B : Nat} {v : Value} {l : List Nat} (h : Lv wK w B v l) : Wv w B v l := by
  obtain ⟨A, c, e, h1, h2, h3, h4, h5⟩ := h
  refine ⟨A, c, e, h1, h2, h3, fun x hx => h4 x hx, fun hp => ?_⟩
  obtain ⟨b, off, hA, hb, hc⟩ := h5 hp
  refine ⟨b, off, hA, hb, fun j x hj => hc j (u64v x) ?_⟩
  rw [words_flat l, List.getElem?_map, hj]
  rfl
theorem OwnB.full_l {w : World} {base g : Nat} {l : List Nat} (h : OwnB w base (.slice (some ⟨g, 0, none⟩) l.length l.length) l) : OwnL yK w base (.slice (some ⟨g, 0, none⟩) l.length l.length) l := by
  obtain ⟨hb, hl, ⟨e, h0⟩ | ⟨g', cap, cur, e, hg, hh, hn, hc, hs, ht⟩⟩ := h
  · cases e
  · simp only [Value.slice.injEq, Option.some.injEq, Addr.mk.injEq] at e
    obtain ⟨⟨rfl, _⟩, _, rfl⟩ := e
    refine ⟨hb, .inr ⟨g, [], rfl, hg, by simp, hc, ?_⟩⟩
    rw [List.append_nil, octs_flat, ← ht, hh]
    congr 2
    rw [List.take_of_length_le (by simp; omega)]
end Go.Proofs.Ytapedjcchcgoeaa
