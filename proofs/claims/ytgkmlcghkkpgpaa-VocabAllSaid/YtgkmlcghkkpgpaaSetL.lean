/-
  Own lists of elements of several cells: an element set whole, the list made shorter.
-/
import Derived.Test.YtgkmlcghkkpgpaaEl
namespace Go.Proofs.Ytgkmlcghkkpgpaa
open Go.RowKit
set_option linter.unusedVariables false

/-- Cells set one behind the other, from k on. -/
def setAll (w : World) (g k : Nat) : List Value → World
  | [] => w
  | u :: r => setAll (w.setCell ⟨g, k, none⟩ u) g (k + 1) r
def putAll (C : List Value) (k : Nat) : List Value → List Value
  | [] => C
  | u :: r => putAll (C.set k u) (k + 1) r
theorem setAll_heap {g : Nat} {e : TypeId} (us : List Value) : ∀ {w : World} {k : Nat} {C : List Value}, w.heap[g]? = some (.cells C.toArray e (0, 0)) →
    (setAll w g k us).heap[g]? = some (.cells (putAll C k us).toArray e (0, 0)) := by
  induction us with
  | nil => exact fun h => h
  | cons u r ih =>
    intro w k C h
    refine ih ?_
    rw [heap_setCell_same w g k _ _ u h]
    simp
theorem setAll_grown {g : Nat} (us : List Value) : ∀ (w : World) (k : Nat), w.grownBy (setAll w g k us) (some g) := by
  induction us with
  | nil => exact fun w k => ⟨rfl, rfl, rfl, Nat.le_refl _, fun _ _ _ => rfl⟩
  | cons u r ih =>
    intro w k
    obtain ⟨h1, h2, h3, h4, h5⟩ := ih (w.setCell ⟨g, k, none⟩ u) (k + 1)
    refine ⟨h1, h2, h3, Nat.le_trans (show w.heap.size ≤ (w.setCell ⟨g, k, none⟩ u).heap.size by simp) h4, fun i hi hne => ?_⟩
    exact (h5 i (by simpa using hi) hne).trans (heap_setCell_other w ⟨g, k, none⟩ i u (fun e => hne (by simp [e])))
theorem putAll_mid (c : List Value) (us : List Value) : ∀ (a b : List Value), us.length = b.length → putAll (a ++ b ++ c) a.length us = a ++ us ++ c := by
  induction us with
  | nil =>
    intro a b h
    have hb : b = [] := List.eq_nil_of_length_eq_zero h.symm
    subst hb
    rfl
  | cons u r ih =>
    intro a b h
    cases b with
    | nil => simp at h
    | cons y b =>
      have h' : r.length = b.length := by simpa using h
      have e : (a ++ y :: b ++ c).set a.length u = (a ++ [u]) ++ b ++ c := by simp
      have := ih (a ++ [u]) b h'
      rw [← e] at this
      rw [List.length_append, List.length_singleton] at this
      show putAll ((a ++ y :: b ++ c).set a.length u) (a.length + 1) r = _
      rw [this]
      simp

section
variable {P : Program} {α : Type} {K : El P α} {w w' : World} {base B : Nat} {v : Value} {l : List α}
theorem flat_put {l : List α} {k : Nat} (hk : k < l.length) (x : α) : putAll (K.flat l) (k * K.size) (K.enc x) = K.flat (l.set k x) := by
  have e : l = l.take k ++ l[k] :: l.drop (k + 1) := by simp
  have hl : (K.flat (l.take k)).length = k * K.size := by rw [flat_len, List.length_take, Nat.min_eq_left (by omega)]
  have e1 : K.flat l = K.flat (l.take k) ++ K.enc l[k] ++ K.flat (l.drop (k + 1)) := by
    conv => lhs; rw [e]
    rw [flat_app, flat_cons, List.append_assoc]
  have e2 : K.flat (l.set k x) = K.flat (l.take k) ++ K.enc x ++ K.flat (l.drop (k + 1)) := by
    rw [List.set_eq_take_append_cons_drop, if_pos hk, flat_app, flat_cons, List.append_assoc]
  rw [e1, e2, ← hl]
  exact putAll_mid _ _ _ _ (by rw [K.len, K.len])
/-- One element is set, all its cells. -/
theorem OwnL.setAll_ {g c n : Nat} (h : OwnL K w base (.slice (some ⟨g, 0, none⟩) n c) l) {j : Nat} (hj : j < l.length) {x : α} (hx : K.ok x) :
    OwnL K (setAll w g (j * K.size) (K.enc x)) base (.slice (some ⟨g, 0, none⟩) n c) (l.set j x) ∧ w.grownBy (setAll w g (j * K.size) (K.enc x)) (some g) := by
  rcases h.2 with ⟨e, rfl⟩ | ⟨g', s, e, hb, hs, hm, hh⟩
  · cases e
  · injection e with e1 e2 e3
    injection e1 with e1
    injection e1 with e1
    subst e1 e2 e3
    refine ⟨⟨fun y hy => ?_, .inr ⟨g, s, by rw [List.length_set], hb, hs, by rw [List.length_set]; exact hm, ?_⟩⟩, setAll_grown _ _ _⟩
    · rcases List.mem_or_eq_of_mem_set hy with h3 | rfl
      · exact h.1 y h3
      · exact hx
    · rw [setAll_heap (K.enc x) hh, ← List.set_append_left _ _ hj, flat_put (by simp; omega) x]
/-- The same slice, shorter: what stood behind is spare room. -/
theorem OwnL.take_ {g c n : Nat} (h : OwnL K w base (.slice (some ⟨g, 0, none⟩) n c) l) {k : Nat} (hk : k ≤ l.length) : OwnL K w base (.slice (some ⟨g, 0, none⟩) k c) (l.take k) := by
  rcases h.2 with ⟨e, rfl⟩ | ⟨g', s, e, hb, hs, hm, hh⟩
  · cases e
  · injection e with e1 e2 e3
    injection e1 with e1
    injection e1 with e1
    subst e1 e2 e3
    have hl : (l.take k).length = k := by rw [List.length_take, Nat.min_eq_left hk]
    have hl2 : (l.take k).length + (l.drop k ++ s).length = l.length + s.length := by rw [hl, List.length_append, List.length_drop]; omega
    refine ⟨fun y hy => h.1 y (List.mem_of_mem_take hy), .inr ⟨g, l.drop k ++ s, by rw [hl2, hl], hb, fun y hy => ?_, by rw [hl2]; exact hm, ?_⟩⟩
    · rcases List.mem_append.1 hy with hy | hy
      · exact h.1 y (List.mem_of_mem_drop hy)
      · exact hs y hy
    · rw [hh, ← List.append_assoc, List.take_append_drop]
end
end Go.Proofs.Ytgkmlcghkkpgpaa
