/-
  SetC: One cell of an element of several cells is set, in an own list.
-/
import Derived.Test.YtglkhgchbnkekaaPk02
namespace Go.Proofs.Ytglkhgchbnkekaa
open Go.RowKit
set_option linter.unusedVariables false

section
variable {P : Program} {α : Type} {K : El P α} {w : World} {base : Nat} {l : List α}
theorem flat_setc {l : List α} {i j : Nat} {x x' : α} {u : Value} (hi : l[i]? = some x) (hj : j < K.size) (hx : K.enc x' = (K.enc x).set j u) : (K.flat l).set (i * K.size + j) u = K.flat (l.set i x') := by
  induction l generalizing i with
  | nil => simp at hi
  | cons y r ih =>
    rw [flat_cons]
    cases i with
    | zero =>
      simp at hi
      subst hi
      rw [Nat.zero_mul, Nat.zero_add, List.set_append_left _ _ (by rw [K.len]; exact hj), List.set_cons_zero, flat_cons, hx]
    | succ i =>
      simp at hi
      rw [List.set_append_right _ _ (by rw [K.len, Nat.succ_mul]; omega), K.len, List.set_cons_succ, flat_cons, ← ih hi]
      congr 2
      rw [Nat.succ_mul]
      omega
theorem OwnL.setc_ {g c n : Nat} (h : OwnL K w base (.slice (some ⟨g, 0, none⟩) n c) l) {i j : Nat} {x x' : α} {u : Value} (hi : l[i]? = some x) (hj : j < K.size) (hx : K.enc x' = (K.enc x).set j u) (hok : K.ok x') :
    OwnL K (w.setCell ⟨g, i * K.size + j, none⟩ u) base (.slice (some ⟨g, 0, none⟩) n c) (l.set i x') ∧ w.grownBy (w.setCell ⟨g, i * K.size + j, none⟩ u) (some g) := by
  rcases h.2 with ⟨e, rfl⟩ | ⟨g', s, e, hb, hs, hm, hh⟩
  · cases e
  · injection e with e1 e2 e3
    injection e1 with e1
    injection e1 with e1
    subst e1 e2 e3
    have hil : i < l.length := (List.getElem?_eq_some_iff.1 hi).1
    refine ⟨⟨fun y hy => ?_, .inr ⟨g, s, by rw [List.length_set], hb, hs, by rw [List.length_set]; exact hm, ?_⟩⟩, ⟨rfl, rfl, rfl, by simp, fun k _ hk => heap_setCell_other w ⟨g, _, none⟩ k u (fun e => hk (by simp [e]))⟩⟩
    · rcases List.mem_or_eq_of_mem_set hy with h3 | rfl
      · exact h.1 y h3
      · exact hok
    · rw [heap_setCell_same w g _ _ _ u hh, ← List.set_append_left _ _ hil, ← flat_setc (x := x) (by rw [List.getElem?_append_left hil]; exact hi) hj hx]
      simp
end
end Go.Proofs.Ytglkhgchbnkekaa
