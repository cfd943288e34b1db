/-
  Rows of bytes that the call collects in a slice of its own, whose room was made ahead; leb.PutList.
-/
import Derived.Test.YtapedjcchcgoeaaPutListM
import Derived.Test.YtapedjcchcgoeaaWords
import Derived.Test.YtapedjcchcgoeaaJoin
import Derived.Test.YtapedjcchcgoeaaPut
namespace Go.Proofs.Ytapedjcchcgoeaa
open Go.RowKit
set_option linter.unusedVariables false

theorem info23 : (Try.prog.info? 28).map (fun i => (i.zero, i.size, i.bytes)) = some (some (.slice none 0 0), 1, 24) := by kernel_rfl

/-- The slice in block g with room for N rows holds the rows us, of which each holds the bytes in ls, and lies in a block above g. -/
def RowsOwn (w : World) (g N : Nat) (us : List Value) (ls : List (List Nat)) : Prop :=
  us.length = ls.length ∧ w.ownsRow g 28 1 (.slice (some ⟨g, 0, none⟩) us.length N) us.length us ∧ ∀ (j : Nat) (u : Value) (l : List Nat), us[j]? = some u → ls[j]? = some l → Bv w w.heap.size u l ∧ ∀ k, u.ownBlock = some k → g < k

theorem Bv.kept_ {w w' : World} {B : Nat} {v : Value} {l : List Nat} {row : Option Nat} (h : Bv w B v l) (hg : w.grownBy w' row) (hB : B ≤ w.heap.size) (hne : ∀ k, v.ownBlock = some k → row ≠ some k) : Bv w' B v l := by
  obtain ⟨A, c, rfl, h1, h2, h3, h4, h5⟩ := h
  refine ⟨A, c, rfl, h1, h2, h3, h4, fun hp => ?_⟩
  obtain ⟨b, off, rfl, hb, hc⟩ := h5 hp
  refine ⟨b, off, rfl, hb, fun j x hj => ?_⟩
  refine (World.cell?_of_block (hg.block b (by omega) (fun e => hne b rfl e.symm))).trans (hc j x hj)

section
variable {w w' : World} {g N : Nat} {us : List Value} {ls : List (List Nat)}
theorem RowsOwn.lt_ (h : RowsOwn w g N us ls) : g < w.heap.size := (h.2.1.lt g rfl).2
theorem RowsOwn.below_ (h : RowsOwn w g N us ls) (hb : Below w.heap.size w w') : RowsOwn w' g N us ls := by
  have hlt := h.lt_
  refine ⟨h.1, ?_, fun j u l hu hl => ?_⟩
  · refine ⟨h.2.1.1, ?_⟩
    rcases h.2.1.2 with hn | ⟨g', cap, cur, e, hg, hh, hr⟩
    · exact .inl hn
    · refine .inr ⟨g', cap, cur, e, hg, ?_, hr⟩
      have : g' < w.heap.size := (Array.getElem?_eq_some_iff.1 hh).1
      rw [hb.block g' this]
      exact hh
  · obtain ⟨h1, h2⟩ := h.2.2 j u l hu hl
    exact ⟨(h1.below_ hb (Nat.le_refl _)).mono_ hb.size, h2⟩
theorem RowsOwn.alloc_ (h : RowsOwn w g N us ls) (o : Obj) : RowsOwn (w.alloc o) g N us ls := h.below_ ((Below.refl _ _).alloc (Nat.le_refl _) o)
theorem RowsOwn.push_ (h : RowsOwn w g N us ls) {u : Value} {x : List Nat} (hu : Bv w w.heap.size u x) (hk : ∀ k, u.ownBlock = some k → g < k) (ho : w'.ownsRow g 28 1 (.slice (some ⟨g, 0, none⟩) (us.length + 1) N) (us.length + 1) (us ++ [u])) (hg : w.grownBy w' (some g)) :
    RowsOwn w' g N (us ++ [u]) (ls ++ [x]) := by
  refine ⟨by simp [h.1], by simpa using ho, fun j u' l' hu' hl' => ?_⟩
  have keep : ∀ {v : Value} {y : List Nat}, Bv w w.heap.size v y → (∀ k, v.ownBlock = some k → g < k) → Bv w' w'.heap.size v y := fun hv hn =>
    (hv.kept_ hg (Nat.le_refl _) (fun k hk e => by have := hn k hk; injection e with e; omega)).mono_ hg.size
  by_cases hj : j < us.length
  · rw [List.getElem?_append_left hj] at hu'
    rw [List.getElem?_append_left (by rw [← h.1]; exact hj)] at hl'
    obtain ⟨h1, h2⟩ := h.2.2 j u' l' hu' hl'
    exact ⟨keep h1 h2, h2⟩
  · have hje : j = us.length := by
      have := (List.getElem?_eq_some_iff.1 hu').1
      simp at this
      omega
    subst hje
    rw [List.getElem?_append_right (Nat.le_refl _)] at hu'
    rw [h.1, List.getElem?_append_right (Nat.le_refl _)] at hl'
    simp at hu' hl'
    subst hu' hl'
    exact ⟨keep hu hk, hk⟩
theorem RowsOwn.rws_ (h : RowsOwn w g N us ls) : Rws w w.heap.size (.slice (some ⟨g, 0, none⟩) ls.length N) ls := by
  have hown := h.2.1
  rcases h.2.1.2 with ⟨e, _⟩ | ⟨g', cap, cur, e, _, hh, hn, hc, _, _⟩
  · cases e
  · injection e with e1 e2 e3
    subst e3
    refine ⟨g, 0, N, rfl, h.lt_, by rw [← h.1]; exact hn, hc, fun j l hl => ?_⟩
    have hj : j < us.length := by rw [h.1]; exact (List.getElem?_eq_some_iff.1 hl).1
    obtain ⟨h1, h2⟩ := h.2.2 j _ l (List.getElem?_eq_getElem hj) hl
    refine ⟨us[j], ?_, h1⟩
    rw [Nat.zero_add, hown.cellAt j (by omega), List.getElem?_eq_getElem hj]
end

/-- What one row more does. -/
theorem wpList_push (w : World) {ops : Array Oper} {rest : List Oper} {o : Oper} {a : Act} {Q : Exit → Act → World → Prop} (hgd : o.guard = none) (s t : Operand)
    (ho : o.op = .call { callee := .builtin .append, args := #[s, t], argTypes := #[60, 60] }) (hty : o.type = 60)
    (g N : Nat) (us : List Value) (ls : List (List Nat)) (A : Option Addr) (n c : Nat) (x : List Nat) (hs : a.eval s = .slice (some ⟨g, 0, none⟩) us.length N)
    (hx : a.eval t = .slice (some ⟨w.heap.size, 0, none⟩) 1 1) (h : RowsOwn w g N us ls) (hu : Bv w w.heap.size (.slice A n c) x) (hk : ∀ k, (Value.slice A n c).ownBlock = some k → g < k) (hroom : us.length + 1 ≤ N)
    (hK : ∀ w', RowsOwn w' g N (us ++ [.slice A n c]) (ls ++ [x]) → (w.alloc (.cells #[.slice A n c] 28)).grownBy w' (some g) → wpList Try.prog ops Q rest (a.put o.dst (.slice (some ⟨g, 0, none⟩) (us.length + 1) N)) w') :
    wpList Try.prog ops Q (o :: rest) a (w.alloc (.cells #[.slice A n c] 28)) := by
  obtain ⟨i0, hi, hz0, hz1, hz2⟩ := info_parts info23
  have h1 := h.alloc_ (.cells #[.slice A n c] 28)
  refine wpList_append_fits_any _ hgd s t 60 ho g 28 i0 1 Try.underlying60 hi hz1 g us.length N us hs h1.2.1 (some ⟨w.heap.size, 0, none⟩) 1 1 [.slice A n c] hx rfl (by intro e; cases e) ?_ ?_ hroom ?_
  · intro ad e j u hj
    injection e with e
    subst e
    match j, hj with
    | 0, hj =>
      simp at hj
      subst hj
      show (w.alloc _).cell? ⟨w.heap.size, 0, none⟩ = _
      rw [cell_of_row _ w.heap.size 0 #[.slice A n c] 28 (0, 0) (heap_alloc_new w _)]; rfl
    | j + 1, hj => simp at hj
  · intro u hu'
    simp at hu'
    subst hu'
    rfl
  · intro w' ho' hg'
    exact hK w' (h1.push_ ((hu.alloc_ (Nat.le_refl _) _).mono_ (by simp)) hk ho' hg') hg'
end Go.Proofs.Ytapedjcchcgoeaa
