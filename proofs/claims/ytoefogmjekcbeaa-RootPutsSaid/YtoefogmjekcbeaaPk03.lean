/-
  BEq: bytes.Equal of bytes that are there.
  Row: A block that holds an array, whole: what reads and stores make of it.
  BoxT: A struct's or an array's cells, whole, in a box of a law (of any type).
-/
import Derived.Test.YtoefogmjekcbeaaPk02
import Derived.Test.YtoefogmjekcbeaaProg
import Derived.WalkKit
import Derived.Below
import Derived.Laws.CopyOwn
import Derived.Lib.Hide
import Derived.Deep.RegionHeld
import Derived.Deep.WholeRow
namespace Go.Proofs.Ytoefogmjekcbeaa
open Go.RowKit
set_option linter.unusedVariables false

theorem bstr_eq2 {l m : List Nat} (hl : ∀ x ∈ l, x < 256) (hm : ∀ x ∈ m, x < 256) : ((bstr l).toList == (bstr m).toList) = decide (l = m) := by
  rw [bstr_toList m]; exact bstr_eq hl hm

set_option maxHeartbeats 1000000 in
theorem pbequal_any (u v : Value) (la lb : List Nat) (B : Nat) (w : World) (hu : Lv yK w B u la) (hv : Lv yK w B v lb) (h1 : 0 < la.length) (h2 : 0 < lb.length) :
    Calls Try.prog 25 #[u, v] w (fun e w' => e = .returned (.bool (decide (la = lb))) ∧ w' = w) := by
  have k3 := bstr_eq2 (l := la) (m := lb) hu.ok_ hv.ok_
  obtain ⟨A, c, rfl, -, -, -, -, -⟩ := id hu
  obtain ⟨A', c', rfl, -, -, -, -, -⟩ := id hv
  have k1 := conv_str hu h1
  have k2 := conv_str hv h2
  clear hu hv h1 h2
  go_enter Try.func25, Try.ntmps25
  go_wp2
  go_ret
  exact ⟨rfl, rfl⟩

end Go.Proofs.Ytoefogmjekcbeaa
namespace Go.Proofs.Ytoefogmjekcbeaa
open Go.RowKit
set_option linter.unusedVariables false

/-- Block g holds these cells, of this type. -/
def Rw (w : World) (g : Nat) (t : TypeId) (c : Array Value) : Prop := w.heap[g]? = some (.cells c t (0, 0))
section
variable {w w' : World} {g k : Nat} {t : TypeId} {c : Array Value} {v : Value}
theorem Rw.lt (h : Rw w g t c) : g < w.heap.size := (Array.getElem?_eq_some_iff.1 h).1
theorem Rw.cell (h : Rw w g t c) (k : Nat) : w.cell? ⟨g, k, none⟩ = c[k]? := cell_of_row w g k c t (0, 0) h
theorem Rw.frozen (h : Rw w g t c) (k : Nat) : w.frozen? ⟨g, k, none⟩ = false := by
  have h' : w.heap[g]? = some (.cells c t (0, 0)) := h
  simp [World.frozen?, h']
theorem Rw.below (h : Rw w g t c) {B : Nat} (hb : Below B w w') (hB : g < B) : Rw w' g t c := (hb.block g hB).trans h
theorem Rw.drew (h : Rw w g t c) : Rw w.drew g t c := h
theorem Rw.new (w : World) (t : TypeId) (c : Array Value) : Rw (w.alloc (.cells c t)) w.heap.size t c := heap_alloc_new w _
theorem Rw.at_ {n : Nat} (h : n = w.heap.size) (t : TypeId) (c : Array Value) : Rw (w.alloc (.cells c t)) n t c := by subst h; exact Rw.new w t c
theorem Rw.old (h : Rw w g t c) (o : Obj) : Rw (w.alloc o) g t c := by
  show (w.heap.push o)[g]? = _
  have := h.lt
  rw [Array.getElem?_push, if_neg (by omega)]
  exact h
theorem Rw.set (h : Rw w g t c) (k : Nat) (v : Value) : Rw (w.setCell ⟨g, k, none⟩ v) g t (c.setIfInBounds k v) := by
  unfold Rw
  rw [setCell_eq_setRow w g k c t (0, 0) v h]
  exact setRow_heap w g c _ t (0, 0) h
theorem Rw.setOther (h : Rw w g t c) {g' : Nat} (hg : g ≠ g') (k : Nat) (v : Value) : Rw (w.setCell ⟨g', k, none⟩ v) g t c := by
  unfold Rw World.setCell at *
  simp only [Array.getElem?_modify, Ne.symm hg, if_false]
  exact h
theorem Rw.row (h : Rw w g t c) (c' : Array Value) : Rw (w.setRow g c') g t c' := setRow_heap w g c c' t (0, 0) h
theorem Rw.rowOther (h : Rw w g t c) {g' : Nat} (hg : g ≠ g') (c' : Array Value) : Rw (w.setRow g' c') g t c := (setRow_other w g' g c' hg).trans h
end
end Go.Proofs.Ytoefogmjekcbeaa
namespace Go.Proofs.Ytoefogmjekcbeaa
open Go.RowKit
set_option linter.unusedVariables false
/-- Cells of type T in a box below B. -/
def BxT (T : TypeId) (w : World) (B g : Nat) (C : Array Value) : Prop := g < B ∧ Rw w g T C
section
variable {T : TypeId} {w w' W : World} {B B' g : Nat} {C N : Array Value}
theorem BxT.below_ (h : BxT T w B g C) (hb : Below B' w w') (hB : B ≤ B') : BxT T w' B g C := ⟨h.1, h.2.below hb (Nat.lt_of_lt_of_le h.1 hB)⟩
theorem BxT.mono_ (h : BxT T w B g C) (hB : B ≤ B') : BxT T w B' g C := ⟨Nat.lt_of_lt_of_le h.1 hB, h.2⟩
theorem bxt_stored (hX : (w.alloc (.cells N T)).setRow w.heap.size C = W) : BxT T W W.heap.size w.heap.size C ∧ Below w.heap.size w W := by
  subst hX
  have h1 : Rw (w.alloc (.cells N T)) w.heap.size T N := Rw.new w _ _
  exact ⟨⟨(h1.row C).lt, h1.row C⟩, below_setRow ((Below.refl _ _).alloc (Nat.le_refl _) _) (Nat.le_refl _) _⟩
theorem bxt_new (hW : w.alloc (.cells C T) = W) : BxT T W W.heap.size w.heap.size C ∧ Below w.heap.size w W := by
  subst hW
  exact ⟨⟨by simp, Rw.new w _ _⟩, (Below.refl _ _).alloc (Nat.le_refl _) _⟩
end
/-- A load of a whole row that is guarded, where the guard lets it. -/
theorem wpList_load_row_onT {P : Program} {ops : Array Oper} {rest : List Oper} {o : Oper} {a : Act} {w : World} {Q : Exit → Act → World → Prop} (hw : Region.wanted o (yielded ops a.tmps) = true) (ty : TypeId) (x : Operand) (ho : o.op = .load ty x)
    (g : Nat) (hx : a.eval x = .pointer (some ⟨g, 0, none⟩)) (t : TypeId) (cs : Array Value) (fr : Nat × Nat) (d : TypeDesc)
    (hg : w.heap[g]? = some (.cells cs t fr)) (hu : P.underlying ty = some d) (hd : (match d with | .struct _ | .array _ _ => true | _ => false) = true) (hi : (P.info? ty).map (·.size) = some cs.size)
    (h : wpList P ops Q rest (a.put o.dst (.agg cs)) w) : wpList P ops Q (o :: rest) a w :=
  wpList_step fun K hK => by
    rw [if_pos hw]
    exact wp_load_row ty x ho g hx t cs fr d hg hu hd hi (hK _ _ h)
theorem wpList_build_atT {P : Program} {ops : Array Oper} {rest : List Oper} {o : Oper} {a : Act} {w : World} {Q : Exit → Act → World → Prop} (hg : o.guard = none) (t : TypeId) (parts : Array (Nat × Operand)) (ho : o.op = .build t parts) (c : Array Value)
    (hf : P.built t (parts.map fun (i, x) => (i, a.eval x)).toList = some c)
    (h : wpList P ops Q rest (a.put o.dst (.agg c)) w) : wpList P ops Q (o :: rest) a w :=
  wpList_build hg t parts ho (by rw [hf]; rfl) (by rw [hf]; exact h)
/-- A struct that is built, as an operation of a region that draws. -/
theorem exec_build {P : Program} {a : Act} {o : Oper} (t : TypeId) (parts : Array (Nat × Operand)) (ho : o.op = .build t parts) (c : Array Value) (w : World)
    (hf : P.built t (parts.map fun (i, x) => (i, a.eval x)).toList = some c) : (execOp a.eval o).run P w = .ok (.value (.agg c)) w := by
  unfold execOp
  simp only [ho, Sem.run_bind, run_build w t _ c hf, Result.andThen_ok]
  rfl
end Go.Proofs.Ytoefogmjekcbeaa
