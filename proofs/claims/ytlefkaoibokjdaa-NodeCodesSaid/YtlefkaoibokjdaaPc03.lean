/-
  BStr: Bytes as a string: what the conversion makes of a slice of bytes.
  Row: A block that holds an array, whole: what reads and stores make of it.
  BoxT: A struct's or an array's cells, whole, in a box of a law (of any type).
-/
import Derived.Test.YtlefkaoibokjdaaPc02
import Derived.Laws.BytesString
import Derived.Laws.Cells
import Derived.Test.YtlefkaoibokjdaaProg
import Derived.WalkKit
import Derived.Below
import Derived.Laws.CopyOwn
import Derived.Lib.Hide
import Derived.Deep.RegionHeld
import Derived.Deep.WholeRow
namespace Go.Proofs.Ytlefkaoibokjdaa
open Go.RowKit
set_option linter.unusedVariables false

/-- The string whose bytes these are. -/
def bstr (l : List Nat) : ByteArray := ⟨(l.map UInt8.ofNat).toArray⟩
theorem foldl_push (l : List Nat) : ∀ r : ByteArray, (l.map Int.ofNat).foldl (fun r n => r.push (UInt8.ofNat n.toNat)) r = ⟨r.data ++ (l.map UInt8.ofNat).toArray⟩ := by
  induction l with
  | nil => intro r; simp
  | cons x l ih =>
    intro r
    rw [List.map_cons, List.foldl_cons, ih]
    simp [ByteArray.push]
theorem bstr_inj {l m : List Nat} (hl : ∀ x ∈ l, x < 256) (hm : ∀ x ∈ m, x < 256) (h : bstr l = bstr m) : l = m := by
  have h1 : (l.map UInt8.ofNat).toArray = (m.map UInt8.ofNat).toArray := congrArg ByteArray.data h
  have h2 : l.map UInt8.ofNat = m.map UInt8.ofNat := by simpa using h1
  clear h h1
  induction l generalizing m with
  | nil => cases m with
    | nil => rfl
    | cons => cases h2
  | cons x l ih => cases m with
    | nil => cases h2
    | cons y m =>
      rw [List.map_cons, List.map_cons] at h2
      injection h2 with h3 h4
      have hx := hl x (by simp)
      have hy := hm y (by simp)
      have e : x = y := by
        have := congrArg UInt8.toNat h3
        simp only [UInt8.toNat_ofNat'] at this
        omega
      rw [e, ih (fun z hz => hl z (by simp [hz])) (fun z hz => hm z (by simp [hz])) h4]
theorem bstr_toList (l : List Nat) : (bstr l).toList = l.map UInt8.ofNat := by rw [ByteArray.toList_eq]; simp [bstr]
/-- Two strings of bytes compared, as the walk has it. -/
theorem bstr_eq {l m : List Nat} (hl : ∀ x ∈ l, x < 256) (hm : ∀ x ∈ m, x < 256) : ((bstr l).toList == m.map UInt8.ofNat) = decide (l = m) := by
  rw [bstr_toList, Bool.eq_iff_iff, beq_iff_eq, decide_eq_true_eq]
  constructor
  · intro h
    refine bstr_inj hl hm ?_
    unfold bstr
    rw [h]
  · intro h; rw [h]
theorem conv_str {w : World} {B n c : Nat} {A : Option Addr} {l : List Nat} (hv : Lv yK w B (.slice A n c) l) (hp : 0 < l.length) :
    (convert 27 9 (.slice A n c)).run Try.prog w = .ok (.string (bstr l)) w := by
  obtain ⟨A', c', e, -, -, -, -, h5⟩ := hv
  obtain ⟨b, off, hA, -, hc⟩ := h5 hp
  simp only [Value.slice.injEq] at e
  obtain ⟨rfl, rfl, rfl⟩ := e
  subst hA
  have h0 := run_convert_bytes_string (P := Try.prog) w 27 9 5 (some ⟨b, off, none⟩) l.length c Try.underlying27 Try.underlying5 Try.underlying9
  rw [h0]
  clear h0
  have hf : ∀ l : List Nat, yK.flat l = (l.map Int.ofNat).map (Value.int .u8) := by
    intro l
    show l.flatMap (fun x : Nat => [Value.int .u8 (x : Nat)]) = _
    induction l with
    | nil => rfl
    | cons x r ih => rw [List.flatMap_cons, ih]; rfl
  have hlen : ((l.map Int.ofNat).map (Value.int .u8)).length = l.length := by simp
  rw [hf] at hc
  have hload := run_loadCells_list (P := Try.prog) (w := w) ⟨b, off, none⟩ ((l.map Int.ofNat).map (Value.int .u8)) (fun j v hj => by have := hc j v hj; by_cases h0 : j = 0 <;> simp_all [Addr.add])
  rw [hlen] at hload
  rw [run_bytesToString w _ _ _ (l.map Int.ofNat) hload, foldl_push]
  simp only [bstr, ByteArray.empty, ByteArray.emptyWithCapacity]
  congr 3
  exact Array.empty_append
end Go.Proofs.Ytlefkaoibokjdaa
namespace Go.Proofs.Ytlefkaoibokjdaa
open Go.RowKit
set_option linter.unusedVariables false

/-- Block g holds these cells, of this type. -/
def Rw (w : World) (g : Nat) (t : TypeId) (c : Array Value) : Prop := w.heap[g]? = some (.cells c t (0, 0))
section
variable {w w' : World} {g k : Nat} {t : TypeId} {c : Array Value} {v : Value}
theorem Rw.lt (h : Rw w g t c) : g < w.heap.size := (Array.getElem?_eq_some_iff.1 h).1
theorem Rw.cell (h : Rw w g t c) (k : Nat) : w.cell? ⟨g, k, none⟩ = c[k]? := cell_of_row w g k c t (0, 0) h
theorem Rw.frozen (h : Rw w g t c) (k : Nat) : w.frozen? ⟨g, k, none⟩ = false := by
  have h' : w.heap[g]? = some (.cells c t (0, 0)) := h
  simp [World.frozen?, h']
theorem Rw.below (h : Rw w g t c) {B : Nat} (hb : Below B w w') (hB : g < B) : Rw w' g t c := (hb.block g hB).trans h
theorem Rw.drew (h : Rw w g t c) : Rw w.drew g t c := h
theorem Rw.new (w : World) (t : TypeId) (c : Array Value) : Rw (w.alloc (.cells c t)) w.heap.size t c := heap_alloc_new w _
theorem Rw.at_ {n : Nat} (h : n = w.heap.size) (t : TypeId) (c : Array Value) : Rw (w.alloc (.cells c t)) n t c := by subst h; exact Rw.new w t c
theorem Rw.old (h : Rw w g t c) (o : Obj) : Rw (w.alloc o) g t c := by
  show (w.heap.push o)[g]? = _
  have := h.lt
  rw [Array.getElem?_push, if_neg (by omega)]
  exact h
theorem Rw.set (h : Rw w g t c) (k : Nat) (v : Value) : Rw (w.setCell ⟨g, k, none⟩ v) g t (c.setIfInBounds k v) := by
  unfold Rw
  rw [setCell_eq_setRow w g k c t (0, 0) v h]
  exact setRow_heap w g c _ t (0, 0) h
theorem Rw.setOther (h : Rw w g t c) {g' : Nat} (hg : g ≠ g') (k : Nat) (v : Value) : Rw (w.setCell ⟨g', k, none⟩ v) g t c := by
  unfold Rw World.setCell at *
  simp only [Array.getElem?_modify, Ne.symm hg, if_false]
  exact h
theorem Rw.row (h : Rw w g t c) (c' : Array Value) : Rw (w.setRow g c') g t c' := setRow_heap w g c c' t (0, 0) h
theorem Rw.rowOther (h : Rw w g t c) {g' : Nat} (hg : g ≠ g') (c' : Array Value) : Rw (w.setRow g' c') g t c := (setRow_other w g' g c' hg).trans h
end
end Go.Proofs.Ytlefkaoibokjdaa
namespace Go.Proofs.Ytlefkaoibokjdaa
open Go.RowKit
set_option linter.unusedVariables false
/-- Cells of type T in a box below B. -/
def BxT (T : TypeId) (w : World) (B g : Nat) (C : Array Value) : Prop := g < B ∧ Rw w g T C
section
variable {T : TypeId} {w w' W : World} {B B' g : Nat} {C N : Array Value}
theorem BxT.below_ (h : BxT T w B g C) (hb : Below B' w w') (hB : B ≤ B') : BxT T w' B g C := ⟨h.1, h.2.below hb (Nat.lt_of_lt_of_le h.1 hB)⟩
theorem BxT.mono_ (h : BxT T w B g C) (hB : B ≤ B') : BxT T w B' g C := ⟨Nat.lt_of_lt_of_le h.1 hB, h.2⟩
theorem bxt_stored (hX : (w.alloc (.cells N T)).setRow w.heap.size C = W) : BxT T W W.heap.size w.heap.size C ∧ Below w.heap.size w W := by
  subst hX
  have h1 : Rw (w.alloc (.cells N T)) w.heap.size T N := Rw.new w _ _
  exact ⟨⟨(h1.row C).lt, h1.row C⟩, below_setRow ((Below.refl _ _).alloc (Nat.le_refl _) _) (Nat.le_refl _) _⟩
theorem bxt_new (hW : w.alloc (.cells C T) = W) : BxT T W W.heap.size w.heap.size C ∧ Below w.heap.size w W := by
  subst hW
  exact ⟨⟨by simp, Rw.new w _ _⟩, (Below.refl _ _).alloc (Nat.le_refl _) _⟩
end
/-- A load of a whole row that is guarded, where the guard lets it. -/
theorem wpList_load_row_onT {P : Program} {ops : Array Oper} {rest : List Oper} {o : Oper} {a : Act} {w : World} {Q : Exit → Act → World → Prop} (hw : Region.wanted o (yielded ops a.tmps) = true) (ty : TypeId) (x : Operand) (ho : o.op = .load ty x)
    (g : Nat) (hx : a.eval x = .pointer (some ⟨g, 0, none⟩)) (t : TypeId) (cs : Array Value) (fr : Nat × Nat) (d : TypeDesc)
    (hg : w.heap[g]? = some (.cells cs t fr)) (hu : P.underlying ty = some d) (hd : (match d with | .struct _ | .array _ _ => true | _ => false) = true) (hi : (P.info? ty).map (·.size) = some cs.size)
    (h : wpList P ops Q rest (a.put o.dst (.agg cs)) w) : wpList P ops Q (o :: rest) a w :=
  wpList_step fun K hK => by
    rw [if_pos hw]
    exact wp_load_row ty x ho g hx t cs fr d hg hu hd hi (hK _ _ h)
theorem wpList_build_atT {P : Program} {ops : Array Oper} {rest : List Oper} {o : Oper} {a : Act} {w : World} {Q : Exit → Act → World → Prop} (hg : o.guard = none) (t : TypeId) (parts : Array (Nat × Operand)) (ho : o.op = .build t parts) (c : Array Value)
    (hf : P.built t (parts.map fun (i, x) => (i, a.eval x)).toList = some c)
    (h : wpList P ops Q rest (a.put o.dst (.agg c)) w) : wpList P ops Q (o :: rest) a w :=
  wpList_build hg t parts ho (by rw [hf]; rfl) (by rw [hf]; exact h)
/-- A struct that is built, as an operation of a region that draws. -/
theorem exec_build {P : Program} {a : Act} {o : Oper} (t : TypeId) (parts : Array (Nat × Operand)) (ho : o.op = .build t parts) (c : Array Value) (w : World)
    (hf : P.built t (parts.map fun (i, x) => (i, a.eval x)).toList = some c) : (execOp a.eval o).run P w = .ok (.value (.agg c)) w := by
  unfold execOp
  simp only [ho, Sem.run_bind, run_build w t _ c hf, Result.andThen_ok]
  rfl
end Go.Proofs.Ytlefkaoibokjdaa
