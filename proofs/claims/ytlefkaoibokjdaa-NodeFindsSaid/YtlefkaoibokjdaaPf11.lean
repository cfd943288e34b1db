/-
  NdMem: api.Node in memory: four cells, three slices that are read; stookref18's and node's answers of one node and an error.
  FrameNd: From what a row says of a node (api.Node by value) to the words of this text.
  Gate: Gates for a walk's arms: a goal that is a load, a store, a build of this type, and nothing else (to be used with_reducible, so that an arm that does not fit falls at once).
-/
import Derived.Test.YtlefkaoibokjdaaPf10
import Derived.Test.YtlefkaoibokjdaaPf05
import Derived.Test.YtlefkaoibokjdaaPf02
import Derived.Test.YtlefkaoibokjdaaPf09
import Derived.SizedLaws
import Derived.Test.YtlefkaoibokjdaaProg
import Derived.WalkKit
namespace Go.Proofs.Ytlefkaoibokjdaa
open Go.RowKit
set_option linter.unusedVariables false
/-- A node of these slices. -/
def ndV (n : Nd.Node) (Ak : Option Addr) (ck : Nat) (Av : Option Addr) (cv : Nat) (Ai : Option Addr) (ci : Nat) : Value :=
  .agg #[.int .u8 (n.kind : Nat), .slice Ak n.keys.length ck, .slice Av n.vals.length cv, .slice Ai n.kids.length ci]
/-- A value that holds a node. -/
def NdIs (w : World) (B : Nat) (v : Value) (n : Nd.Node) : Prop :=
  ∃ Ak ck Av cv Ai ci, v = ndV n Ak ck Av cv Ai ci ∧ n.kind < 256 ∧ Lv sK w B (.slice Ak n.keys.length ck) n.keys ∧ Lv sK w B (.slice Av n.vals.length cv) n.vals ∧ Lv iK w B (.slice Ai n.kids.length ci) n.kids
section
variable {w w' : World} {B : Nat} {v : Value} {n : Nd.Node}
theorem NdIs.below_ (h : NdIs w B v n) {B' : Nat} (hb : Below B' w w') (hB : B ≤ B') : NdIs w' B v n := by
  obtain ⟨Ak, ck, Av, cv, Ai, ci, e, h1, h2, h3, h4⟩ := h
  exact ⟨Ak, ck, Av, cv, Ai, ci, e, h1, h2.below_ hb hB, h3.below_ hb hB, h4.below_ hb hB⟩
theorem NdIs.mono_ (h : NdIs w B v n) {B' : Nat} (hB : B ≤ B') : NdIs w B' v n := by
  obtain ⟨Ak, ck, Av, cv, Ai, ci, e, h1, h2, h3, h4⟩ := h
  exact ⟨Ak, ck, Av, cv, Ai, ci, e, h1, h2.mono_ hB, h3.mono_ hB, h4.mono_ hB⟩
end
/-- A node's cells, at the head of a block, and its lists. -/
structure NdAt (w : World) (sb B : Nat) (n : Nd.Node) (Ak : Option Addr) (ck : Nat) (Av : Option Addr) (cv : Nat) (Ai : Option Addr) (ci : Nat) : Prop where
  c0 : w.cell? ⟨sb, 0, none⟩ = some (.int .u8 (n.kind : Nat))
  c1 : w.cell? ⟨sb, 1, none⟩ = some (.slice Ak n.keys.length ck)
  c2 : w.cell? ⟨sb, 2, none⟩ = some (.slice Av n.vals.length cv)
  c3 : w.cell? ⟨sb, 3, none⟩ = some (.slice Ai n.kids.length ci)
  keys : Lv sK w B (.slice Ak n.keys.length ck) n.keys
  vals : Lv sK w B (.slice Av n.vals.length cv) n.vals
  kids : Lv iK w B (.slice Ai n.kids.length ci) n.kids
/-- The block of a node that is handed in. -/
def ndB (n : Nd.Node) (Ak : Option Addr) (ck : Nat) (Av : Option Addr) (cv : Nat) (Ai : Option Addr) (ci : Nat) : Obj :=
  .cells #[.int .u8 (n.kind : Nat), .slice Ak n.keys.length ck, .slice Av n.vals.length cv, .slice Ai n.kids.length ci] 26
section
variable {w w' : World} {sb B : Nat} {n : Nd.Node} {Ak Av Ai : Option Addr} {ck cv ci : Nat}
theorem NdAt.below_ (h : NdAt w sb B n Ak ck Av cv Ai ci) {B' : Nat} (hb : Below B' w w') (hs : sb < B') (hB : B ≤ B') : NdAt w' sb B n Ak ck Av cv Ai ci :=
  ⟨(hb.cell (p := ⟨sb, 0, none⟩) hs).trans h.c0, (hb.cell (p := ⟨sb, 1, none⟩) hs).trans h.c1, (hb.cell (p := ⟨sb, 2, none⟩) hs).trans h.c2, (hb.cell (p := ⟨sb, 3, none⟩) hs).trans h.c3, h.keys.below_ hb hB, h.vals.below_ hb hB, h.kids.below_ hb hB⟩
theorem NdAt.drewN_ (h : NdAt w sb B n Ak ck Av cv Ai ci) (m : Nat) : NdAt (w.drewN m) sb B n Ak ck Av cv Ai ci := ⟨h.c0, h.c1, h.c2, h.c3, h.keys, h.vals, h.kids⟩
/-- A node that is handed in, in its block. -/
theorem nd_in (hk : Lv sK w B (.slice Ak n.keys.length ck) n.keys) (hv : Lv sK w B (.slice Av n.vals.length cv) n.vals) (hi : Lv iK w B (.slice Ai n.kids.length ci) n.kids) (hB : B ≤ w.heap.size) :
    NdAt (w.alloc (ndB n Ak ck Av cv Ai ci)) w.heap.size B n Ak ck Av cv Ai ci := by
  have hb : Below w.heap.size w (w.alloc (ndB n Ak ck Av cv Ai ci)) := (Below.refl _ _).alloc (Nat.le_refl _) _
  have hh := heap_alloc_new w (ndB n Ak ck Av cv Ai ci)
  conv at hh => rhs; unfold ndB
  refine ⟨?_, ?_, ?_, ?_, hk.below_ hb hB, hv.below_ hb hB, hi.below_ hb hB⟩ <;>
  · rw [cell_of_row _ w.heap.size _ _ _ _ hh]; rfl
end
/-- What a function that is handed a node begins with. -/
theorem NdIs.open_ {w : World} {B : Nat} {v : Value} {n : Nd.Node} (h : NdIs w B v n) (hB : B ≤ w.heap.size) :
    ∃ Ak ck Av cv Ai ci W, v = ndV n Ak ck Av cv Ai ci ∧ n.kind < 256 ∧ w.alloc (ndB n Ak ck Av cv Ai ci) = W ∧ NdAt W w.heap.size B n Ak ck Av cv Ai ci ∧ Below w.heap.size w W ∧ W.heap.size = w.heap.size + 1 ∧ NdIs W B (ndV n Ak ck Av cv Ai ci) n := by
  have h0 := h
  obtain ⟨Ak, ck, Av, cv, Ai, ci, rfl, h1, h2, h3, h4⟩ := h
  have hb : Below w.heap.size w (w.alloc (ndB n Ak ck Av cv Ai ci)) := (Below.refl _ _).alloc (Nat.le_refl _) _
  exact ⟨Ak, ck, Av, cv, Ai, ci, _, rfl, h1, rfl, nd_in h2 h3 h4 hB, hb, by simp, h0.below_ hb hB⟩
/-- The answer: a number, and whether. -/
def IsIB (n : Nat) (b : Bool) (w : World) (e : Ending) (w' : World) : Prop := e = .returned (.tuple #[.int .i64 (n : Nat), .bool b]) ∧ Below w.heap.size w w'
/-- The answer: a node. -/
def IsNd (n : Nd.Node) (w : World) (e : Ending) (w' : World) : Prop := ∃ v, e = .returned v ∧ NdIs w' w'.heap.size v n ∧ Below w.heap.size w w'
/-- The answer: a node, and an error. -/
def IsNdE (r : Nd.Node × Nat) (w : World) (e : Ending) (w' : World) : Prop := ∃ v, e = .returned (.tuple #[v, .int .i64 (r.2 : Nat)]) ∧ NdIs w' w'.heap.size v r.1 ∧ Below w.heap.size w w'
/-- The answer: two nodes, the key between them, and an error. -/
def IsNdP (r : Nd.Node × ByteArray × Nd.Node × Nat) (w : World) (e : Ending) (w' : World) : Prop :=
  ∃ v u, e = .returned (.tuple #[v, .string r.2.1, u, .int .i64 (r.2.2.2 : Nat)]) ∧ NdIs w' w'.heap.size v r.1 ∧ NdIs w' w'.heap.size u r.2.2.1 ∧ Below w.heap.size w w'
end Go.Proofs.Ytlefkaoibokjdaa
namespace Go.Proofs.Ytlefkaoibokjdaa
open Go.ChangeShapes Go.WideShapes Go.ChangeAt Go.RowKit Go.Deep
set_option linter.unusedVariables false
theorem lv_in {H : Type} {enc : TypeId × Value → H} {P : Program} {w : World} {base : Nat} {spare : Nat → Bool} {held : Bool} {α : Type} (K : El P α) (hce : P.cellsOf K.e = K.size)
    (dec : ∀ (fuel : Nat) (cs : List Value) (x : DataW H × List MemPlace), DataW.trod enc P w base spare held fuel K.e cs = some x → ∃ a, K.ok a ∧ cs = K.enc a)
    {fuel : Nat} {cs : List Value} {x : DataW H × List MemPlace} (h : DataW.trod enc P w base spare held fuel K.s cs = some x) :
    ∃ a n c, cs = [.slice a n c] ∧ ∃ l : List α, l.length = n ∧ Lv K w w.heap.size (.slice a n c) l := by
  rcases open_slice K.under h with ⟨rfl, _⟩ | ⟨ad, n, c, _, _, _, _, rfl, _⟩
  · exact ⟨none, 0, 0, rfl, lv_open K hce dec h⟩
  · exact ⟨some ad, n, c, rfl, lv_open K hce dec h⟩
theorem one_cellN {L : List Value} {o : Nat} {x : Value} (h : (L.drop o).take 1 = [x]) : L[o]? = some x := by
  have h4 := congrArg (fun l => l[0]?) h
  simpa using h4
set_option maxRecDepth 100000 in
theorem node_in {H : Type} {enc : TypeId × Value → H} {w : World} {b : Nat} {held : Bool} {v : Value} {d : DataW H} {p : List MemPlace}
    (hok : Value.okWide Try.prog w .any b 26 v) (h : DataW.Trod enc Try.prog w 0 (fun _ => true) held 26 v d p) :
    ∃ n : Nd.Node, NdIs w w.heap.size v n := by
  obtain ⟨cs, rfl, hsz⟩ := okWide_struct Try.underlying26 hok
  have hsz4 : cs.size = 4 := hsz.trans (by kernel_rfl)
  obtain ⟨fuel, hf⟩ := h
  obtain ⟨xs, m, _, hxe, hl, hlen, hx⟩ := DataW.trod_struct Try.underlying26 hf
  match xs, hlen, hxe with
  | [y0, y1, y2, y3], _, _ =>
    have c0 : Try.prog.cellsOf 22 = 1 := by kernel_rfl
    have c1 : Try.prog.cellsOf 23 = 1 := by kernel_rfl
    have c3 : Try.prog.cellsOf 24 = 1 := by kernel_rfl
    have f0 : DataW.trod enc Try.prog w 0 (fun _ => true) held m 22 ((cs.toList.drop 0).take (Try.prog.cellsOf 22)) = some y0 := hx 0 _ rfl
    have f1 : DataW.trod enc Try.prog w 0 (fun _ => true) held m 23 ((cs.toList.drop 1).take (Try.prog.cellsOf 23)) = some y1 := hx 1 _ rfl
    have f2 : DataW.trod enc Try.prog w 0 (fun _ => true) held m 23 ((cs.toList.drop 2).take (Try.prog.cellsOf 23)) = some y2 := hx 2 _ rfl
    have f3 : DataW.trod enc Try.prog w 0 (fun _ => true) held m 24 ((cs.toList.drop 3).take (Try.prog.cellsOf 24)) = some y3 := hx 3 _ rfl
    rw [c0] at f0
    rw [c1] at f1 f2
    rw [c3] at f3
    obtain ⟨z0, g0, _, b0⟩ := DataW.trod_int Try.underlying22 f0
    have hz0 := bounds_u8 b0
    have ds : ∀ (fuel : Nat) (cs : List Value) (x : DataW H × List MemPlace), DataW.trod enc Try.prog w 0 (fun _ => true) held fuel 9 cs = some x → ∃ a, sK.ok a ∧ cs = sK.enc a := fun fuel cs x h => by
      obtain ⟨s, rfl, _, hs⟩ := DataW.trod_string Try.underlying9 h
      exact ⟨s, hs, rfl⟩
    have di : ∀ (fuel : Nat) (cs : List Value) (x : DataW H × List MemPlace), DataW.trod enc Try.prog w 0 (fun _ => true) held fuel 3 cs = some x → ∃ a, iK.ok a ∧ cs = iK.enc a := fun fuel cs x h => by
      obtain ⟨z, rfl, _, hb⟩ := DataW.trod_int Try.underlying3 h
      exact ⟨z, i64_wf hb, rfl⟩
    obtain ⟨a1, n1, k1, g1, l1, e1, L1⟩ := lv_in sK (by kernel_rfl) ds f1
    obtain ⟨a2, n2, k2, g2, l2, e2, L2⟩ := lv_in sK (by kernel_rfl) ds f2
    obtain ⟨a3, n3, k3, g3, l3, e3, L3⟩ := lv_in iK (by kernel_rfl) di f3
    subst e1 e2 e3
    have i0 := one_cellN g0
    have i1 := one_cellN g1
    have i2 := one_cellN g2
    have i3 := one_cellN g3
    refine ⟨⟨z0.toNat, l1, l2, l3⟩, a1, k1, a2, k2, a3, k3, ?_, by show z0.toNat < 256; omega, L1, L2, L3⟩
    unfold ndV
    congr 1
    apply Array.ext_getElem?
    intro i
    by_cases h4 : i < 4
    · have hi : i = 0 ∨ i = 1 ∨ i = 2 ∨ i = 3 := by omega
      rcases hi with rfl | rfl | rfl | rfl
      · rw [← Array.getElem?_toList, i0]
        show some (Value.int .u8 z0) = some (Value.int .u8 ((z0.toNat : Nat) : Int))
        rw [show ((z0.toNat : Nat) : Int) = z0 by omega]
      · rw [← Array.getElem?_toList, i1]; rfl
      · rw [← Array.getElem?_toList, i2]; rfl
      · rw [← Array.getElem?_toList, i3]; rfl
    · rw [Array.getElem?_eq_none (by omega), Array.getElem?_eq_none (by simp; omega)]
end Go.Proofs.Ytlefkaoibokjdaa
namespace Go.Proofs.Ytlefkaoibokjdaa
section
variable {P : Program} {ops : Array Oper} {rest : List Oper} {d : Option Tmp} {ty : TypeId} {pos : String} {aft : Array Edge} {a : Act} {w : World} {Q : Exit → Act → World → Prop}
theorem gate_load (t : TypeId) {x : Operand} (h : wpList P ops Q ({ dst := d, op := .load t x, type := ty, pos := pos, after := aft, guard := none } :: rest) a w) : wpList P ops Q ({ dst := d, op := .load t x, type := ty, pos := pos, after := aft, guard := none } :: rest) a w := h
theorem gate_loadG (t : TypeId) {x : Operand} {g : Nat × Bool} (h : wpList P ops Q ({ dst := d, op := .load t x, type := ty, pos := pos, after := aft, guard := some g } :: rest) a w) : wpList P ops Q ({ dst := d, op := .load t x, type := ty, pos := pos, after := aft, guard := some g } :: rest) a w := h
theorem gate_store (t : TypeId) {x y : Operand} (h : wpList P ops Q ({ dst := d, op := .store t x y, type := ty, pos := pos, after := aft, guard := none } :: rest) a w) : wpList P ops Q ({ dst := d, op := .store t x y, type := ty, pos := pos, after := aft, guard := none } :: rest) a w := h
theorem gate_build (t : TypeId) {x : Array (Nat × Operand)} (h : wpList P ops Q ({ dst := d, op := .build t x, type := ty, pos := pos, after := aft, guard := none } :: rest) a w) : wpList P ops Q ({ dst := d, op := .build t x, type := ty, pos := pos, after := aft, guard := none } :: rest) a w := h
end
end Go.Proofs.Ytlefkaoibokjdaa
