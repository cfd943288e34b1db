/-
  NdMem: api.Node in memory: four cells, three slices that are read; stookref18's and node's answers of one node and an error.
  FrameNd: From what a row says of a node (api.Node by value) to the words of this text.
  Heap: A slice of the call's own that is known to its room's end: its block, and copy into it.
-/
import Derived.Test.YtlefkaoibokjdaaPc11
import Derived.Test.YtlefkaoibokjdaaPc06
import Derived.Test.YtlefkaoibokjdaaPc07
import Derived.Test.YtlefkaoibokjdaaPc02
import Derived.Test.YtlefkaoibokjdaaPc04
import Derived.Test.YtlefkaoibokjdaaPc10
import Derived.SizedLaws
import Derived.Test.YtlefkaoibokjdaaPc01
import Derived.Laws.CopyOwn
namespace Go.Proofs.Ytlefkaoibokjdaa
open Go.RowKit
set_option linter.unusedVariables false
/-- A node of these slices. -/
def ndV (n : Nd.Node) (Ak : Option Addr) (ck : Nat) (Av : Option Addr) (cv : Nat) (Ai : Option Addr) (ci : Nat) : Value :=
  .agg #[.int .u8 (n.kind : Nat), .slice Ak n.keys.length ck, .slice Av n.vals.length cv, .slice Ai n.kids.length ci]
/-- A value that holds a node. -/
def NdIs (w : World) (B : Nat) (v : Value) (n : Nd.Node) : Prop :=
  ∃ Ak ck Av cv Ai ci, v = ndV n Ak ck Av cv Ai ci ∧ n.kind < 256 ∧ Lv sK w B (.slice Ak n.keys.length ck) n.keys ∧ Lv sK w B (.slice Av n.vals.length cv) n.vals ∧ Lv iK w B (.slice Ai n.kids.length ci) n.kids
section
variable {w w' : World} {B : Nat} {v : Value} {n : Nd.Node}
theorem NdIs.below_ (h : NdIs w B v n) {B' : Nat} (hb : Below B' w w') (hB : B ≤ B') : NdIs w' B v n := by
  obtain ⟨Ak, ck, Av, cv, Ai, ci, e, h1, h2, h3, h4⟩ := h
  exact ⟨Ak, ck, Av, cv, Ai, ci, e, h1, h2.below_ hb hB, h3.below_ hb hB, h4.below_ hb hB⟩
theorem NdIs.mono_ (h : NdIs w B v n) {B' : Nat} (hB : B ≤ B') : NdIs w B' v n := by
  obtain ⟨Ak, ck, Av, cv, Ai, ci, e, h1, h2, h3, h4⟩ := h
  exact ⟨Ak, ck, Av, cv, Ai, ci, e, h1, h2.mono_ hB, h3.mono_ hB, h4.mono_ hB⟩
end
/-- A node's cells, at the head of a block, and its lists. -/
structure NdAt (w : World) (sb B : Nat) (n : Nd.Node) (Ak : Option Addr) (ck : Nat) (Av : Option Addr) (cv : Nat) (Ai : Option Addr) (ci : Nat) : Prop where
  c0 : w.cell? ⟨sb, 0, none⟩ = some (.int .u8 (n.kind : Nat))
  c1 : w.cell? ⟨sb, 1, none⟩ = some (.slice Ak n.keys.length ck)
  c2 : w.cell? ⟨sb, 2, none⟩ = some (.slice Av n.vals.length cv)
  c3 : w.cell? ⟨sb, 3, none⟩ = some (.slice Ai n.kids.length ci)
  keys : Lv sK w B (.slice Ak n.keys.length ck) n.keys
  vals : Lv sK w B (.slice Av n.vals.length cv) n.vals
  kids : Lv iK w B (.slice Ai n.kids.length ci) n.kids
/-- The block of a node that is handed in. -/
def ndB (n : Nd.Node) (Ak : Option Addr) (ck : Nat) (Av : Option Addr) (cv : Nat) (Ai : Option Addr) (ci : Nat) : Obj :=
  .cells #[.int .u8 (n.kind : Nat), .slice Ak n.keys.length ck, .slice Av n.vals.length cv, .slice Ai n.kids.length ci] 26
section
variable {w w' : World} {sb B : Nat} {n : Nd.Node} {Ak Av Ai : Option Addr} {ck cv ci : Nat}
theorem NdAt.below_ (h : NdAt w sb B n Ak ck Av cv Ai ci) {B' : Nat} (hb : Below B' w w') (hs : sb < B') (hB : B ≤ B') : NdAt w' sb B n Ak ck Av cv Ai ci :=
  ⟨(hb.cell (p := ⟨sb, 0, none⟩) hs).trans h.c0, (hb.cell (p := ⟨sb, 1, none⟩) hs).trans h.c1, (hb.cell (p := ⟨sb, 2, none⟩) hs).trans h.c2, (hb.cell (p := ⟨sb, 3, none⟩) hs).trans h.c3, h.keys.below_ hb hB, h.vals.below_ hb hB, h.kids.below_ hb hB⟩
theorem NdAt.drewN_ (h : NdAt w sb B n Ak ck Av cv Ai ci) (m : Nat) : NdAt (w.drewN m) sb B n Ak ck Av cv Ai ci := ⟨h.c0, h.c1, h.c2, h.c3, h.keys, h.vals, h.kids⟩
/-- A node that is handed in, in its block. -/
theorem nd_in (hk : Lv sK w B (.slice Ak n.keys.length ck) n.keys) (hv : Lv sK w B (.slice Av n.vals.length cv) n.vals) (hi : Lv iK w B (.slice Ai n.kids.length ci) n.kids) (hB : B ≤ w.heap.size) :
    NdAt (w.alloc (ndB n Ak ck Av cv Ai ci)) w.heap.size B n Ak ck Av cv Ai ci := by
  have hb : Below w.heap.size w (w.alloc (ndB n Ak ck Av cv Ai ci)) := (Below.refl _ _).alloc (Nat.le_refl _) _
  have hh := heap_alloc_new w (ndB n Ak ck Av cv Ai ci)
  conv at hh => rhs; unfold ndB
  refine ⟨?_, ?_, ?_, ?_, hk.below_ hb hB, hv.below_ hb hB, hi.below_ hb hB⟩ <;>
  · rw [cell_of_row _ w.heap.size _ _ _ _ hh]; rfl
end
/-- What a function that is handed a node begins with. -/
theorem NdIs.open_ {w : World} {B : Nat} {v : Value} {n : Nd.Node} (h : NdIs w B v n) (hB : B ≤ w.heap.size) :
    ∃ Ak ck Av cv Ai ci W, v = ndV n Ak ck Av cv Ai ci ∧ n.kind < 256 ∧ w.alloc (ndB n Ak ck Av cv Ai ci) = W ∧ NdAt W w.heap.size B n Ak ck Av cv Ai ci ∧ Below w.heap.size w W ∧ W.heap.size = w.heap.size + 1 ∧ NdIs W B (ndV n Ak ck Av cv Ai ci) n := by
  have h0 := h
  obtain ⟨Ak, ck, Av, cv, Ai, ci, rfl, h1, h2, h3, h4⟩ := h
  have hb : Below w.heap.size w (w.alloc (ndB n Ak ck Av cv Ai ci)) := (Below.refl _ _).alloc (Nat.le_refl _) _
  exact ⟨Ak, ck, Av, cv, Ai, ci, _, rfl, h1, rfl, nd_in h2 h3 h4 hB, hb, by simp, h0.below_ hb hB⟩
/-- The answer: a number, and whether. -/
def IsIB (n : Nat) (b : Bool) (w : World) (e : Ending) (w' : World) : Prop := e = .returned (.tuple #[.int .i64 (n : Nat), .bool b]) ∧ Below w.heap.size w w'
/-- The answer: a node. -/
def IsNd (n : Nd.Node) (w : World) (e : Ending) (w' : World) : Prop := ∃ v, e = .returned v ∧ NdIs w' w'.heap.size v n ∧ Below w.heap.size w w'
/-- The answer: a node, and an error. -/
def IsNdE (r : Nd.Node × Nat) (w : World) (e : Ending) (w' : World) : Prop := ∃ v, e = .returned (.tuple #[v, .int .i64 (r.2 : Nat)]) ∧ NdIs w' w'.heap.size v r.1 ∧ Below w.heap.size w w'
/-- The answer: two nodes, the key between them, and an error. -/
def IsNdP (r : Nd.Node × ByteArray × Nd.Node × Nat) (w : World) (e : Ending) (w' : World) : Prop :=
  ∃ v u, e = .returned (.tuple #[v, .string r.2.1, u, .int .i64 (r.2.2.2 : Nat)]) ∧ NdIs w' w'.heap.size v r.1 ∧ NdIs w' w'.heap.size u r.2.2.1 ∧ Below w.heap.size w w'
end Go.Proofs.Ytlefkaoibokjdaa
namespace Go.Proofs.Ytlefkaoibokjdaa
open Go.ChangeShapes Go.WideShapes Go.ChangeAt Go.RowKit Go.Deep
set_option linter.unusedVariables false
theorem lv_in {H : Type} {enc : TypeId × Value → H} {P : Program} {w : World} {base : Nat} {spare : Nat → Bool} {held : Bool} {α : Type} (K : El P α) (hce : P.cellsOf K.e = K.size)
    (dec : ∀ (fuel : Nat) (cs : List Value) (x : DataW H × List MemPlace), DataW.trod enc P w base spare held fuel K.e cs = some x → ∃ a, K.ok a ∧ cs = K.enc a)
    {fuel : Nat} {cs : List Value} {x : DataW H × List MemPlace} (h : DataW.trod enc P w base spare held fuel K.s cs = some x) :
    ∃ a n c, cs = [.slice a n c] ∧ ∃ l : List α, l.length = n ∧ Lv K w w.heap.size (.slice a n c) l := by
  rcases open_slice K.under h with ⟨rfl, _⟩ | ⟨ad, n, c, _, _, _, _, rfl, _⟩
  · exact ⟨none, 0, 0, rfl, lv_open K hce dec h⟩
  · exact ⟨some ad, n, c, rfl, lv_open K hce dec h⟩
theorem one_cellN {L : List Value} {o : Nat} {x : Value} (h : (L.drop o).take 1 = [x]) : L[o]? = some x := by
  have h4 := congrArg (fun l => l[0]?) h
  simpa using h4
set_option maxRecDepth 100000 in
theorem node_in {H : Type} {enc : TypeId × Value → H} {w : World} {b : Nat} {held : Bool} {v : Value} {d : DataW H} {p : List MemPlace}
    (hok : Value.okWide Try.prog w .any b 26 v) (h : DataW.Trod enc Try.prog w 0 (fun _ => true) held 26 v d p) :
    ∃ n : Nd.Node, NdIs w w.heap.size v n := by
  obtain ⟨cs, rfl, hsz⟩ := okWide_struct Try.underlying26 hok
  have hsz4 : cs.size = 4 := hsz.trans (by kernel_rfl)
  obtain ⟨fuel, hf⟩ := h
  obtain ⟨xs, m, _, hxe, hl, hlen, hx⟩ := DataW.trod_struct Try.underlying26 hf
  match xs, hlen, hxe with
  | [y0, y1, y2, y3], _, _ =>
    have c0 : Try.prog.cellsOf 22 = 1 := by kernel_rfl
    have c1 : Try.prog.cellsOf 23 = 1 := by kernel_rfl
    have c3 : Try.prog.cellsOf 24 = 1 := by kernel_rfl
    have f0 : DataW.trod enc Try.prog w 0 (fun _ => true) held m 22 ((cs.toList.drop 0).take (Try.prog.cellsOf 22)) = some y0 := hx 0 _ rfl
    have f1 : DataW.trod enc Try.prog w 0 (fun _ => true) held m 23 ((cs.toList.drop 1).take (Try.prog.cellsOf 23)) = some y1 := hx 1 _ rfl
    have f2 : DataW.trod enc Try.prog w 0 (fun _ => true) held m 23 ((cs.toList.drop 2).take (Try.prog.cellsOf 23)) = some y2 := hx 2 _ rfl
    have f3 : DataW.trod enc Try.prog w 0 (fun _ => true) held m 24 ((cs.toList.drop 3).take (Try.prog.cellsOf 24)) = some y3 := hx 3 _ rfl
    rw [c0] at f0
    rw [c1] at f1 f2
    rw [c3] at f3
    obtain ⟨z0, g0, _, b0⟩ := DataW.trod_int Try.underlying22 f0
    have hz0 := bounds_u8 b0
    have ds : ∀ (fuel : Nat) (cs : List Value) (x : DataW H × List MemPlace), DataW.trod enc Try.prog w 0 (fun _ => true) held fuel 9 cs = some x → ∃ a, sK.ok a ∧ cs = sK.enc a := fun fuel cs x h => by
      obtain ⟨s, rfl, _, hs⟩ := DataW.trod_string Try.underlying9 h
      exact ⟨s, hs, rfl⟩
    have di : ∀ (fuel : Nat) (cs : List Value) (x : DataW H × List MemPlace), DataW.trod enc Try.prog w 0 (fun _ => true) held fuel 3 cs = some x → ∃ a, iK.ok a ∧ cs = iK.enc a := fun fuel cs x h => by
      obtain ⟨z, rfl, _, hb⟩ := DataW.trod_int Try.underlying3 h
      exact ⟨z, i64_wf hb, rfl⟩
    obtain ⟨a1, n1, k1, g1, l1, e1, L1⟩ := lv_in sK (by kernel_rfl) ds f1
    obtain ⟨a2, n2, k2, g2, l2, e2, L2⟩ := lv_in sK (by kernel_rfl) ds f2
    obtain ⟨a3, n3, k3, g3, l3, e3, L3⟩ := lv_in iK (by kernel_rfl) di f3
    subst e1 e2 e3
    have i0 := one_cellN g0
    have i1 := one_cellN g1
    have i2 := one_cellN g2
    have i3 := one_cellN g3
    refine ⟨⟨z0.toNat, l1, l2, l3⟩, a1, k1, a2, k2, a3, k3, ?_, by show z0.toNat < 256; omega, L1, L2, L3⟩
    unfold ndV
    congr 1
    apply Array.ext_getElem?
    intro i
    by_cases h4 : i < 4
    · have hi : i = 0 ∨ i = 1 ∨ i = 2 ∨ i = 3 := by omega
      rcases hi with rfl | rfl | rfl | rfl
      · rw [← Array.getElem?_toList, i0]
        show some (Value.int .u8 z0) = some (Value.int .u8 ((z0.toNat : Nat) : Int))
        rw [show ((z0.toNat : Nat) : Int) = z0 by omega]
      · rw [← Array.getElem?_toList, i1]; rfl
      · rw [← Array.getElem?_toList, i2]; rfl
      · rw [← Array.getElem?_toList, i3]; rfl
    · rw [Array.getElem?_eq_none (by omega), Array.getElem?_eq_none (by simp; omega)]
end Go.Proofs.Ytlefkaoibokjdaa
namespace Go.Proofs.Ytlefkaoibokjdaa
open Go.RowKit
set_option linter.unusedVariables false

theorem OwnB.of_heap {w : World} {base g : Nat} {l : List Nat} (hb : base ≤ g) (hl : ∀ x ∈ l, x < 256) (hm : l.length ≤ maxLen) (h : w.heap[g]? = some (.cells (l.map u8).toArray 5 (0, 0))) :
    OwnB w base (.slice (some ⟨g, 0, none⟩) l.length l.length) l :=
  ⟨hl, by simp, .inr ⟨g, l.length, (l.map u8).toArray, rfl, hb, h, Nat.le_refl _, hm, by simp, by rw [Nat.mul_one]; exact List.take_of_length_le (by simp)⟩⟩
theorem OwnB.heap_ {w : World} {base g : Nat} {l : List Nat} (h : OwnB w base (.slice (some ⟨g, 0, none⟩) l.length l.length) l) : base ≤ g ∧ w.heap[g]? = some (.cells (l.map u8).toArray 5 (0, 0)) := by
  rcases h.2.2 with ⟨e, _⟩ | ⟨g', cap, cur, e, hb, hh, _, _, hs, ht⟩
  · cases e
  · injection e with e1 e2 e3
    injection e1 with e1
    injection e1 with e1
    subst e1 e3
    refine ⟨hb, ?_⟩
    rw [hh]
    congr 2
    rw [List.take_of_length_le (by rw [Array.length_toList]; omega)] at ht
    rw [← ht]
theorem zeros_heap {w : World} {base g n : Nat} (h : w.ownsRow base 5 1 (.slice (some ⟨g, 0, none⟩) n n) n (madeCells (Value.int .u8 0).cells (n * 1)).toList) :
    w.heap[g]? = some (.cells (List.replicate n (Value.int .u8 0)).toArray 5 (0, 0)) := by
  have e : (madeCells (Value.int .u8 0).cells (n * 1)).toList = (List.replicate n 0).map u8 := by
    rw [Nat.mul_one]
    show (madeCells #[Value.int .u8 0] n).toList = _
    rw [toList_madeCells_one, List.map_replicate]; rfl
  rw [e] at h
  have hl : (List.replicate n 0).length = n := List.length_replicate
  have hO : OwnB w base (.slice (some ⟨g, 0, none⟩) (List.replicate n 0).length (List.replicate n 0).length) (List.replicate n 0) := by
    refine ⟨fun x hx => by rw [List.eq_of_mem_replicate hx]; decide, ?_⟩
    rw [hl]; exact h
  have h2 := hO.heap_.2
  rw [List.map_replicate] at h2
  exact h2

theorem size5 : (Try.prog.info? 5).map (·.size) = some 1 := by kernel_rfl
/-- copy into a slice of the call's own, from place k on. -/
theorem copy_own {w : World} {base g : Nat} {z m : List Nat} {B k dl dc : Nat} {x : Value} (h : OwnB w base (.slice (some ⟨g, 0, none⟩) z.length z.length) z) (hm : z.length ≤ maxLen) (hx : Bv w B x m) (hfit : k + m.length ≤ z.length) (hd : m.length ≤ dl) :
    ∃ w2, (Builtin.copy_ #[27, 27] 3 #[.slice (some ⟨g, k, none⟩) dl dc, x]).run Try.prog w = .ok (.int .i64 (m.length : Nat)) w2 ∧
      OwnB w2 base (.slice (some ⟨g, 0, none⟩) z.length z.length) (z.take k ++ m ++ z.drop (k + m.length)) ∧ w.grownBy w2 (some g) := by
  obtain ⟨A, c, rfl, _, _, _, hb⟩ := hx
  obtain ⟨hbg, hh⟩ := h.heap_
  by_cases h0 : 0 < m.length
  · obtain ⟨b, off, rfl, _, hc⟩ := hb.2 h0
    have hsrc : ∀ j v, (m.map u8)[j]? = some v → w.cell? ((⟨b, off, none⟩ : Addr).add j) = some v := by
      intro j v hv
      rw [List.getElem?_map] at hv
      cases hj : m[j]? with
      | none => rw [hj] at hv; cases hv
      | some y =>
        rw [hj] at hv
        have ea : (⟨b, off, none⟩ : Addr).add j = ⟨b, off + j, none⟩ := by unfold Addr.add; split <;> simp_all
        rw [ea, hc j y hj]
        simpa [u8] using hv
    have hrun := run_copy_row (P := Try.prog) w 27 27 3 5 g k dl dc ⟨b, off, none⟩ m.length c _ 5 (m.map u8) Try.underlying27 size5 hh
      (by rw [List.length_map]; exact (Nat.min_eq_left hd).symm) hsrc (by simpa using hfit) (by intro u hu; obtain ⟨_, _, rfl⟩ := List.mem_map.1 hu; rfl)
    have hlen : (z.take k ++ m ++ z.drop (k + m.length)).length = z.length := by simp; omega
    have h2 := setRow_heap w g _ ((z.take k ++ m ++ z.drop (k + m.length)).map u8).toArray _ _ hh
    have e : ((z.map u8).toArray.toList.take k ++ m.map u8 ++ (z.map u8).toArray.toList.drop (k + (m.map u8).length)).toArray = ((z.take k ++ m ++ z.drop (k + m.length)).map u8).toArray := by
      simp [List.map_take, List.map_drop]
    rw [e] at hrun
    refine ⟨w.setRow g ((z.take k ++ m ++ z.drop (k + m.length)).map u8).toArray, ?_, ?_, ⟨rfl, rfl, rfl, by simp, fun i _ hi => setRow_other w g i _ (fun e => hi (by rw [e]))⟩⟩
    · rw [hrun, List.length_map]; rfl
    have h3 := OwnB.of_heap (l := z.take k ++ m ++ z.drop (k + m.length)) hbg (by
      intro y hy
      rcases List.mem_append.1 hy with hy | hy
      · rcases List.mem_append.1 hy with hy | hy
        · exact h.1 y (List.mem_of_mem_take hy)
        · exact hb.1 y hy
      · exact h.1 y (List.mem_of_mem_drop hy)) (by rw [hlen]; exact hm) h2
    rw [hlen] at h3
    exact h3
  · obtain rfl : m = [] := List.eq_nil_of_length_eq_zero (by omega)
    have hrun := run_copy_none (P := Try.prog) w 27 27 3 5 (some ⟨g, k, none⟩) A dl dc 0 c Try.underlying27 size5 (by simp)
    refine ⟨w, by simpa [goInt] using hrun, ?_, ⟨rfl, rfl, rfl, Nat.le_refl _, fun _ _ _ => rfl⟩⟩
    simpa using h
end Go.Proofs.Ytlefkaoibokjdaa
