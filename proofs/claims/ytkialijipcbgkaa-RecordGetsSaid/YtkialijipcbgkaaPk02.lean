/-
  AppS: append on a slice of bytes that the call itself made, at a step of a region that draws its order.
  El: Lists of whatever elements: slices that read as a list, slices of the call's own with what stands in their spare room; append, make, set. Said once for all kinds of elements (El): no number of a program stands here.
  BpMath: Plain mathematics of chapter 10 (bpe): rows of tokens, steps, what no step changes any more. J tells the join of two tokens, and its rank.
  OpenL: An argument that is a slice of whatever elements, opened as a list: from how one element reads.
-/
import Derived.Test.YtkialijipcbgkaaPk01
import Derived.RegionTactic
import Derived.WalkKit
import Derived.WalkLawsBesides
import Derived.Outline
import Derived.Below
import Derived.Lib.Hide
import Derived.OwnWalk
import Derived.Laws.AppendOwnNone
import Derived.RowKit
import Derived.Deep.Slices
import Derived.Deep.Fields
import Derived.OpenShut
namespace Go.Proofs.Ytkialijipcbgkaa
open Go.RowKit

theorem step_append_bytes (w : World) {ops : Array Oper} {o : Oper} {a : Act} {K : Act → World → Prop} {Q : Exit → Act → World → Prop} {E : Prop} (hgd : o.guard = none) (s t : Operand)
    (ho : o.op = .call { callee := .builtin .append, args := #[s, t], argTypes := #[28, 28] }) (hty : o.type = 28)
    (base : Nat) (v : Value) (hs : a.eval s = v) (l : List Nat) (hown : OwnB w base v l) (x : Value) (hx0 : a.eval t = x) (B : Nat) (m : List Nat) (hx : Bv w B x m) (hsz : l.length + m.length ≤ 140737488355328) (hbase : base ≤ w.heap.size)
    (h : ∀ A c w', Apd w w' base v (.slice A (l ++ m).length c) (l ++ m) → K (a.put o.dst (.slice A (l ++ m).length c)) w') :
    if Region.wanted o (yielded ops a.tmps) = true then Oper.wp Try.prog o a w K Q else E := by
  have hw : Region.wanted o (yielded ops a.tmps) = true := by simp [Region.wanted, hgd]
  rw [if_pos hw]
  obtain ⟨v', w', hr, hA⟩ := run_append_bytes w base v l hown x B m hx hsz hbase
  obtain ⟨A, c, rfl, _⟩ := hA.own.form_
  unfold Oper.wp execOp
  simp only [ho, resolve, invoke, builtin, Sem.run_bind, Sem.run_pure, Result.andThen_ok, List.map_toArray, List.map_cons, List.map_nil, hs, hx0, hr, hty]
  exact h A c w' hA
end Go.Proofs.Ytkialijipcbgkaa
namespace Go.Proofs.Ytkialijipcbgkaa
open Go.RowKit
set_option linter.unusedVariables false

/-- A kind of elements: their type, the type of their slices, the cells of one. -/
structure El (P : Program) (α : Type) where
  e : TypeId
  s : TypeId
  size : Nat
  bytes : Nat
  zero : Value
  z : α
  enc : α → List Value
  ok : α → Prop
  len : ∀ x, (enc x).length = size
  one : ∀ x, ∀ u ∈ enc x, u.oneCell' = true
  okz : ok z
  encz : zero.cells = (enc z).toArray
  pos : 0 < size
  under : P.underlying s = some (.slice e)
  info : (P.info? e).map (fun i => (i.zero, i.size, i.bytes)) = some (some zero, size, bytes)

section
variable {P : Program} {α : Type} {K : El P α}

/-- The cells of a list. -/
def El.flat (K : El P α) (l : List α) : List Value := l.flatMap K.enc
theorem flat_nil : K.flat [] = [] := rfl
theorem flat_cons (x : α) (l : List α) : K.flat (x :: l) = K.enc x ++ K.flat l := by simp [El.flat]
theorem flat_app (l m : List α) : K.flat (l ++ m) = K.flat l ++ K.flat m := by simp [El.flat]
theorem flat_one (x : α) : K.flat [x] = K.enc x := by simp [El.flat]
theorem flat_len (l : List α) : (K.flat l).length = l.length * K.size := by
  induction l with
  | nil => simp [El.flat]
  | cons x r ih => rw [flat_cons, List.length_append, ih, K.len, List.length_cons, Nat.succ_mul, Nat.add_comm]
theorem flat_at {l : List α} {i : Nat} {x : α} (h : l[i]? = some x) {j : Nat} (hj : j < K.size) : (K.flat l)[i * K.size + j]? = (K.enc x)[j]? := by
  induction l generalizing i with
  | nil => simp at h
  | cons y r ih =>
    rw [flat_cons]
    cases i with
    | zero =>
      simp at h
      subst h
      rw [Nat.zero_mul, Nat.zero_add, List.getElem?_append_left (by rw [K.len]; exact hj)]
    | succ i =>
      simp at h
      rw [List.getElem?_append_right (by rw [K.len, Nat.succ_mul]; omega), K.len, Nat.succ_mul, ← ih h]
      congr 1
      omega
theorem flat_one_cell (l : List α) : ∀ u ∈ K.flat l, u.oneCell' = true := by
  intro u hu
  obtain ⟨x, _, hx⟩ := List.mem_flatMap.1 hu
  exact K.one x u hx
theorem flat_take (l m : List α) : (K.flat (l ++ m)).take (l.length * K.size) = K.flat l := by
  rw [flat_app, ← flat_len, List.take_left]
theorem flat_drop (l m : List α) : (K.flat (l ++ m)).drop (l.length * K.size) = K.flat m := by
  rw [flat_app, ← flat_len, List.drop_left]

theorem add_addr (b off n : Nat) : (⟨b, off, none⟩ : Addr).add n = ⟨b, off + n, none⟩ := by unfold Addr.add; split <;> simp_all

/-- The value v is a slice that holds the list l, in a block below B. -/
def Lv (K : El P α) (w : World) (B : Nat) (v : Value) (l : List α) : Prop :=
  ∃ A c, v = .slice A l.length c ∧ l.length ≤ c ∧ c ≤ maxLen ∧ (A = none → c = 0) ∧ (∀ x ∈ l, K.ok x) ∧
    (0 < l.length → ∃ b off, A = some ⟨b, off, none⟩ ∧ b < B ∧ ∀ j u, (K.flat l)[j]? = some u → w.cell? ⟨b, off + j, none⟩ = some u)

/-- The call's own slice v, in a block from base on, holds the list l; in its spare room stand elements too. -/
def OwnL (K : El P α) (w : World) (base : Nat) (v : Value) (l : List α) : Prop :=
  (∀ x ∈ l, K.ok x) ∧ ((v = .slice none 0 0 ∧ l = []) ∨
    ∃ g s, v = .slice (some ⟨g, 0, none⟩) l.length (l.length + s.length) ∧ base ≤ g ∧ (∀ x ∈ s, K.ok x) ∧ l.length + s.length ≤ maxLen ∧ w.heap[g]? = some (.cells (K.flat (l ++ s)).toArray K.e (0, 0)))

variable {w w' : World} {base B : Nat} {v : Value} {l : List α}

theorem Lv.nil_ (K : El P α) (w : World) (B : Nat) : Lv K w B (.slice none 0 0) [] := ⟨none, 0, rfl, by simp, by simp [maxLen], by simp, by simp, by simp⟩
theorem Lv.below_ (h : Lv K w B v l) {B' : Nat} (hb : Below B' w w') (hB : B ≤ B') : Lv K w' B v l := by
  obtain ⟨A, c, e, h1, h2, h3, h4, h5⟩ := h
  refine ⟨A, c, e, h1, h2, h3, h4, fun hp => ?_⟩
  obtain ⟨b, off, e, hl, hc⟩ := h5 hp
  exact ⟨b, off, e, hl, fun j u hj => (hb.cell (p := ⟨b, off + j, none⟩) (by show b < B'; omega)).trans (hc j u hj)⟩
theorem Lv.mono_ (h : Lv K w B v l) {B' : Nat} (hB : B ≤ B') : Lv K w B' v l := by
  obtain ⟨A, c, e, h1, h2, h3, h4, h5⟩ := h
  refine ⟨A, c, e, h1, h2, h3, h4, fun hp => ?_⟩
  obtain ⟨b, off, e, hl, hc⟩ := h5 hp
  exact ⟨b, off, e, by omega, hc⟩
theorem Lv.drewN_ (h : Lv K w B v l) (n : Nat) : Lv K (w.drewN n) B v l := h
theorem Lv.drew_ (h : Lv K w B v l) : Lv K w.drew B v l := h
theorem Lv.ok_ (h : Lv K w B v l) : ∀ x ∈ l, K.ok x := by obtain ⟨_, _, _, _, _, _, h, _⟩ := h; exact h
theorem Lv.len_ {A : Option Addr} {n c : Nat} (h : Lv K w B (.slice A n c) l) : n = l.length ∧ l.length ≤ c ∧ c ≤ maxLen := by
  obtain ⟨_, _, e, h1, h2, _⟩ := h
  injection e with e1 e2 e3
  subst e2 e3
  exact ⟨rfl, h1, h2⟩
theorem Lv.max_ (h : Lv K w B v l) : l.length ≤ 140737488355328 * 65536 := by
  obtain ⟨_, c, _, h1, h2, _⟩ := h
  simp only [maxLen] at h2
  omega
theorem Lv.kept_ (h : Lv K w B v l) {row : Option Nat} (hg : w.grownBy w' row) (hB : B ≤ w.heap.size) (hne : ∀ k, row = some k → B ≤ k) : Lv K w' B v l :=
  h.below_ (B' := B) ((Below.refl B w).grown hg hB hne) (Nat.le_refl _)
/-- Element k, whose cells these are. -/
theorem Lv.at_ {A : Option Addr} {n c : Nat} (h : Lv K w B (.slice A n c) l) {k : Nat} (hk : k < l.length) :
    ∃ b off x, A = some ⟨b, off, none⟩ ∧ b < B ∧ K.ok x ∧ l[k]? = some x ∧ ∀ j u, (K.enc x)[j]? = some u → w.cell? ⟨b, off + (k * K.size + j), none⟩ = some u := by
  obtain ⟨A', c', e, h1, h2, h3, h4, h5⟩ := h
  injection e with e1 e2 e3
  subst e1
  obtain ⟨b, off, rfl, hb, hc⟩ := h5 (by omega)
  refine ⟨b, off, l[k], rfl, hb, h4 _ (List.getElem_mem hk), List.getElem?_eq_getElem hk, fun j u hj => hc _ u ?_⟩
  have hjs : j < K.size := by have := (List.getElem?_eq_some_iff.1 hj).1; rw [K.len] at this; exact this
  rw [flat_at (List.getElem?_eq_getElem hk) hjs]
  exact hj
theorem Lv.take_ {A : Option Addr} {n c : Nat} (h : Lv K w B (.slice A n c) l) {k : Nat} (hk : k ≤ l.length) : Lv K w B (.slice A k c) (l.take k) := by
  obtain ⟨A', c', e, h1, h2, h3, h4, h5⟩ := h
  injection e with e1 e2 e3
  subst e1 e3
  have hl : (l.take k).length = k := by rw [List.length_take]; omega
  refine ⟨A, c, by rw [hl], by rw [hl]; omega, h2, h3, fun x hx => h4 x (List.mem_of_mem_take hx), fun hp => ?_⟩
  obtain ⟨b, off, e, hb, hc⟩ := h5 (by omega)
  refine ⟨b, off, e, hb, fun j u hj => hc j u ?_⟩
  have e2 : K.flat l = K.flat (l.take k) ++ K.flat (l.drop k) := by rw [← flat_app, List.take_append_drop]
  rw [e2, List.getElem?_append_left (List.getElem?_eq_some_iff.1 hj).1]
  exact hj

theorem OwnL.nil_ (K : El P α) (w : World) (base : Nat) : OwnL K w base (.slice none 0 0) [] := ⟨by simp, .inl ⟨rfl, rfl⟩⟩
theorem OwnL.ok_ (h : OwnL K w base v l) : ∀ x ∈ l, K.ok x := h.1
theorem OwnL.lt_ (h : OwnL K w base v l) : ∀ k, v.ownBlock = some k → base ≤ k ∧ k < w.heap.size := by
  intro k hk
  rcases h.2 with ⟨rfl, _⟩ | ⟨g, s, rfl, hb, _, _, hg⟩
  · simp [Value.ownBlock] at hk
  · simp [Value.ownBlock] at hk
    subst hk
    exact ⟨hb, (Array.getElem?_eq_some_iff.1 hg).1⟩
/-- What it was with the library's word. -/
theorem OwnL.row_ (h : OwnL K w base v l) : w.ownsRow base K.e K.size v l.length (K.flat l) := by
  refine ⟨flat_len l, ?_⟩
  rcases h.2 with ⟨rfl, rfl⟩ | ⟨g, s, rfl, hb, _, hm, hg⟩
  · exact .inl ⟨rfl, rfl⟩
  · exact .inr ⟨g, _, _, rfl, hb, hg, by omega, hm, by rw [List.size_toArray, flat_len, List.length_append], flat_take l s⟩
theorem OwnL.form_ (h : OwnL K w base v l) : Lv K w w.heap.size v l := by
  rcases h.2 with ⟨rfl, rfl⟩ | ⟨g, s, rfl, hb, _, hm, hg⟩
  · exact Lv.nil_ _ _ _
  · refine ⟨_, _, rfl, by omega, hm, by simp, h.1, fun _ => ⟨g, 0, rfl, (Array.getElem?_eq_some_iff.1 hg).1, fun j u hj => ?_⟩⟩
    rw [Nat.zero_add, cell_of_row w g j _ _ _ hg, List.getElem?_toArray, flat_app, List.getElem?_append_left (List.getElem?_eq_some_iff.1 hj).1]
    exact hj
theorem OwnL.kept_ (h : OwnL K w base v l) {row : Option Nat} (hg : w.grownBy w' row) (hne : v.ownBlock = none ∨ v.ownBlock ≠ row) : OwnL K w' base v l := by
  refine ⟨h.1, ?_⟩
  rcases h.2 with hn | ⟨g, s, rfl, hb, hs, hm, hh⟩
  · exact .inl hn
  · refine .inr ⟨g, s, rfl, hb, hs, hm, ?_⟩
    rw [hg.block g (Array.getElem?_eq_some_iff.1 hh).1 (by simpa [Value.ownBlock] using hne)]
    exact hh
theorem OwnL.alloc_ (h : OwnL K w base v l) (o : Obj) : OwnL K (w.alloc o) base v l := h.kept_ (World.grownBy_alloc w o none) (by cases v.ownBlock <;> simp)
theorem OwnL.drewN_ (h : OwnL K w base v l) (n : Nat) : OwnL K (w.drewN n) base v l := h
theorem OwnL.drew_ (h : OwnL K w base v l) : OwnL K w.drew base v l := h
theorem OwnL.below_ (h : OwnL K w base v l) {B : Nat} (hb : Below B w w') (hB : w.heap.size ≤ B) : OwnL K w' base v l := by
  refine ⟨h.1, ?_⟩
  rcases h.2 with hn | ⟨g, s, rfl, hg, hs, hm, hh⟩
  · exact .inl hn
  · refine .inr ⟨g, s, rfl, hg, hs, hm, ?_⟩
    have hlt : g < w.heap.size := (Array.getElem?_eq_some_iff.1 hh).1
    rw [hb.block g (by omega)]
    exact hh
theorem OwnL.mono_ (h : OwnL K w base v l) {base' : Nat} (hb : base' ≤ base) : OwnL K w base' v l := by
  refine ⟨h.1, ?_⟩
  rcases h.2 with hn | ⟨g, s, rfl, hg, hr⟩
  · exact .inl hn
  · exact .inr ⟨g, s, rfl, by omega, hr⟩
/-- It is told so in each world in which its block is as it was. -/
theorem OwnL.of_block (h : OwnL K w base v l) (hb : ∀ k, v.ownBlock = some k → w'.heap[k]? = w.heap[k]?) : OwnL K w' base v l := by
  refine ⟨h.1, ?_⟩
  rcases h.2 with hn | ⟨g, s, rfl, hg, hs, hm, hh⟩
  · exact .inl hn
  · exact .inr ⟨g, s, rfl, hg, hs, hm, (hb g rfl).trans hh⟩
/-- Two own slices in unlike blocks: what turns one leaves the other. -/
theorem OwnL.apart_ {β : Type} {K' : El P β} {base' : Nat} {v' : Value} {l' : List β} (h : OwnL K w base v l) (h' : OwnL K' w base' v' l') (hv : ∀ k, v'.ownBlock = some k → k < base) : v.ownBlock = none ∨ v.ownBlock ≠ v'.ownBlock := by
  cases hb : v.ownBlock with
  | none => exact .inl rfl
  | some k =>
    refine .inr fun e => ?_
    have h1 := (h.lt_ k hb).1
    have h2 := hv k e.symm
    omega

/-- Element k of an own slice. -/
theorem OwnL.at_ {A : Option Addr} {n c : Nat} (h : OwnL K w base (.slice A n c) l) {k : Nat} (hk : k < l.length) :
    ∃ g x, A = some ⟨g, 0, none⟩ ∧ n = l.length ∧ base ≤ g ∧ K.ok x ∧ l[k]? = some x ∧ (∀ j u, (K.enc x)[j]? = some u → w.cell? ⟨g, k * K.size + j, none⟩ = some u) ∧ ∀ j, w.frozen? ⟨g, j, none⟩ = false := by
  rcases h.2 with ⟨e, rfl⟩ | ⟨g, s, e, hb, hs, hm, hh⟩
  · simp at hk
  · injection e with e1 e2 e3
    subst e1 e2
    refine ⟨g, l[k], rfl, rfl, hb, h.1 _ (List.getElem_mem hk), List.getElem?_eq_getElem hk, fun j u hj => ?_, fun j => frozen_of_row w g j _ _ hh⟩
    have hjs : j < K.size := by have := (List.getElem?_eq_some_iff.1 hj).1; rw [K.len] at this; exact this
    rw [cell_of_row w g _ _ _ _ hh, List.getElem?_toArray, flat_at (x := l[k]) (by rw [List.getElem?_append_left hk]; exact List.getElem?_eq_getElem hk) hjs]
    exact hj
/-- No cell of an own slice's block is frozen. -/
theorem OwnL.cool_ {g n c : Nat} (h : OwnL K w base (.slice (some ⟨g, 0, none⟩) n c) l) (j : Nat) : w.frozen? ⟨g, j, none⟩ = false := by
  rcases h.2 with ⟨e, _⟩ | ⟨g', s, e, _, _, _, hh⟩
  · cases e
  · injection e with e1 _ _
    injection e1 with e1
    injection e1 with e1
    subst e1
    exact frozen_of_row w g j _ _ hh
theorem flat_set {l : List α} {k : Nat} (hk : k < l.length) (h1 : K.size = 1) {x : α} {u : Value} (hx : K.enc x = [u]) : (K.flat l).set k u = K.flat (l.set k x) := by
  induction l generalizing k with
  | nil => simp at hk
  | cons y r ih =>
    have hy : ∃ t, K.enc y = [t] := by
      have := K.len y
      rw [h1] at this
      exact List.length_eq_one_iff.1 this
    obtain ⟨t, ht⟩ := hy
    cases k with
    | zero => simp [flat_cons, ht, hx]
    | succ k =>
      simp at hk
      simp [flat_cons, ht, ih hk]
/-- One element of one cell is set. -/
theorem OwnL.set_ {g c n : Nat} (h : OwnL K w base (.slice (some ⟨g, 0, none⟩) n c) l) (h1 : K.size = 1) {j : Nat} (hj : j < l.length) {x : α} {u : Value} (hx : K.ok x) (hu : K.enc x = [u]) :
    OwnL K (w.setCell ⟨g, j, none⟩ u) base (.slice (some ⟨g, 0, none⟩) n c) (l.set j x) ∧ w.grownBy (w.setCell ⟨g, j, none⟩ u) (some g) := by
  rcases h.2 with ⟨e, rfl⟩ | ⟨g', s, e, hb, hs, hm, hh⟩
  · cases e
  · injection e with e1 e2 e3
    injection e1 with e1
    injection e1 with e1
    subst e1 e2 e3
    refine ⟨⟨fun y hy => ?_, .inr ⟨g, s, by rw [List.length_set], hb, hs, by rw [List.length_set]; exact hm, ?_⟩⟩, ⟨rfl, rfl, rfl, by simp, fun k _ hk => heap_setCell_other w ⟨g, j, none⟩ k u (fun e => hk (by simp [e]))⟩⟩
    · rcases List.mem_or_eq_of_mem_set hy with h3 | rfl
      · exact h.1 y h3
      · exact hx
    · rw [heap_setCell_same w g j _ _ u hh, ← List.set_append_left _ _ hj, ← flat_set (by simp; omega) h1 hu]
      simp

/-! append. -/
theorem zero_cells (n : Nat) : Builtin.zeroCells K.zero.cells n = (K.flat (List.replicate n K.z)).toArray := by
  rw [K.encz]
  apply Array.ext_getElem?
  intro j
  have hz : (K.enc K.z).length = K.size := K.len _
  have hp := K.pos
  have he : (K.flat (List.replicate n K.z)).toArray[j]? = (K.flat (List.replicate n K.z))[j]? := by simp
  simp only [Builtin.zeroCells, List.size_toArray, hz, Array.getElem?_map]
  by_cases hj : j < n * K.size
  · have hq : j / K.size < n := (Nat.div_lt_iff_lt_mul hp).2 hj
    have hr : j % K.size < K.size := Nat.mod_lt _ hp
    have hf := flat_at (K := K) (l := List.replicate n K.z) (i := j / K.size) (x := K.z) (by rw [List.getElem?_replicate, if_pos hq]) hr
    rw [Nat.div_add_mod' j K.size] at hf
    rw [he, hf, List.getElem?_eq_getElem (by rw [hz]; exact hr)]
    simp [hj, hz, hr]
  · rw [he, List.getElem?_eq_none (l := K.flat _) (by rw [flat_len, List.length_replicate]; omega)]
    simp [hj]
theorem made_cells (n : Nat) : madeCells K.zero.cells (n * K.size) = (K.flat (List.replicate n K.z)).toArray := by
  rw [← zero_cells]
  simp only [madeCells, Builtin.zeroCells, K.encz, List.size_toArray, K.len]

/-- Where v' lies: where v lay, or in a new block. -/
def Moved (w : World) (v v' : Value) : Prop := ∀ k, v'.ownBlock = some k → v.ownBlock = some k ∨ w.heap.size ≤ k
/-- Two slices in unlike blocks. -/
def Apart (u v : Value) : Prop := ∀ k, u.ownBlock = some k → v.ownBlock ≠ some k
theorem Apart.symm {u v : Value} (h : Apart u v) : Apart v u := fun k h1 h2 => h k h2 h1
theorem Apart.nil_ (v : Value) : Apart (.slice none 0 0) v := fun k h => by cases h
theorem Apart.moved {w : World} {u v v' : Value} (h : Apart u v) (hm : Moved w v v') (hu : ∀ k, u.ownBlock = some k → k < w.heap.size) : Apart u v' := fun k h1 h2 => by
  rcases hm k h2 with h3 | h3
  · exact h k h1 h3
  · have := hu k h1; omega
theorem Apart.ne_ {u v : Value} (h : Apart u v) : u.ownBlock = none ∨ u.ownBlock ≠ v.ownBlock := by
  cases hb : u.ownBlock with
  | none => exact .inl rfl
  | some k => exact .inr fun e => h k hb e.symm
theorem run_append_m (w : World) (base : Nat) (v : Value) (l : List α) (hown : OwnL K w base v l) (ty : TypeId) (x : Value) (B : Nat) (m : List α) (hx : Lv K w B x m) (hsz : (l.length + m.length) * K.bytes ≤ 140737488355328) (h63 : l.length + m.length ≤ maxLen) (hbase : base ≤ w.heap.size) :
    ∃ v' w', (Builtin.append_ #[K.s, K.s] ty #[v, x]).run P w = .ok v' w' ∧ OwnL K w' base v' (l ++ m) ∧ w.grownBy w' v.ownBlock ∧ Moved w v v' := by
  obtain ⟨i0, hi, hz0, hz1, hz2⟩ := info_parts K.info
  obtain ⟨A, c, rfl, hmc, hcm, hnil, hok, hm⟩ := hx
  have hokr : ∀ n, ∀ y ∈ List.replicate n K.z, K.ok y := fun n y hy => by rw [List.eq_of_mem_replicate hy]; exact K.okz
  by_cases h0 : m = []
  · subst h0
    refine ⟨v, w, ?_, by simpa using hown, ⟨rfl, rfl, rfl, Nat.le_refl _, fun _ _ _ => rfl⟩, fun k hk => .inl hk⟩
    cases A with
    | none =>
      obtain rfl := hnil rfl
      exact run_append_owned_none w base _ _ _ i0 K.size K.under hi v l.length _ hown.row_
    | some ad =>
      rcases hown.2 with ⟨rfl, rfl⟩ | ⟨g, s, rfl, _⟩
      · simp [Builtin.append_, run_underlying K.under, sizeOf, typeInfo, hi, Builtin.lenOf, Builtin.firstCells, loadCells, loadCellsFrom]
      · simp [Builtin.append_, run_underlying K.under, sizeOf, typeInfo, hi, Builtin.lenOf, Builtin.firstCells, loadCells, loadCellsFrom, storeCells]
  · have hp : 0 < m.length := List.length_pos_iff.2 h0
    obtain ⟨b, off, rfl, hb, hc⟩ := hm hp
    have hnews : ∀ j u, (K.flat m)[j]? = some u → w.cell? ((⟨b, off, none⟩ : Addr).add j) = some u := fun j u hj => by rw [add_addr]; exact hc j u hj
    have hall : ∀ y ∈ l ++ m, K.ok y := fun y hy => (List.mem_append.1 hy).elim (hown.1 y) (hok y)
    have hfl : (K.flat m).length = m.length * i0.size := by rw [hz1, flat_len]
    have hsm : l.length + m.length ≤ 9223372036854775807 := by simp only [maxLen] at h63; omega
    rcases hown.2 with ⟨rfl, rfl⟩ | ⟨g, s, rfl, hbg, hs, hcm', hg⟩
    · have hr := run_append_nil (P := P) w K.s ty K.e i0 _ K.under hi hz0 ⟨b, off, none⟩ m.length c (K.flat m) hfl hnews hp (by simp only [List.length_nil] at hsm; omega) (by rw [hz2]; simp only [List.length_nil, Nat.zero_add] at hsz; omega)
      have hge := grownCap_ge w m.length 0 K.e
      have hle := grownCap_le_maxLen w m.length 0 K.e (by simpa using h63)
      refine ⟨_, _, hr, ⟨hall, .inr ⟨w.heap.size, List.replicate (grownCap w m.length 0 K.e - m.length) K.z, ?_, hbase, hokr _, ?_, ?_⟩⟩, ⟨rfl, rfl, rfl, by simp, fun k hk _ => heap_alloc_old w.drew _ hk⟩, fun k hk => .inr (by simp [Value.ownBlock] at hk; omega)⟩
      · rw [List.nil_append, List.length_replicate, Nat.add_sub_cancel' hge]
      · rw [List.nil_append, List.length_replicate, Nat.add_sub_cancel' hge]; exact hle
      · rw [zero_cells, List.nil_append, flat_app, List.append_toArray]
        exact heap_alloc_new w.drew _
    · have hol : (K.flat l).length = l.length * i0.size := by rw [hz1, flat_len]
      by_cases hroom : l.length + m.length ≤ l.length + s.length
      · have hr := run_append_room (P := P) w K.s ty K.e i0 K.under hi g l.length (l.length + s.length) _ hg ⟨b, off, none⟩ m.length c (K.flat m) hfl hnews (flat_one_cell m) hroom (by rw [List.size_toArray, hfl, flat_len, hz1, List.length_append, ← Nat.add_mul]; exact Nat.mul_le_mul_right _ hroom)
        refine ⟨_, _, hr, ⟨hall, .inr ⟨g, s.drop m.length, ?_, hbg, fun y hy => hs y (List.mem_of_mem_drop hy), ?_, ?_⟩⟩, ⟨rfl, rfl, rfl, by simp, fun k _ hk => setRow_other w g k _ (fun e => hk (by simp [Value.ownBlock, e]))⟩, fun k hk => .inl hk⟩
        · rw [List.length_append, List.length_drop]
          congr 1
          omega
        · rw [List.length_append, List.length_drop]; omega
        · rw [setRow_heap w g _ _ _ _ hg]
          congr 3
          have e : K.flat (l ++ s) = K.flat (l ++ s.take m.length) ++ K.flat (s.drop m.length) := by rw [← flat_app, List.append_assoc, List.take_append_drop]
          have e2 : (K.flat (l ++ s.take m.length)).length = (l.length + m.length) * K.size := by rw [flat_len, List.length_append, List.length_take, Nat.min_eq_left (by omega)]
          rw [hz1, List.toList_toArray, flat_take, hfl, hz1, ← Nat.add_mul, e, ← e2, List.drop_left, ← flat_app, ← flat_app]
      · have holds : ∀ j u, (K.flat l)[j]? = some u → w.cell? ((⟨g, 0, none⟩ : Addr).add j) = some u := fun j u hj => by
          rw [add_addr, Nat.zero_add, cell_of_row w g j _ _ _ hg, List.getElem?_toArray, flat_app, List.getElem?_append_left (List.getElem?_eq_some_iff.1 hj).1]
          exact hj
        have hr := run_append_grow (P := P) w K.s ty K.e i0 _ K.under hi hz0 ⟨g, 0, none⟩ l.length (l.length + s.length) (K.flat l) hol holds ⟨b, off, none⟩ m.length c (K.flat m) hfl hnews (by omega) (by omega) (growslice_fits (by omega) (by rw [hz2]; exact hsz))
        have hge := grownCap_ge w (l.length + m.length) (l.length + s.length) K.e
        have hle := grownCap_le_maxLen w (l.length + m.length) (l.length + s.length) K.e h63
        refine ⟨_, _, hr, ⟨hall, .inr ⟨w.heap.size, List.replicate (grownCap w (l.length + m.length) (l.length + s.length) K.e - (l.length + m.length)) K.z, ?_, hbase, hokr _, ?_, ?_⟩⟩, ⟨rfl, rfl, rfl, by simp, fun k hk _ => heap_alloc_old w.drew _ hk⟩, fun k hk => .inr (by simp [Value.ownBlock] at hk; omega)⟩
        · rw [List.length_append, List.length_replicate, Nat.add_sub_cancel' hge]
        · rw [List.length_append, List.length_replicate, Nat.add_sub_cancel' hge]; exact hle
        · rw [zero_cells, flat_app, flat_app, List.append_toArray, List.append_toArray]
          exact heap_alloc_new w.drew _

theorem run_append_l (w : World) (base : Nat) (v : Value) (l : List α) (hown : OwnL K w base v l) (ty : TypeId) (x : Value) (B : Nat) (m : List α) (hx : Lv K w B x m) (hsz : (l.length + m.length) * K.bytes ≤ 140737488355328) (h63 : l.length + m.length ≤ maxLen) (hbase : base ≤ w.heap.size) :
    ∃ v' w', (Builtin.append_ #[K.s, K.s] ty #[v, x]).run P w = .ok v' w' ∧ OwnL K w' base v' (l ++ m) ∧ w.grownBy w' v.ownBlock := by
  obtain ⟨v', w', h1, h2, h3, _⟩ := run_append_m w base v l hown ty x B m hx hsz h63 hbase
  exact ⟨v', w', h1, h2, h3⟩

/-- An append of a slice, in the walk's form. -/
theorem wpList_append_l (w : World) {ops : Array Oper} {rest : List Oper} {o : Oper} {a : Act} {Q : Exit → Act → World → Prop} (K : El P α) (hgd : o.guard = none) (s t : Operand)
    (ho : o.op = .call { callee := .builtin .append, args := #[s, t], argTypes := #[K.s, K.s] })
    (base : Nat) (v : Value) (hs : a.eval s = v) (l : List α) (hown : OwnL K w base v l) (x : Value) (hx0 : a.eval t = x) (B : Nat) (m : List α) (hx : Lv K w B x m) (hsz : (l.length + m.length) * K.bytes ≤ 140737488355328) (h63 : l.length + m.length ≤ maxLen) (hbase : base ≤ w.heap.size)
    (h : ∀ A c w', OwnL K w' base (.slice A (l ++ m).length c) (l ++ m) → w.grownBy w' v.ownBlock → wpList P ops Q rest (a.put o.dst (.slice A (l ++ m).length c)) w') : wpList P ops Q (o :: rest) a w :=
  wpList_plain hgd fun K' hK => by
    obtain ⟨v', w', hr, hA, hG⟩ := run_append_l w base v l hown o.type x B m hx hsz h63 hbase
    obtain ⟨A, c, rfl, _⟩ := hA.form_
    unfold Oper.wp execOp
    simp only [ho, resolve, invoke, builtin, Sem.run_bind, Sem.run_pure, Result.andThen_ok, List.map_toArray, List.map_cons, List.map_nil, hs, hx0, hr]
    exact hK _ _ (h A c w' hA hG)

/-- An append of a slice, in the walk's form, with where it lies then. -/
theorem wpList_append_m (w : World) {ops : Array Oper} {rest : List Oper} {o : Oper} {a : Act} {Q : Exit → Act → World → Prop} (K : El P α) (hgd : o.guard = none) (s t : Operand)
    (ho : o.op = .call { callee := .builtin .append, args := #[s, t], argTypes := #[K.s, K.s] })
    (base : Nat) (v : Value) (hs : a.eval s = v) (l : List α) (hown : OwnL K w base v l) (x : Value) (hx0 : a.eval t = x) (B : Nat) (m : List α) (hx : Lv K w B x m) (hsz : (l.length + m.length) * K.bytes ≤ 140737488355328) (h63 : l.length + m.length ≤ maxLen) (hbase : base ≤ w.heap.size)
    (h : ∀ A c w', OwnL K w' base (.slice A (l ++ m).length c) (l ++ m) → w.grownBy w' v.ownBlock → Moved w v (.slice A (l ++ m).length c) → wpList P ops Q rest (a.put o.dst (.slice A (l ++ m).length c)) w') : wpList P ops Q (o :: rest) a w :=
  wpList_plain hgd fun K' hK => by
    obtain ⟨v', w', hr, hA, hG, hM⟩ := run_append_m w base v l hown o.type x B m hx hsz h63 hbase
    obtain ⟨A, c, rfl, _⟩ := hA.form_
    unfold Oper.wp execOp
    simp only [ho, resolve, invoke, builtin, Sem.run_bind, Sem.run_pure, Result.andThen_ok, List.map_toArray, List.map_cons, List.map_nil, hs, hx0, hr]
    exact hK _ _ (h A c w' hA hG hM)

/-- What append reads when one element is put behind. -/
theorem Lv.lit_ (w : World) {x : α} (hx : K.ok x) : Lv K (w.alloc (.cells (K.enc x).toArray K.e)) (w.heap.size + 1) (.slice (some ⟨w.heap.size, 0, none⟩) 1 1) [x] := by
  refine ⟨_, _, rfl, by simp, by simp [maxLen], by simp, by simpa using hx, fun _ => ⟨w.heap.size, 0, rfl, by omega, fun j u hj => ?_⟩⟩
  rw [flat_one] at hj
  rw [Nat.zero_add, cell_of_row _ w.heap.size j _ _ _ (heap_alloc_new w _), List.getElem?_toArray]
  exact hj
/-- A literal slice. -/
theorem Lv.build_ (K : El P α) (w : World) (l : List α) (hok : ∀ x ∈ l, K.ok x) (hm : l.length ≤ maxLen) (n : Nat) (hn : n = l.length) (cs : Array Value) (hcs : cs = (K.flat l).toArray) (e : TypeId) (he : e = K.e) :
    Lv K (w.alloc (.cells cs e)) (w.heap.size + 1) (.slice (some ⟨w.heap.size, 0, none⟩) n n) l := by
  subst hn hcs he
  refine ⟨_, _, rfl, Nat.le_refl _, hm, by simp, hok, fun _ => ⟨w.heap.size, 0, rfl, by omega, fun j u hj => ?_⟩⟩
  rw [Nat.zero_add, cell_of_row _ w.heap.size j _ _ _ (heap_alloc_new w _), List.getElem?_toArray]
  exact hj
theorem grown_alloc {w w' : World} {row : Option Nat} {o : Obj} (h : (w.alloc o).grownBy w' row) : w.grownBy w' row :=
  ⟨h.os, h.tape, h.output, Nat.le_trans (by simp) h.size, fun k hk hne => (h.block k (by simp; omega) hne).trans (heap_alloc_old w o hk)⟩
/-- One element put behind: append of a literal that was laid ahead of it. -/
theorem wpList_push_l (w : World) {ops : Array Oper} {rest : List Oper} {o : Oper} {a : Act} {Q : Exit → Act → World → Prop} (K : El P α) (hgd : o.guard = none) (s t : Operand)
    (ho : o.op = .call { callee := .builtin .append, args := #[s, t], argTypes := #[K.s, K.s] })
    (base : Nat) (v : Value) (hs : a.eval s = v) (l : List α) (hown : OwnL K w base v l) (ht : a.eval t = .slice (some ⟨w.heap.size, 0, none⟩) 1 1) (x : α) (hx : K.ok x) (cs : Array Value) (hcs : cs = (K.enc x).toArray) (e : TypeId) (he : e = K.e) (hsz : (l.length + 1) * K.bytes ≤ 140737488355328) (h63 : l.length + 1 ≤ maxLen) (hbase : base ≤ w.heap.size)
    (h : ∀ A c w', OwnL K w' base (.slice A (l.length + 1) c) (l ++ [x]) → w.grownBy w' v.ownBlock → wpList P ops Q rest (a.put o.dst (.slice A (l.length + 1) c)) w') : wpList P ops Q (o :: rest) a (w.alloc (.cells cs e)) := by
  subst hcs he
  refine wpList_append_l _ K hgd s t ho base v hs l (hown.alloc_ _) _ ht _ [x] (Lv.lit_ w hx) (by simpa using hsz) (by simpa using h63) (by simp; omega) fun A c w' h1 h2 => ?_
  rw [List.length_append, List.length_singleton] at h1 ⊢
  exact h A c w' h1 (grown_alloc h2)

/-- One element put behind: append of a literal that was laid ahead of it, with where it lies then. -/
theorem wpList_push_m (w : World) {ops : Array Oper} {rest : List Oper} {o : Oper} {a : Act} {Q : Exit → Act → World → Prop} (K : El P α) (hgd : o.guard = none) (s t : Operand)
    (ho : o.op = .call { callee := .builtin .append, args := #[s, t], argTypes := #[K.s, K.s] })
    (base : Nat) (v : Value) (hs : a.eval s = v) (l : List α) (hown : OwnL K w base v l) (ht : a.eval t = .slice (some ⟨w.heap.size, 0, none⟩) 1 1) (x : α) (hx : K.ok x) (cs : Array Value) (hcs : cs = (K.enc x).toArray) (e : TypeId) (he : e = K.e) (hsz : (l.length + 1) * K.bytes ≤ 140737488355328) (h63 : l.length + 1 ≤ maxLen) (hbase : base ≤ w.heap.size)
    (h : ∀ A c w', OwnL K w' base (.slice A (l.length + 1) c) (l ++ [x]) → w.grownBy w' v.ownBlock → Moved w v (.slice A (l.length + 1) c) → wpList P ops Q rest (a.put o.dst (.slice A (l.length + 1) c)) w') : wpList P ops Q (o :: rest) a (w.alloc (.cells cs e)) := by
  subst hcs he
  refine wpList_append_m _ K hgd s t ho base v hs l (hown.alloc_ _) _ ht _ [x] (Lv.lit_ w hx) (by simpa using hsz) (by simpa using h63) (by simp; omega) fun A c w' h1 h2 h3 => ?_
  rw [List.length_append, List.length_singleton] at h1 h3 ⊢
  exact h A c w' h1 (grown_alloc h2) (fun k hk => (h3 k hk).imp id (fun h => by simp at h; omega))

/-- The same at a step of a region that draws its order. -/
theorem step_append_l (w : World) {ops : Array Oper} {o : Oper} {a : Act} {K' : Act → World → Prop} {Q : Exit → Act → World → Prop} {E : Prop} (K : El P α) (hgd : o.guard = none) (s t : Operand)
    (ho : o.op = .call { callee := .builtin .append, args := #[s, t], argTypes := #[K.s, K.s] })
    (base : Nat) (v : Value) (hs : a.eval s = v) (l : List α) (hown : OwnL K w base v l) (x : Value) (hx0 : a.eval t = x) (B : Nat) (m : List α) (hx : Lv K w B x m) (hsz : (l.length + m.length) * K.bytes ≤ 140737488355328) (h63 : l.length + m.length ≤ maxLen) (hbase : base ≤ w.heap.size)
    (h : ∀ A c w', OwnL K w' base (.slice A (l ++ m).length c) (l ++ m) → w.grownBy w' v.ownBlock → K' (a.put o.dst (.slice A (l ++ m).length c)) w') :
    if Region.wanted o (yielded ops a.tmps) = true then Oper.wp P o a w K' Q else E := by
  have hw : Region.wanted o (yielded ops a.tmps) = true := by simp [Region.wanted, hgd]
  rw [if_pos hw]
  obtain ⟨v', w', hr, hA, hG⟩ := run_append_l w base v l hown o.type x B m hx hsz h63 hbase
  obtain ⟨A, c, rfl, _⟩ := hA.form_
  unfold Oper.wp execOp
  simp only [ho, resolve, invoke, builtin, Sem.run_bind, Sem.run_pure, Result.andThen_ok, List.map_toArray, List.map_cons, List.map_nil, hs, hx0, hr]
  exact h A c w' hA hG
theorem step_push_l (w : World) {ops : Array Oper} {o : Oper} {a : Act} {K' : Act → World → Prop} {Q : Exit → Act → World → Prop} {E : Prop} (K : El P α) (hgd : o.guard = none) (s t : Operand)
    (ho : o.op = .call { callee := .builtin .append, args := #[s, t], argTypes := #[K.s, K.s] })
    (base : Nat) (v : Value) (hs : a.eval s = v) (l : List α) (hown : OwnL K w base v l) (ht : a.eval t = .slice (some ⟨w.heap.size, 0, none⟩) 1 1) (x : α) (hx : K.ok x) (cs : Array Value) (hcs : cs = (K.enc x).toArray) (e : TypeId) (he : e = K.e) (hsz : (l.length + 1) * K.bytes ≤ 140737488355328) (h63 : l.length + 1 ≤ maxLen) (hbase : base ≤ w.heap.size)
    (h : ∀ A c w', OwnL K w' base (.slice A (l.length + 1) c) (l ++ [x]) → w.grownBy w' v.ownBlock → K' (a.put o.dst (.slice A (l.length + 1) c)) w') :
    if Region.wanted o (yielded ops a.tmps) = true then Oper.wp P o a (w.alloc (.cells cs e)) K' Q else E := by
  subst hcs he
  refine step_append_l _ K hgd s t ho base v hs l (hown.alloc_ _) _ ht _ [x] (Lv.lit_ w hx) (by simpa using hsz) (by simpa using h63) (by simp; omega) fun A c w' h1 h2 => ?_
  rw [List.length_append, List.length_singleton] at h1 ⊢
  exact h A c w' h1 (grown_alloc h2)

/-! make. -/
theorem run_make_l (K : El P α) (w : World) (base : Nat) (kl kc : IntKind) (m n : Nat) (hmn : m ≤ n) (hby : K.bytes * n ≤ 281474976710656) (h63 : n ≤ maxLen) (hbase : base ≤ w.heap.size) :
    ∃ w', (Instr.makeSlice K.s (.int kl (m : Int)) (.int kc (n : Int))).run P w = .ok (.slice (some ⟨w.heap.size, 0, none⟩) m n) w' ∧ OwnL K w' base (.slice (some ⟨w.heap.size, 0, none⟩) m n) (List.replicate m K.z) ∧ w.grownBy w' none := by
  obtain ⟨i0, hi, hz0, hz1, hz2⟩ := info_parts K.info
  have h63' : (n : Int) ≤ 9223372036854775807 := by simp only [maxLen] at h63; omega
  have hb' : (i0.bytes : Int) * (n : Int) ≤ 281474976710656 := by
    rw [hz2]
    have h : ((K.bytes * n : Nat) : Int) ≤ 281474976710656 := by omega
    rwa [Int.natCast_mul] at h
  have hr := run_make (P := P) w K.s K.e i0 _ K.under hi hz0 kl kc m n (by omega) (by omega) hb' h63'
  simp only [Int.toNat_natCast] at hr
  have hokr : ∀ n, ∀ y ∈ List.replicate n K.z, K.ok y := fun n y hy => by rw [List.eq_of_mem_replicate hy]; exact K.okz
  refine ⟨_, hr, ⟨hokr _, .inr ⟨w.heap.size, List.replicate (n - m) K.z, ?_, hbase, hokr _, ?_, ?_⟩⟩, World.grownBy_alloc w _ none⟩
  · rw [List.length_replicate, List.length_replicate, Nat.add_sub_cancel' hmn]
  · rw [List.length_replicate, List.length_replicate, Nat.add_sub_cancel' hmn]; exact h63
  · rw [hz1, made_cells, List.replicate_append_replicate, Nat.add_sub_cancel' hmn]
    exact heap_alloc_new w _
theorem wpList_make_l (w : World) {ops : Array Oper} {rest : List Oper} {o : Oper} {a : Act} {Q : Exit → Act → World → Prop} (K : El P α) (hg : o.guard = none) (lo co : Operand) (hop : o.op = Op.makeSlice K.s lo co)
    (base : Nat) (kl kc : IntKind) (L C : Int) (m n : Nat) (hl : a.eval lo = .int kl L) (hc : a.eval co = .int kc C) (hL : L = (m : Int)) (hC : C = (n : Int)) (hmn : m ≤ n) (hby : K.bytes * n ≤ 281474976710656) (h63 : n ≤ maxLen) (hbase : base ≤ w.heap.size)
    (hK : ∀ w', OwnL K w' base (.slice (some ⟨w.heap.size, 0, none⟩) m n) (List.replicate m K.z) → w.grownBy w' none → wpList P ops Q rest (a.put o.dst (.slice (some ⟨w.heap.size, 0, none⟩) m n)) w') : wpList P ops Q (o :: rest) a w := by
  refine wpList_plain hg fun K' hK' => ?_
  subst hL hC
  obtain ⟨w', hrun, r1, r2⟩ := run_make_l K w base kl kc m n hmn hby h63 hbase
  unfold Oper.wp
  simp [execOp, hop, hl, hc, hrun, Result.andThen]
  exact hK' _ _ (hK w' r1 r2)

/-! Lists read from the front. -/
theorem take_snoc {l : List α} {k : Nat} {x : α} (h : l[k]? = some x) : l.take (k + 1) = l.take k ++ [x] := by rw [List.take_add_one, h]; rfl
theorem take_both {la lb : List α} {k : Nat} {a b : α} (h : la.take k = lb.take k) (ha : la[k]? = some a) (hb : lb[k]? = some b) : (la.take (k + 1) = lb.take (k + 1)) ↔ a = b := by
  rw [take_snoc ha, take_snoc hb, h]
  simp
theorem take_unlike {la lb : List α} {k : Nat} (h : la.take k ≠ lb.take k) : la ≠ lb := fun e => h (by rw [e])
theorem take_whole {la lb : List α} {k : Nat} (h : la.take k = lb.take k) (ha : la.length ≤ k) (hb : lb.length ≤ k) : la = lb := by
  rwa [List.take_of_length_le ha, List.take_of_length_le hb] at h
theorem drop_at {l : List α} {k : Nat} {x : α} (h : l[k]? = some x) : l.drop k = x :: l.drop (k + 1) := by
  obtain ⟨hk, rfl⟩ := List.getElem?_eq_some_iff.1 h
  exact List.drop_eq_getElem_cons hk
end
end Go.Proofs.Ytkialijipcbgkaa
namespace Go.Proofs.Ytkialijipcbgkaa.Bp
set_option linter.unusedVariables false

section
variable (J : Int → Int → Option (Int × Nat))
/-- The join of a place and the next one. -/
def cand (l : List Int) (i : Nat) : Option (Int × Nat) := match l[i]?, l[i + 1]? with | some x, some y => J x y | _, _ => none
/-- Of the first k places: the one whose join is of the least rank, of these the leftmost; its join, its rank. -/
def pick (l : List Int) : Nat → Option (Nat × Int × Nat)
  | 0 => none
  | k + 1 => match cand J l k with
    | none => pick l k
    | some (t, r) => match pick l k with
      | none => some (k, t, r)
      | some (w, u, s) => if r < s then some (k, t, r) else some (w, u, s)
def joined (l : List Int) (w : Nat) (t : Int) : List Int := l.take w ++ t :: l.drop (w + 2)
def stepOf (l : List Int) : Option (List Int) := (pick J l (l.length - 1)).map fun p => joined l p.1 p.2.1
def run : Nat → List Int → List Int
  | 0, l => l
  | n + 1, l => match stepOf J l with | none => l | some m => run n m
def nf (l : List Int) : List Int := run J l.length l
end

section
variable {J : Int → Int → Option (Int × Nat)} {l : List Int}
theorem cand_some {i t r} (h : cand J l i = some (t, r)) : ∃ x y, l[i]? = some x ∧ l[i + 1]? = some y ∧ J x y = some (t, r) := by
  unfold cand at h
  cases h1 : l[i]? with
  | none => rw [h1] at h; cases h
  | some x =>
    cases h2 : l[i + 1]? with
    | none => rw [h1, h2] at h; cases h
    | some y => rw [h1, h2] at h; exact ⟨x, y, rfl, rfl, h⟩
theorem cand_of {i x y} (h1 : l[i]? = some x) (h2 : l[i + 1]? = some y) : cand J l i = J x y := by unfold cand; rw [h1, h2]
theorem cand_lt {i t r} (h : cand J l i = some (t, r)) : i + 1 < l.length := by
  obtain ⟨x, y, _, h2, _⟩ := cand_some h
  exact (List.getElem?_eq_some_iff.1 h2).1
theorem pick_none {k : Nat} : pick J l k = none ↔ ∀ i, i < k → cand J l i = none := by
  induction k with
  | zero => simp [pick]
  | succ k ih =>
    rw [pick]
    cases hc : cand J l k with
    | none =>
      simp only
      rw [ih]
      constructor
      · intro h i hi
        rcases Nat.lt_or_ge i k with h2 | h2
        · exact h i h2
        · have : i = k := by omega
          subst this; exact hc
      · intro h i hi
        exact h i (by omega)
    | some p =>
      obtain ⟨t, r⟩ := p
      simp only
      constructor
      · intro h
        cases hp : pick J l k with
        | none => rw [hp] at h; cases h
        | some q =>
          obtain ⟨w, u, s⟩ := q
          rw [hp] at h
          simp only at h
          split at h <;> cases h
      · intro h
        rw [h k (by omega)] at hc
        cases hc
/-- What pick tells is a join of the least rank, the leftmost. -/
theorem pick_some {k w t r} (h : pick J l k = some (w, t, r)) : w < k ∧ cand J l w = some (t, r) ∧ ∀ i, i < k → ∀ u s, cand J l i = some (u, s) → r < s ∨ (r = s ∧ w ≤ i) := by
  induction k generalizing w t r with
  | zero => cases h
  | succ k ih =>
    rw [pick] at h
    cases hc : cand J l k with
    | none =>
      rw [hc] at h
      obtain ⟨h1, h2, h3⟩ := ih h
      refine ⟨by omega, h2, fun i hi u s hu => ?_⟩
      rcases Nat.lt_or_ge i k with h4 | h4
      · exact h3 i h4 u s hu
      · have : i = k := by omega
        subst this; rw [hc] at hu; cases hu
    | some p =>
      obtain ⟨t0, r0⟩ := p
      rw [hc] at h
      simp only at h
      cases hp : pick J l k with
      | none =>
        rw [hp] at h
        have hn := pick_none.1 hp
        simp only [Option.some.injEq, Prod.mk.injEq] at h
        obtain ⟨rfl, rfl, rfl⟩ := h
        refine ⟨by omega, hc, fun i hi u s hu => ?_⟩
        rcases Nat.lt_or_ge i k with h4 | h4
        · rw [hn i h4] at hu; cases hu
        · have : i = k := by omega
          subst this; rw [hc] at hu
          simp only [Option.some.injEq, Prod.mk.injEq] at hu
          exact .inr ⟨hu.2, Nat.le_refl _⟩
      | some q =>
        obtain ⟨w1, u1, s1⟩ := q
        rw [hp] at h
        simp only at h
        obtain ⟨h1, h2, h3⟩ := ih hp
        by_cases hlt : r0 < s1
        · rw [if_pos hlt] at h
          simp only [Option.some.injEq, Prod.mk.injEq] at h
          obtain ⟨rfl, rfl, rfl⟩ := h
          refine ⟨by omega, hc, fun i hi u s hu => ?_⟩
          rcases Nat.lt_or_ge i k with h4 | h4
          · rcases h3 i h4 u s hu with h5 | h5
            · exact .inl (by omega)
            · exact .inl (by omega)
          · have : i = k := by omega
            subst this; rw [hc] at hu
            simp only [Option.some.injEq, Prod.mk.injEq] at hu
            exact .inr ⟨hu.2, Nat.le_refl _⟩
        · rw [if_neg hlt] at h
          simp only [Option.some.injEq, Prod.mk.injEq] at h
          obtain ⟨rfl, rfl, rfl⟩ := h
          refine ⟨by omega, h2, fun i hi u s hu => ?_⟩
          rcases Nat.lt_or_ge i k with h4 | h4
          · exact h3 i h4 u s hu
          · have : i = k := by omega
            subst this; rw [hc] at hu
            simp only [Option.some.injEq, Prod.mk.injEq] at hu
            obtain ⟨-, rfl⟩ := hu
            rcases Nat.lt_or_ge s1 r0 with h5 | h5
            · exact .inl h5
            · exact .inr ⟨by omega, by omega⟩
theorem pick_eq {k w t r} (hw : w < k) (hc : cand J l w = some (t, r)) (hm : ∀ i, i < k → ∀ u s, cand J l i = some (u, s) → r < s ∨ (r = s ∧ w ≤ i)) : pick J l k = some (w, t, r) := by
  cases hp : pick J l k with
  | none => rw [pick_none.1 hp w hw] at hc; cases hc
  | some q =>
    obtain ⟨w1, t1, r1⟩ := q
    obtain ⟨h1, h2, h3⟩ := pick_some hp
    have a := hm w1 h1 t1 r1 h2
    have b := h3 w hw t r hc
    have e : w1 = w := by omega
    subst e
    rw [hc] at h2
    simp only [Option.some.injEq, Prod.mk.injEq] at h2
    rw [h2.1, h2.2]
/-- The least of all places. -/
structure Least (J : Int → Int → Option (Int × Nat)) (l : List Int) (w : Nat) (t : Int) (r : Nat) : Prop where
  is : cand J l w = some (t, r)
  min : ∀ i u s, cand J l i = some (u, s) → r < s ∨ (r = s ∧ w ≤ i)
theorem Least.step {w t r} (h : Least J l w t r) : stepOf J l = some (joined l w t) := by
  unfold stepOf
  rw [pick_eq (by have := cand_lt h.is; omega) h.is (fun i _ => h.min i)]
  rfl
theorem stepOf_some {m} (h : stepOf J l = some m) : ∃ w t r, Least J l w t r ∧ m = joined l w t := by
  unfold stepOf at h
  cases hp : pick J l (l.length - 1) with
  | none => rw [hp] at h; cases h
  | some q =>
    obtain ⟨w, t, r⟩ := q
    rw [hp] at h
    obtain ⟨h1, h2, h3⟩ := pick_some hp
    exact ⟨w, t, r, ⟨h2, fun i u s hu => h3 i (by have := cand_lt hu; omega) u s hu⟩, (Option.some.inj h).symm⟩
theorem stepOf_none : stepOf J l = none ↔ ∀ i, cand J l i = none := by
  unfold stepOf
  rw [Option.map_eq_none_iff, pick_none]
  refine ⟨fun h i => ?_, fun h i _ => h i⟩
  cases hc : cand J l i with
  | none => rfl
  | some p =>
    have := h i (by have := cand_lt (t := p.1) (r := p.2) hc; omega)
    rw [hc] at this; exact this
/-- A row parted at a place that has a next one. -/
theorem parted {w x y} (h1 : l[w]? = some x) (h2 : l[w + 1]? = some y) : l = l.take w ++ x :: y :: l.drop (w + 2) := by
  have e1 := drop_at h1
  have e2 := drop_at h2
  conv => lhs; rw [← List.take_append_drop w l]
  rw [e1, e2]
theorem joined_len {w t} (h : w + 1 < l.length) : (joined l w t).length + 1 = l.length := by
  unfold joined
  rw [List.length_append, List.length_cons, List.length_take, List.length_drop]
  omega
theorem step_len {m} (h : stepOf J l = some m) : m.length + 1 = l.length := by
  obtain ⟨w, t, r, hl, rfl⟩ := stepOf_some h
  exact joined_len (cand_lt hl.is)
theorem step_two {m} (h : stepOf J l = some m) : 1 ≤ m.length := by
  obtain ⟨w, t, r, hl, rfl⟩ := stepOf_some h
  unfold joined
  rw [List.length_append, List.length_cons]; omega

/-! What all steps come to -/
theorem run_none {n} (h : stepOf J l = none) : run J n l = l := by cases n with | zero => rfl | succ n => rw [run, h]
theorem run_step {n m} (h : stepOf J l = some m) : run J (n + 1) l = run J n m := by rw [run, h]
theorem run_len : ∀ n (l : List Int), (run J n l).length ≤ l.length := by
  intro n
  induction n with
  | zero => intro l; exact Nat.le_refl _
  | succ n ih =>
    intro l
    cases h : stepOf J l with
    | none => rw [run_none h]; exact Nat.le_refl _
    | some m => rw [run_step h]; have := ih m; have := step_len h; omega
theorem run_end : ∀ n (l : List Int), l.length ≤ n + 1 → stepOf J (run J n l) = none := by
  intro n
  induction n with
  | zero =>
    intro l h
    show stepOf J l = none
    cases hs : stepOf J l with
    | none => rfl
    | some m => have := step_len hs; have := step_two hs; omega
  | succ n ih =>
    intro l h
    cases hs : stepOf J l with
    | none => rw [run_none hs]; exact hs
    | some m => rw [run_step hs]; exact ih m (by have := step_len hs; omega)
theorem run_more : ∀ n (l : List Int) k, l.length ≤ n + 1 → run J (n + k) l = run J n l := by
  intro n
  induction n with
  | zero =>
    intro l k h
    have hs : stepOf J l = none := run_end 0 l h
    rw [run_none hs, run_none hs]
  | succ n ih =>
    intro l k h
    cases hs : stepOf J l with
    | none => rw [run_none hs, run_none hs]
    | some m => rw [show n + 1 + k = (n + k) + 1 by omega, run_step hs, run_step hs]; exact ih m k (by have := step_len hs; omega)
theorem run_nf {n} (h : l.length ≤ n + 1) : run J n l = nf J l := by
  unfold nf
  rcases Nat.lt_or_ge n l.length with h2 | h2
  · have e : l.length = n + 1 := by omega
    rw [e, run_more n l 1 (by omega)]
  · obtain ⟨k, rfl⟩ : ∃ k, n = l.length + k := ⟨n - l.length, by omega⟩
    exact run_more _ _ _ (by omega)
theorem nf_end : stepOf J (nf J l) = none := run_end _ _ (by omega)
theorem nf_none (h : stepOf J l = none) : nf J l = l := run_none h
theorem nf_step {m} (h : stepOf J l = some m) : nf J l = nf J m := by
  have hl := step_len h
  unfold nf
  rw [← hl, run_step h]
theorem nf_len : (nf J l).length ≤ l.length := run_len _ _
/-- By steps: what each step hands on holds of the end. -/
theorem nf_ind {C : List Int → Prop} (h : ∀ l m, C l → stepOf J l = some m → C m) : ∀ (n : Nat) (l : List Int), l.length ≤ n → C l → C (nf J l) := by
  intro n
  induction n with
  | zero =>
    intro l hl hc
    have : l = [] := List.eq_nil_of_length_eq_zero (by omega)
    subst this
    exact hc
  | succ n ih =>
    intro l hl hc
    cases hs : stepOf J l with
    | none => rw [nf_none hs]; exact hc
    | some m => rw [nf_step hs]; exact ih m (by have := step_len hs; omega) (h l m hc hs)

/-! The bytes stay -/
section
theorem step_text {T : Int → List Nat} (hT : ∀ x y t r, J x y = some (t, r) → T t = T x ++ T y) {m} (h : stepOf J l = some m) : m.flatMap T = l.flatMap T := by
  obtain ⟨w, t, r, hl, rfl⟩ := stepOf_some h
  obtain ⟨x, y, h1, h2, h3⟩ := cand_some hl.is
  conv => rhs; rw [parted h1 h2]
  unfold joined
  simp only [List.flatMap_append, List.flatMap_cons, hT x y t r h3, List.append_assoc]
theorem nf_text {T : Int → List Nat} (hT : ∀ x y t r, J x y = some (t, r) → T t = T x ++ T y) : (nf J l).flatMap T = l.flatMap T :=
  nf_ind (C := fun m => m.flatMap T = l.flatMap T) (fun a b ha hs => (step_text hT hs).trans ha) l.length l (Nat.le_refl _) rfl
end
/-! So does what all tokens are -/
section
theorem step_all {V : Int → Prop} (hV : ∀ x y t r, J x y = some (t, r) → V t) {m} (hl : ∀ t ∈ l, V t) (h : stepOf J l = some m) : ∀ t ∈ m, V t := by
  obtain ⟨w, t, r, hL, rfl⟩ := stepOf_some h
  obtain ⟨x, y, h1, h2, h3⟩ := cand_some hL.is
  intro u hu
  unfold joined at hu
  simp only [List.mem_append, List.mem_cons] at hu
  rcases hu with hu | rfl | hu
  · exact hl u (List.mem_of_mem_take hu)
  · exact hV x y u r h3
  · exact hl u (List.mem_of_mem_drop hu)
theorem nf_all {V : Int → Prop} (hV : ∀ x y t r, J x y = some (t, r) → V t) (hl : ∀ t ∈ l, V t) : ∀ t ∈ nf J l, V t :=
  nf_ind (C := fun m => ∀ t ∈ m, V t) (fun a b ha hs => step_all hV ha hs) l.length l (Nat.le_refl _) hl
end

/-! A token that no join has parts a row -/
section
variable {c : Int}
theorem cand_left (hc2 : ∀ x, J x c = none) {X Y : List Int} {i : Nat} (h : i < X.length) : cand J (X ++ c :: Y) i = cand J X i := by
  have e1 : (X ++ c :: Y)[i]? = X[i]? := List.getElem?_append_left h
  rcases Nat.lt_or_ge (i + 1) X.length with h2 | h2
  · unfold cand
    rw [e1, List.getElem?_append_left h2]
  · have e2 : (X ++ c :: Y)[i + 1]? = some c := by rw [List.getElem?_append_right h2, show i + 1 - X.length = 0 by omega]; rfl
    obtain ⟨x, hx⟩ : ∃ x, X[i]? = some x := ⟨_, List.getElem?_eq_getElem h⟩
    rw [cand_of (e1.trans hx) e2, hc2]
    unfold cand
    rw [hx, List.getElem?_eq_none h2]
theorem cand_mid (hc1 : ∀ x, J c x = none) {X Y : List Int} : cand J (X ++ c :: Y) X.length = none := by
  have e1 : (X ++ c :: Y)[X.length]? = some c := by rw [List.getElem?_append_right (Nat.le_refl _), Nat.sub_self]; rfl
  unfold cand
  rw [e1]
  cases h : (X ++ c :: Y)[X.length + 1]? with
  | none => rfl
  | some y => exact hc1 y
theorem cand_right {X Y : List Int} {i : Nat} : cand J (X ++ c :: Y) (X.length + 1 + i) = cand J Y i := by
  have e : ∀ j, (X ++ c :: Y)[X.length + 1 + j]? = Y[j]? := fun j => by
    rw [List.getElem?_append_right (by omega), show X.length + 1 + j - X.length = j + 1 by omega, List.getElem?_cons_succ]
  unfold cand
  rw [e i, show X.length + 1 + i + 1 = X.length + 1 + (i + 1) by omega, e (i + 1)]
theorem cand_parts (hc1 : ∀ x, J c x = none) (hc2 : ∀ x, J x c = none) {X Y : List Int} {i t r} (h : cand J (X ++ c :: Y) i = some (t, r)) : (i < X.length ∧ cand J X i = some (t, r)) ∨ (∃ j, i = X.length + 1 + j ∧ cand J Y j = some (t, r)) := by
  rcases Nat.lt_or_ge i X.length with h1 | h1
  · exact .inl ⟨h1, (cand_left hc2 h1).symm.trans h⟩
  · rcases Nat.eq_or_lt_of_le h1 with h2 | h2
    · rw [← h2, cand_mid hc1] at h; cases h
    · obtain ⟨j, rfl⟩ : ∃ j, i = X.length + 1 + j := ⟨i - X.length - 1, by omega⟩
      exact .inr ⟨j, rfl, cand_right.symm.trans h⟩
theorem split_step (hc1 : ∀ x, J c x = none) (hc2 : ∀ x, J x c = none) {X Y m : List Int} (h : stepOf J (X ++ c :: Y) = some m) : (∃ X', stepOf J X = some X' ∧ m = X' ++ c :: Y) ∨ (∃ Y', stepOf J Y = some Y' ∧ m = X ++ c :: Y') := by
  obtain ⟨w, t, r, hL, rfl⟩ := stepOf_some h
  rcases cand_parts hc1 hc2 hL.is with ⟨hw, hx⟩ | ⟨j, rfl, hy⟩
  · refine .inl ⟨joined X w t, Least.step ⟨hx, fun i u s hu => ?_⟩, ?_⟩
    · exact hL.min i u s ((cand_left hc2 (by have := cand_lt hu; omega)).trans hu)
    · have hl := cand_lt hx
      unfold joined
      rw [List.take_append_of_le_length (by omega), List.drop_append_of_le_length (by omega), List.append_assoc, List.cons_append]
  · refine .inr ⟨joined Y j t, Least.step ⟨hy, fun i u s hu => ?_⟩, ?_⟩
    · have := hL.min (X.length + 1 + i) u s (cand_right.trans hu)
      omega
    · unfold joined
      rw [show X ++ c :: Y = (X ++ [c]) ++ Y by simp, show X.length + 1 + j = (X ++ [c]).length + j by simp, List.take_append, List.take_of_length_le (by omega), Nat.add_sub_cancel_left,
        show (X ++ [c]).length + j + 2 = (X ++ [c]).length + (j + 2) by omega, List.drop_append, List.drop_of_length_le (by omega), Nat.add_sub_cancel_left]
      simp
theorem split_none (hc1 : ∀ x, J c x = none) (hc2 : ∀ x, J x c = none) {X Y : List Int} (h : stepOf J (X ++ c :: Y) = none) : stepOf J X = none ∧ stepOf J Y = none := by
  rw [stepOf_none] at h
  refine ⟨stepOf_none.2 fun i => ?_, stepOf_none.2 fun i => ?_⟩
  · rcases Nat.lt_or_ge i X.length with h1 | h1
    · rw [← cand_left hc2 h1]; exact h i
    · unfold cand
      rw [List.getElem?_eq_none h1]
  · rw [← cand_right (X := X)]; exact h _
theorem nf_split (hc1 : ∀ x, J c x = none) (hc2 : ∀ x, J x c = none) : ∀ (n : Nat) (X Y : List Int), (X ++ c :: Y).length ≤ n → nf J (X ++ c :: Y) = nf J X ++ c :: nf J Y := by
  intro n
  induction n with
  | zero => intro X Y h; simp at h
  | succ n ih =>
    intro X Y h
    cases hs : stepOf J (X ++ c :: Y) with
    | none =>
      obtain ⟨h1, h2⟩ := split_none hc1 hc2 hs
      rw [nf_none hs, nf_none h1, nf_none h2]
    | some m =>
      have hl := step_len hs
      rcases split_step hc1 hc2 hs with ⟨X', h1, rfl⟩ | ⟨Y', h1, rfl⟩
      · rw [nf_step hs, nf_step h1]; exact ih X' Y (by omega)
      · rw [nf_step hs, nf_step h1]; exact ih X Y' (by omega)
end
end

/-! A join that ranks behind all others -/
section
variable {J K : Int → Int → Option (Int × Nat)} {R : Nat} {a b : Int} {l : List Int}
theorem more_step (hJ : ∀ x y t r, J x y = some (t, r) → K x y = some (t, r) ∧ r < R) (hK : ∀ x y t r, K x y = some (t, r) → J x y = some (t, r) ∨ (x = a ∧ y = b ∧ r = R)) {m} (h : stepOf J l = some m) : stepOf K l = some m := by
  obtain ⟨w, t, r, hL, rfl⟩ := stepOf_some h
  obtain ⟨x, y, h1, h2, h3⟩ := cand_some hL.is
  refine Least.step (r := r) ⟨(cand_of h1 h2).trans (hJ x y t r h3).1, fun i u s hu => ?_⟩
  obtain ⟨x', y', h1', h2', h3'⟩ := cand_some hu
  rcases hK x' y' u s h3' with h4 | ⟨_, _, rfl⟩
  · exact hL.min i u s ((cand_of h1' h2').trans h4)
  · exact .inl (hJ x y t r h3).2
theorem more_none (hK : ∀ x y t r, K x y = some (t, r) → J x y = some (t, r) ∨ (x = a ∧ y = b ∧ r = R)) (h : stepOf J l = none) (hn : ∀ i, ¬ (l[i]? = some a ∧ l[i + 1]? = some b)) : stepOf K l = none := by
  rw [stepOf_none] at h ⊢
  intro i
  cases hc : cand K l i with
  | none => rfl
  | some p =>
    obtain ⟨t, r⟩ := p
    obtain ⟨x, y, h1, h2, h3⟩ := cand_some hc
    rcases hK x y t r h3 with h4 | ⟨rfl, rfl, _⟩
    · have := h i
      rw [cand_of h1 h2, h4] at this; cases this
    · exact absurd ⟨h1, h2⟩ (hn i)
theorem more_nf (hJ : ∀ x y t r, J x y = some (t, r) → K x y = some (t, r) ∧ r < R) (hK : ∀ x y t r, K x y = some (t, r) → J x y = some (t, r) ∨ (x = a ∧ y = b ∧ r = R)) : ∀ (n : Nat) (l : List Int), l.length ≤ n → nf K l = nf K (nf J l) := by
  intro n
  induction n with
  | zero =>
    intro l hl
    have : l = [] := List.eq_nil_of_length_eq_zero (by omega)
    subst this
    rfl
  | succ n ih =>
    intro l hl
    cases hs : stepOf J l with
    | none => rw [nf_none hs]
    | some m => rw [nf_step hs, nf_step (more_step hJ hK hs)]; exact ih m (by have := step_len hs; omega)
theorem more_less {i t} (h1 : l[i]? = some a) (h2 : l[i + 1]? = some b) (h3 : K a b = some (t, R)) : (nf K l).length < l.length := by
  cases hs : stepOf K l with
  | none =>
    have := stepOf_none.1 hs i
    rw [cand_of h1 h2, h3] at this; cases this
  | some m => rw [nf_step hs]; have := step_len hs; have := nf_len (J := K) (l := m); omega
end
end Go.Proofs.Ytkialijipcbgkaa.Bp
namespace Go.Proofs.Ytkialijipcbgkaa
open Go.ChangeShapes Go.WideShapes Go.RowKit Go.Deep
set_option linter.unusedVariables false

theorem lv_open {H : Type} {enc : TypeId × Value → H} {P : Program} {w : World} {base : Nat} {spare : Nat → Bool} {held : Bool} {α : Type} (K : El P α) (hce : P.cellsOf K.e = K.size)
    (dec : ∀ (fuel : Nat) (cs : List Value) (x : DataW H × List MemPlace), DataW.trod enc P w base spare held fuel K.e cs = some x → ∃ a, K.ok a ∧ cs = K.enc a)
    {fuel : Nat} {a : Option Addr} {len cap : Nat} {x : DataW H × List MemPlace} (h : DataW.trod enc P w base spare held fuel K.s [.slice a len cap] = some x) :
    ∃ l : List α, l.length = len ∧ Lv K w w.heap.size (.slice a len cap) l := by
  rcases open_slice K.under h with ⟨h0, _⟩ | ⟨ad, len', cap', m, n, D, Pl, h0, _, hl, hm, hmm, _, hx⟩
  · simp at h0
    obtain ⟨rfl, rfl, rfl⟩ := h0
    exact ⟨[], rfl, Lv.nil_ _ _ _⟩
  · simp at h0
    obtain ⟨rfl, rfl, rfl⟩ := h0
    have hlm : len ≤ m := by rw [hmm]; split <;> omega
    haveI : Inhabited α := ⟨K.z⟩
    obtain ⟨f, hf⟩ := choose_lt (α := α) (n := len) (p := fun i y => K.ok y ∧ ∀ j u, (K.enc y)[j]? = some u → w.cell? ((ad.add (i * K.size)).add j) = some u) (fun i hi => by
      obtain ⟨cs', h1, h2⟩ := hx i (by omega)
      obtain ⟨y, hy, rfl⟩ := dec _ _ _ h2
      rw [hce] at h1
      obtain ⟨_, _, hcell⟩ := World.cells?_some h1
      refine ⟨y, hy, fun j u hj => ?_⟩
      have hjs : j < K.size := by have := (List.getElem?_eq_some_iff.1 hj).1; rw [K.len] at this; exact this
      rw [hcell j hjs]
      exact hj)
    have hlen : ((List.range len).map f).length = len := by simp
    refine ⟨(List.range len).map f, hlen, some ad, cap, by rw [hlen], by omega, hm, by simp, ?_, fun hp => ?_⟩
    · intro y hy
      obtain ⟨i, hi, rfl⟩ := List.mem_map.1 hy
      exact (hf i (List.mem_range.1 hi)).1
    · rw [hlen] at hp
      obtain ⟨b, off, spot⟩ := ad
      have hs0 := K.pos
      have hz : (K.enc (f 0)).length = K.size := K.len _
      have hc0 := (hf 0 hp).2 0 _ (List.getElem?_eq_getElem (by omega))
      have hspot : spot = none := by simpa [Addr.add] using World.cell?_spot hc0
      subst hspot
      simp only [add_addr] at hf hc0
      refine ⟨b, off, rfl, World.block_lt_of_cell? w _ hc0, fun j u hj => ?_⟩
      have hj2 : j < len * K.size := by have := (List.getElem?_eq_some_iff.1 hj).1; rw [flat_len, hlen] at this; exact this
      have hq : j / K.size < len := (Nat.div_lt_iff_lt_mul hs0).2 hj2
      have hr : j % K.size < K.size := Nat.mod_lt _ hs0
      have hat := flat_at (K := K) (l := (List.range len).map f) (i := j / K.size) (x := f (j / K.size)) (by simp [hq]) hr
      rw [Nat.div_add_mod' j K.size] at hat
      rw [hat] at hj
      have := (hf _ hq).2 _ u hj
      rw [Nat.add_assoc, Nat.div_add_mod' j K.size] at this
      exact this

/-- A struct of fields of one cell each, field by field. -/
theorem dec_fields {H : Type} {enc : TypeId × Value → H} {P : Program} {w : World} {base : Nat} {spare : Nat → Bool} {held : Bool} {t : TypeId} {fs : Array Field} (ht : P.underlying t = some (.struct fs)) (hone : oneCellFields P fs = true) (hC : P.cellsOf t = fs.size)
    {fuel : Nat} {cs : List Value} {x : DataW H × List MemPlace} (h : DataW.trod enc P w base spare held fuel t cs = some x) :
    cs.length = fs.size ∧ ∀ (i : Nat) (f : Field), fs[i]? = some f → ∃ n v y, cs[i]? = some v ∧ DataW.trod enc P w base spare held n f.type [v] = some y := by
  obtain ⟨xs, n, _, _, hl, hxl, hf⟩ := DataW.trod_struct ht h
  rw [hC] at hl
  refine ⟨hl, fun i f hi => ?_⟩
  have hlt : i < fs.size := (Array.getElem?_eq_some_iff.1 hi).1
  obtain ⟨h1, h2⟩ := hone_of hone i f hi
  have h3 := hf i f hi
  rw [h1, h2, take1_drop cs i undef (by omega)] at h3
  refine ⟨n, cs.getD i undef, xs[i]'(by omega), by rw [List.getD_eq_getElem?_getD, List.getElem?_eq_getElem (by omega)]; rfl, ?_⟩
  rw [h3, List.getElem?_eq_getElem (by omega)]
theorem dec_int {H : Type} {enc : TypeId × Value → H} {P : Program} {w : World} {base : Nat} {spare : Nat → Bool} {held : Bool} {t : TypeId} {k : IntKind} (ht : P.underlying t = some (.int k)) {fuel : Nat} {v : Value} {x : DataW H × List MemPlace}
    (h : DataW.trod enc P w base spare held fuel t [v] = some x) : ∃ n, v = .int k n ∧ (Lit.int k n).wf = true := by
  obtain ⟨n, hn, _, hw⟩ := DataW.trod_int ht h
  exact ⟨n, by simpa using hn, hw⟩
theorem dec_str {H : Type} {enc : TypeId × Value → H} {P : Program} {w : World} {base : Nat} {spare : Nat → Bool} {held : Bool} {t : TypeId} (ht : P.underlying t = some .string) {fuel : Nat} {v : Value} {x : DataW H × List MemPlace}
    (h : DataW.trod enc P w base spare held fuel t [v] = some x) : ∃ s : ByteArray, v = .string s ∧ s.size ≤ maxLen := by
  obtain ⟨s, hs, _, hw⟩ := DataW.trod_string ht h
  exact ⟨s, by simpa using hs, hw⟩
theorem dec_bool {H : Type} {enc : TypeId × Value → H} {P : Program} {w : World} {base : Nat} {spare : Nat → Bool} {held : Bool} {t : TypeId} (ht : P.underlying t = some .bool) {fuel : Nat} {v : Value} {x : DataW H × List MemPlace}
    (h : DataW.trod enc P w base spare held fuel t [v] = some x) : ∃ b : Bool, v = .bool b := by
  obtain ⟨b, hb, _⟩ := DataW.trod_bool ht h
  exact ⟨b, by simpa using hb⟩
end Go.Proofs.Ytkialijipcbgkaa
