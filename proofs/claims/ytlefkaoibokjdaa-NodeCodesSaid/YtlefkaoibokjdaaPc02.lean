/-
  Ans: Words for what calls answer: a number; bytes and an error.
  El: Lists of whatever elements: slices that read as a list, slices of the call's own with what stands in their spare room; append, make, set. Said once for all kinds of elements (El): no number of a program stands here.
  KByte: The kind of elements uint8: slices of bytes.
-/
import Derived.Test.YtlefkaoibokjdaaPc01
import Derived.WalkKit
import Derived.WalkLawsBesides
import Derived.Outline
import Derived.Below
import Derived.Lib.Hide
import Derived.OwnWalk
import Derived.Laws.AppendOwnNone
import Derived.RegionTactic
import Derived.RowKit
import Derived.Test.YtlefkaoibokjdaaProg
namespace Go.Proofs.Ytlefkaoibokjdaa
open Go.RowKit

/-- A call that answers this number of Go's type int, and turns nothing that was there. -/
def IsInt (n : Nat) (w : World) (e : Ending) (w' : World) : Prop := e = .returned (.int .i64 (n : Nat)) ∧ Below w.heap.size w w'
/-- A call that answers these bytes in new memory, with spare room or without, and an error, and turns nothing that was there. -/
def IsBE (r : List Nat × Nat) (w : World) (e : Ending) (w' : World) : Prop :=
  ∃ A c, e = .returned (.tuple #[.slice A r.1.length c, .int .i64 r.2]) ∧ OwnB w' w.heap.size (.slice A r.1.length c) r.1 ∧ Below w.heap.size w w'
/-- The same, without spare room. -/
def IsBEF (r : List Nat × Nat) (w : World) (e : Ending) (w' : World) : Prop :=
  ∃ A, e = .returned (.tuple #[.slice A r.1.length r.1.length, .int .i64 r.2]) ∧ OwnB w' w.heap.size (.slice A r.1.length r.1.length) r.1 ∧ Below w.heap.size w w'
theorem IsBE.of {w w' : World} {r : List Nat × Nat} {y : List Nat} {e c : Nat} {A : Option Addr} (h : r = (y, e)) (ho : OwnB w' w.heap.size (.slice A y.length c) y) (hb : Below w.heap.size w w') :
    IsBE r w (.returned (.tuple #[.slice A y.length c, .int .i64 (e : Nat)])) w' := by subst h; exact ⟨A, c, rfl, ho, hb⟩
theorem IsBEF.of {w w' : World} {r : List Nat × Nat} {y : List Nat} {e : Nat} {A : Option Addr} (h : r = (y, e)) (ho : OwnB w' w.heap.size (.slice A y.length y.length) y) (hb : Below w.heap.size w w') :
    IsBEF r w (.returned (.tuple #[.slice A y.length y.length, .int .i64 (e : Nat)])) w' := by subst h; exact ⟨A, rfl, ho, hb⟩
theorem IsBE.none_ {w : World} {r : List Nat × Nat} {e : Nat} (h : r = ([], e)) : IsBE r w (.returned (.tuple #[.slice none 0 0, .int .i64 (e : Nat)])) w := by
  subst h; exact ⟨none, 0, rfl, OwnB.nil_ _ _, Below.refl _ _⟩
theorem IsBEF.none_ {w : World} {r : List Nat × Nat} {e : Nat} (h : r = ([], e)) : IsBEF r w (.returned (.tuple #[.slice none 0 0, .int .i64 (e : Nat)])) w := by
  subst h; exact ⟨none, rfl, OwnB.nil_ _ _, Below.refl _ _⟩

end Go.Proofs.Ytlefkaoibokjdaa
namespace Go.Proofs.Ytlefkaoibokjdaa
open Go.RowKit
set_option linter.unusedVariables false

/-- A kind of elements: their type, the type of their slices, the cells of one. -/
structure El (P : Program) (α : Type) where
  e : TypeId
  s : TypeId
  size : Nat
  bytes : Nat
  zero : Value
  z : α
  enc : α → List Value
  ok : α → Prop
  len : ∀ x, (enc x).length = size
  one : ∀ x, ∀ u ∈ enc x, u.oneCell' = true
  okz : ok z
  encz : zero.cells = (enc z).toArray
  pos : 0 < size
  under : P.underlying s = some (.slice e)
  info : (P.info? e).map (fun i => (i.zero, i.size, i.bytes)) = some (some zero, size, bytes)

section
variable {P : Program} {α : Type} {K : El P α}

/-- The cells of a list. -/
def El.flat (K : El P α) (l : List α) : List Value := l.flatMap K.enc
theorem flat_nil : K.flat [] = [] := rfl
theorem flat_cons (x : α) (l : List α) : K.flat (x :: l) = K.enc x ++ K.flat l := by simp [El.flat]
theorem flat_app (l m : List α) : K.flat (l ++ m) = K.flat l ++ K.flat m := by simp [El.flat]
theorem flat_one (x : α) : K.flat [x] = K.enc x := by simp [El.flat]
theorem flat_len (l : List α) : (K.flat l).length = l.length * K.size := by
  induction l with
  | nil => simp [El.flat]
  | cons x r ih => rw [flat_cons, List.length_append, ih, K.len, List.length_cons, Nat.succ_mul, Nat.add_comm]
theorem flat_at {l : List α} {i : Nat} {x : α} (h : l[i]? = some x) {j : Nat} (hj : j < K.size) : (K.flat l)[i * K.size + j]? = (K.enc x)[j]? := by
  induction l generalizing i with
  | nil => simp at h
  | cons y r ih =>
    rw [flat_cons]
    cases i with
    | zero =>
      simp at h
      subst h
      rw [Nat.zero_mul, Nat.zero_add, List.getElem?_append_left (by rw [K.len]; exact hj)]
    | succ i =>
      simp at h
      rw [List.getElem?_append_right (by rw [K.len, Nat.succ_mul]; omega), K.len, Nat.succ_mul, ← ih h]
      congr 1
      omega
theorem flat_one_cell (l : List α) : ∀ u ∈ K.flat l, u.oneCell' = true := by
  intro u hu
  obtain ⟨x, _, hx⟩ := List.mem_flatMap.1 hu
  exact K.one x u hx
theorem flat_take (l m : List α) : (K.flat (l ++ m)).take (l.length * K.size) = K.flat l := by
  rw [flat_app, ← flat_len, List.take_left]
theorem flat_drop (l m : List α) : (K.flat (l ++ m)).drop (l.length * K.size) = K.flat m := by
  rw [flat_app, ← flat_len, List.drop_left]

theorem add_addr (b off n : Nat) : (⟨b, off, none⟩ : Addr).add n = ⟨b, off + n, none⟩ := by unfold Addr.add; split <;> simp_all

/-- The value v is a slice that holds the list l, in a block below B. -/
def Lv (K : El P α) (w : World) (B : Nat) (v : Value) (l : List α) : Prop :=
  ∃ A c, v = .slice A l.length c ∧ l.length ≤ c ∧ c ≤ maxLen ∧ (A = none → c = 0) ∧ (∀ x ∈ l, K.ok x) ∧
    (0 < l.length → ∃ b off, A = some ⟨b, off, none⟩ ∧ b < B ∧ ∀ j u, (K.flat l)[j]? = some u → w.cell? ⟨b, off + j, none⟩ = some u)

/-- The call's own slice v, in a block from base on, holds the list l; in its spare room stand elements too. -/
def OwnL (K : El P α) (w : World) (base : Nat) (v : Value) (l : List α) : Prop :=
  (∀ x ∈ l, K.ok x) ∧ ((v = .slice none 0 0 ∧ l = []) ∨
    ∃ g s, v = .slice (some ⟨g, 0, none⟩) l.length (l.length + s.length) ∧ base ≤ g ∧ (∀ x ∈ s, K.ok x) ∧ l.length + s.length ≤ maxLen ∧ w.heap[g]? = some (.cells (K.flat (l ++ s)).toArray K.e (0, 0)))

variable {w w' : World} {base B : Nat} {v : Value} {l : List α}

theorem Lv.nil_ (K : El P α) (w : World) (B : Nat) : Lv K w B (.slice none 0 0) [] := ⟨none, 0, rfl, by simp, by simp [maxLen], by simp, by simp, by simp⟩
theorem Lv.below_ (h : Lv K w B v l) {B' : Nat} (hb : Below B' w w') (hB : B ≤ B') : Lv K w' B v l := by
  obtain ⟨A, c, e, h1, h2, h3, h4, h5⟩ := h
  refine ⟨A, c, e, h1, h2, h3, h4, fun hp => ?_⟩
  obtain ⟨b, off, e, hl, hc⟩ := h5 hp
  exact ⟨b, off, e, hl, fun j u hj => (hb.cell (p := ⟨b, off + j, none⟩) (by show b < B'; omega)).trans (hc j u hj)⟩
theorem Lv.mono_ (h : Lv K w B v l) {B' : Nat} (hB : B ≤ B') : Lv K w B' v l := by
  obtain ⟨A, c, e, h1, h2, h3, h4, h5⟩ := h
  refine ⟨A, c, e, h1, h2, h3, h4, fun hp => ?_⟩
  obtain ⟨b, off, e, hl, hc⟩ := h5 hp
  exact ⟨b, off, e, by omega, hc⟩
theorem Lv.drewN_ (h : Lv K w B v l) (n : Nat) : Lv K (w.drewN n) B v l := h
theorem Lv.drew_ (h : Lv K w B v l) : Lv K w.drew B v l := h
theorem Lv.ok_ (h : Lv K w B v l) : ∀ x ∈ l, K.ok x := by obtain ⟨_, _, _, _, _, _, h, _⟩ := h; exact h
theorem Lv.len_ {A : Option Addr} {n c : Nat} (h : Lv K w B (.slice A n c) l) : n = l.length ∧ l.length ≤ c ∧ c ≤ maxLen := by
  obtain ⟨_, _, e, h1, h2, _⟩ := h
  injection e with e1 e2 e3
  subst e2 e3
  exact ⟨rfl, h1, h2⟩
theorem Lv.max_ (h : Lv K w B v l) : l.length ≤ 140737488355328 * 65536 := by
  obtain ⟨_, c, _, h1, h2, _⟩ := h
  simp only [maxLen] at h2
  omega
theorem Lv.kept_ (h : Lv K w B v l) {row : Option Nat} (hg : w.grownBy w' row) (hB : B ≤ w.heap.size) (hne : ∀ k, row = some k → B ≤ k) : Lv K w' B v l :=
  h.below_ (B' := B) ((Below.refl B w).grown hg hB hne) (Nat.le_refl _)
/-- Element k, whose cells these are. -/
theorem Lv.at_ {A : Option Addr} {n c : Nat} (h : Lv K w B (.slice A n c) l) {k : Nat} (hk : k < l.length) :
    ∃ b off x, A = some ⟨b, off, none⟩ ∧ b < B ∧ K.ok x ∧ l[k]? = some x ∧ ∀ j u, (K.enc x)[j]? = some u → w.cell? ⟨b, off + (k * K.size + j), none⟩ = some u := by
  obtain ⟨A', c', e, h1, h2, h3, h4, h5⟩ := h
  injection e with e1 e2 e3
  subst e1
  obtain ⟨b, off, rfl, hb, hc⟩ := h5 (by omega)
  refine ⟨b, off, l[k], rfl, hb, h4 _ (List.getElem_mem hk), List.getElem?_eq_getElem hk, fun j u hj => hc _ u ?_⟩
  have hjs : j < K.size := by have := (List.getElem?_eq_some_iff.1 hj).1; rw [K.len] at this; exact this
  rw [flat_at (List.getElem?_eq_getElem hk) hjs]
  exact hj
theorem Lv.take_ {A : Option Addr} {n c : Nat} (h : Lv K w B (.slice A n c) l) {k : Nat} (hk : k ≤ l.length) : Lv K w B (.slice A k c) (l.take k) := by
  obtain ⟨A', c', e, h1, h2, h3, h4, h5⟩ := h
  injection e with e1 e2 e3
  subst e1 e3
  have hl : (l.take k).length = k := by rw [List.length_take]; omega
  refine ⟨A, c, by rw [hl], by rw [hl]; omega, h2, h3, fun x hx => h4 x (List.mem_of_mem_take hx), fun hp => ?_⟩
  obtain ⟨b, off, e, hb, hc⟩ := h5 (by omega)
  refine ⟨b, off, e, hb, fun j u hj => hc j u ?_⟩
  have e2 : K.flat l = K.flat (l.take k) ++ K.flat (l.drop k) := by rw [← flat_app, List.take_append_drop]
  rw [e2, List.getElem?_append_left (List.getElem?_eq_some_iff.1 hj).1]
  exact hj

theorem OwnL.nil_ (K : El P α) (w : World) (base : Nat) : OwnL K w base (.slice none 0 0) [] := ⟨by simp, .inl ⟨rfl, rfl⟩⟩
theorem OwnL.ok_ (h : OwnL K w base v l) : ∀ x ∈ l, K.ok x := h.1
theorem OwnL.lt_ (h : OwnL K w base v l) : ∀ k, v.ownBlock = some k → base ≤ k ∧ k < w.heap.size := by
  intro k hk
  rcases h.2 with ⟨rfl, _⟩ | ⟨g, s, rfl, hb, _, _, hg⟩
  · simp [Value.ownBlock] at hk
  · simp [Value.ownBlock] at hk
    subst hk
    exact ⟨hb, (Array.getElem?_eq_some_iff.1 hg).1⟩
/-- What it was with the library's word. -/
theorem OwnL.row_ (h : OwnL K w base v l) : w.ownsRow base K.e K.size v l.length (K.flat l) := by
  refine ⟨flat_len l, ?_⟩
  rcases h.2 with ⟨rfl, rfl⟩ | ⟨g, s, rfl, hb, _, hm, hg⟩
  · exact .inl ⟨rfl, rfl⟩
  · exact .inr ⟨g, _, _, rfl, hb, hg, by omega, hm, by rw [List.size_toArray, flat_len, List.length_append], flat_take l s⟩
theorem OwnL.form_ (h : OwnL K w base v l) : Lv K w w.heap.size v l := by
  rcases h.2 with ⟨rfl, rfl⟩ | ⟨g, s, rfl, hb, _, hm, hg⟩
  · exact Lv.nil_ _ _ _
  · refine ⟨_, _, rfl, by omega, hm, by simp, h.1, fun _ => ⟨g, 0, rfl, (Array.getElem?_eq_some_iff.1 hg).1, fun j u hj => ?_⟩⟩
    rw [Nat.zero_add, cell_of_row w g j _ _ _ hg, List.getElem?_toArray, flat_app, List.getElem?_append_left (List.getElem?_eq_some_iff.1 hj).1]
    exact hj
theorem OwnL.kept_ (h : OwnL K w base v l) {row : Option Nat} (hg : w.grownBy w' row) (hne : v.ownBlock = none ∨ v.ownBlock ≠ row) : OwnL K w' base v l := by
  refine ⟨h.1, ?_⟩
  rcases h.2 with hn | ⟨g, s, rfl, hb, hs, hm, hh⟩
  · exact .inl hn
  · refine .inr ⟨g, s, rfl, hb, hs, hm, ?_⟩
    rw [hg.block g (Array.getElem?_eq_some_iff.1 hh).1 (by simpa [Value.ownBlock] using hne)]
    exact hh
theorem OwnL.alloc_ (h : OwnL K w base v l) (o : Obj) : OwnL K (w.alloc o) base v l := h.kept_ (World.grownBy_alloc w o none) (by cases v.ownBlock <;> simp)
theorem OwnL.drewN_ (h : OwnL K w base v l) (n : Nat) : OwnL K (w.drewN n) base v l := h
theorem OwnL.drew_ (h : OwnL K w base v l) : OwnL K w.drew base v l := h
theorem OwnL.below_ (h : OwnL K w base v l) {B : Nat} (hb : Below B w w') (hB : w.heap.size ≤ B) : OwnL K w' base v l := by
  refine ⟨h.1, ?_⟩
  rcases h.2 with hn | ⟨g, s, rfl, hg, hs, hm, hh⟩
  · exact .inl hn
  · refine .inr ⟨g, s, rfl, hg, hs, hm, ?_⟩
    have hlt : g < w.heap.size := (Array.getElem?_eq_some_iff.1 hh).1
    rw [hb.block g (by omega)]
    exact hh
theorem OwnL.mono_ (h : OwnL K w base v l) {base' : Nat} (hb : base' ≤ base) : OwnL K w base' v l := by
  refine ⟨h.1, ?_⟩
  rcases h.2 with hn | ⟨g, s, rfl, hg, hr⟩
  · exact .inl hn
  · exact .inr ⟨g, s, rfl, by omega, hr⟩
/-- It is told so in each world in which its block is as it was. -/
theorem OwnL.of_block (h : OwnL K w base v l) (hb : ∀ k, v.ownBlock = some k → w'.heap[k]? = w.heap[k]?) : OwnL K w' base v l := by
  refine ⟨h.1, ?_⟩
  rcases h.2 with hn | ⟨g, s, rfl, hg, hs, hm, hh⟩
  · exact .inl hn
  · exact .inr ⟨g, s, rfl, hg, hs, hm, (hb g rfl).trans hh⟩
/-- Two own slices in unlike blocks: what turns one leaves the other. -/
theorem OwnL.apart_ {β : Type} {K' : El P β} {base' : Nat} {v' : Value} {l' : List β} (h : OwnL K w base v l) (h' : OwnL K' w base' v' l') (hv : ∀ k, v'.ownBlock = some k → k < base) : v.ownBlock = none ∨ v.ownBlock ≠ v'.ownBlock := by
  cases hb : v.ownBlock with
  | none => exact .inl rfl
  | some k =>
    refine .inr fun e => ?_
    have h1 := (h.lt_ k hb).1
    have h2 := hv k e.symm
    omega

/-- Element k of an own slice. -/
theorem OwnL.at_ {A : Option Addr} {n c : Nat} (h : OwnL K w base (.slice A n c) l) {k : Nat} (hk : k < l.length) :
    ∃ g x, A = some ⟨g, 0, none⟩ ∧ n = l.length ∧ base ≤ g ∧ K.ok x ∧ l[k]? = some x ∧ (∀ j u, (K.enc x)[j]? = some u → w.cell? ⟨g, k * K.size + j, none⟩ = some u) ∧ ∀ j, w.frozen? ⟨g, j, none⟩ = false := by
  rcases h.2 with ⟨e, rfl⟩ | ⟨g, s, e, hb, hs, hm, hh⟩
  · simp at hk
  · injection e with e1 e2 e3
    subst e1 e2
    refine ⟨g, l[k], rfl, rfl, hb, h.1 _ (List.getElem_mem hk), List.getElem?_eq_getElem hk, fun j u hj => ?_, fun j => frozen_of_row w g j _ _ hh⟩
    have hjs : j < K.size := by have := (List.getElem?_eq_some_iff.1 hj).1; rw [K.len] at this; exact this
    rw [cell_of_row w g _ _ _ _ hh, List.getElem?_toArray, flat_at (x := l[k]) (by rw [List.getElem?_append_left hk]; exact List.getElem?_eq_getElem hk) hjs]
    exact hj
/-- No cell of an own slice's block is frozen. -/
theorem OwnL.cool_ {g n c : Nat} (h : OwnL K w base (.slice (some ⟨g, 0, none⟩) n c) l) (j : Nat) : w.frozen? ⟨g, j, none⟩ = false := by
  rcases h.2 with ⟨e, _⟩ | ⟨g', s, e, _, _, _, hh⟩
  · cases e
  · injection e with e1 _ _
    injection e1 with e1
    injection e1 with e1
    subst e1
    exact frozen_of_row w g j _ _ hh
theorem flat_set {l : List α} {k : Nat} (hk : k < l.length) (h1 : K.size = 1) {x : α} {u : Value} (hx : K.enc x = [u]) : (K.flat l).set k u = K.flat (l.set k x) := by
  induction l generalizing k with
  | nil => simp at hk
  | cons y r ih =>
    have hy : ∃ t, K.enc y = [t] := by
      have := K.len y
      rw [h1] at this
      exact List.length_eq_one_iff.1 this
    obtain ⟨t, ht⟩ := hy
    cases k with
    | zero => simp [flat_cons, ht, hx]
    | succ k =>
      simp at hk
      simp [flat_cons, ht, ih hk]
/-- One element of one cell is set. -/
theorem OwnL.set_ {g c n : Nat} (h : OwnL K w base (.slice (some ⟨g, 0, none⟩) n c) l) (h1 : K.size = 1) {j : Nat} (hj : j < l.length) {x : α} {u : Value} (hx : K.ok x) (hu : K.enc x = [u]) :
    OwnL K (w.setCell ⟨g, j, none⟩ u) base (.slice (some ⟨g, 0, none⟩) n c) (l.set j x) ∧ w.grownBy (w.setCell ⟨g, j, none⟩ u) (some g) := by
  rcases h.2 with ⟨e, rfl⟩ | ⟨g', s, e, hb, hs, hm, hh⟩
  · cases e
  · injection e with e1 e2 e3
    injection e1 with e1
    injection e1 with e1
    subst e1 e2 e3
    refine ⟨⟨fun y hy => ?_, .inr ⟨g, s, by rw [List.length_set], hb, hs, by rw [List.length_set]; exact hm, ?_⟩⟩, ⟨rfl, rfl, rfl, by simp, fun k _ hk => heap_setCell_other w ⟨g, j, none⟩ k u (fun e => hk (by simp [e]))⟩⟩
    · rcases List.mem_or_eq_of_mem_set hy with h3 | rfl
      · exact h.1 y h3
      · exact hx
    · rw [heap_setCell_same w g j _ _ u hh, ← List.set_append_left _ _ hj, ← flat_set (by simp; omega) h1 hu]
      simp

/-! append. -/
theorem zero_cells (n : Nat) : Builtin.zeroCells K.zero.cells n = (K.flat (List.replicate n K.z)).toArray := by
  rw [K.encz]
  apply Array.ext_getElem?
  intro j
  have hz : (K.enc K.z).length = K.size := K.len _
  have hp := K.pos
  have he : (K.flat (List.replicate n K.z)).toArray[j]? = (K.flat (List.replicate n K.z))[j]? := by simp
  simp only [Builtin.zeroCells, List.size_toArray, hz, Array.getElem?_map]
  by_cases hj : j < n * K.size
  · have hq : j / K.size < n := (Nat.div_lt_iff_lt_mul hp).2 hj
    have hr : j % K.size < K.size := Nat.mod_lt _ hp
    have hf := flat_at (K := K) (l := List.replicate n K.z) (i := j / K.size) (x := K.z) (by rw [List.getElem?_replicate, if_pos hq]) hr
    rw [Nat.div_add_mod' j K.size] at hf
    rw [he, hf, List.getElem?_eq_getElem (by rw [hz]; exact hr)]
    simp [hj, hz, hr]
  · rw [he, List.getElem?_eq_none (l := K.flat _) (by rw [flat_len, List.length_replicate]; omega)]
    simp [hj]
theorem made_cells (n : Nat) : madeCells K.zero.cells (n * K.size) = (K.flat (List.replicate n K.z)).toArray := by
  rw [← zero_cells]
  simp only [madeCells, Builtin.zeroCells, K.encz, List.size_toArray, K.len]

/-- Where v' lies: where v lay, or in a new block. -/
def Moved (w : World) (v v' : Value) : Prop := ∀ k, v'.ownBlock = some k → v.ownBlock = some k ∨ w.heap.size ≤ k
/-- Two slices in unlike blocks. -/
def Apart (u v : Value) : Prop := ∀ k, u.ownBlock = some k → v.ownBlock ≠ some k
theorem Apart.symm {u v : Value} (h : Apart u v) : Apart v u := fun k h1 h2 => h k h2 h1
theorem Apart.nil_ (v : Value) : Apart (.slice none 0 0) v := fun k h => by cases h
theorem Apart.moved {w : World} {u v v' : Value} (h : Apart u v) (hm : Moved w v v') (hu : ∀ k, u.ownBlock = some k → k < w.heap.size) : Apart u v' := fun k h1 h2 => by
  rcases hm k h2 with h3 | h3
  · exact h k h1 h3
  · have := hu k h1; omega
theorem Apart.ne_ {u v : Value} (h : Apart u v) : u.ownBlock = none ∨ u.ownBlock ≠ v.ownBlock := by
  cases hb : u.ownBlock with
  | none => exact .inl rfl
  | some k => exact .inr fun e => h k hb e.symm
theorem run_append_m (w : World) (base : Nat) (v : Value) (l : List α) (hown : OwnL K w base v l) (ty : TypeId) (x : Value) (B : Nat) (m : List α) (hx : Lv K w B x m) (hsz : (l.length + m.length) * K.bytes ≤ 140737488355328) (h63 : l.length + m.length ≤ maxLen) (hbase : base ≤ w.heap.size) :
    ∃ v' w', (Builtin.append_ #[K.s, K.s] ty #[v, x]).run P w = .ok v' w' ∧ OwnL K w' base v' (l ++ m) ∧ w.grownBy w' v.ownBlock ∧ Moved w v v' := by
  obtain ⟨i0, hi, hz0, hz1, hz2⟩ := info_parts K.info
  obtain ⟨A, c, rfl, hmc, hcm, hnil, hok, hm⟩ := hx
  have hokr : ∀ n, ∀ y ∈ List.replicate n K.z, K.ok y := fun n y hy => by rw [List.eq_of_mem_replicate hy]; exact K.okz
  by_cases h0 : m = []
  · subst h0
    refine ⟨v, w, ?_, by simpa using hown, ⟨rfl, rfl, rfl, Nat.le_refl _, fun _ _ _ => rfl⟩, fun k hk => .inl hk⟩
    cases A with
    | none =>
      obtain rfl := hnil rfl
      exact run_append_owned_none w base _ _ _ i0 K.size K.under hi v l.length _ hown.row_
    | some ad =>
      rcases hown.2 with ⟨rfl, rfl⟩ | ⟨g, s, rfl, _⟩
      · simp [Builtin.append_, run_underlying K.under, sizeOf, typeInfo, hi, Builtin.lenOf, Builtin.firstCells, loadCells, loadCellsFrom]
      · simp [Builtin.append_, run_underlying K.under, sizeOf, typeInfo, hi, Builtin.lenOf, Builtin.firstCells, loadCells, loadCellsFrom, storeCells]
  · have hp : 0 < m.length := List.length_pos_iff.2 h0
    obtain ⟨b, off, rfl, hb, hc⟩ := hm hp
    have hnews : ∀ j u, (K.flat m)[j]? = some u → w.cell? ((⟨b, off, none⟩ : Addr).add j) = some u := fun j u hj => by rw [add_addr]; exact hc j u hj
    have hall : ∀ y ∈ l ++ m, K.ok y := fun y hy => (List.mem_append.1 hy).elim (hown.1 y) (hok y)
    have hfl : (K.flat m).length = m.length * i0.size := by rw [hz1, flat_len]
    have hsm : l.length + m.length ≤ 9223372036854775807 := by simp only [maxLen] at h63; omega
    rcases hown.2 with ⟨rfl, rfl⟩ | ⟨g, s, rfl, hbg, hs, hcm', hg⟩
    · have hr := run_append_nil (P := P) w K.s ty K.e i0 _ K.under hi hz0 ⟨b, off, none⟩ m.length c (K.flat m) hfl hnews hp (by simp only [List.length_nil] at hsm; omega) (by rw [hz2]; simp only [List.length_nil, Nat.zero_add] at hsz; omega)
      have hge := grownCap_ge w m.length 0 K.e
      have hle := grownCap_le_maxLen w m.length 0 K.e (by simpa using h63)
      refine ⟨_, _, hr, ⟨hall, .inr ⟨w.heap.size, List.replicate (grownCap w m.length 0 K.e - m.length) K.z, ?_, hbase, hokr _, ?_, ?_⟩⟩, ⟨rfl, rfl, rfl, by simp, fun k hk _ => heap_alloc_old w.drew _ hk⟩, fun k hk => .inr (by simp [Value.ownBlock] at hk; omega)⟩
      · rw [List.nil_append, List.length_replicate, Nat.add_sub_cancel' hge]
      · rw [List.nil_append, List.length_replicate, Nat.add_sub_cancel' hge]; exact hle
      · rw [zero_cells, List.nil_append, flat_app, List.append_toArray]
        exact heap_alloc_new w.drew _
    · have hol : (K.flat l).length = l.length * i0.size := by rw [hz1, flat_len]
      by_cases hroom : l.length + m.length ≤ l.length + s.length
      · have hr := run_append_room (P := P) w K.s ty K.e i0 K.under hi g l.length (l.length + s.length) _ hg ⟨b, off, none⟩ m.length c (K.flat m) hfl hnews (flat_one_cell m) hroom (by rw [List.size_toArray, hfl, flat_len, hz1, List.length_append, ← Nat.add_mul]; exact Nat.mul_le_mul_right _ hroom)
        refine ⟨_, _, hr, ⟨hall, .inr ⟨g, s.drop m.length, ?_, hbg, fun y hy => hs y (List.mem_of_mem_drop hy), ?_, ?_⟩⟩, ⟨rfl, rfl, rfl, by simp, fun k _ hk => setRow_other w g k _ (fun e => hk (by simp [Value.ownBlock, e]))⟩, fun k hk => .inl hk⟩
        · rw [List.length_append, List.length_drop]
          congr 1
          omega
        · rw [List.length_append, List.length_drop]; omega
        · rw [setRow_heap w g _ _ _ _ hg]
          congr 3
          have e : K.flat (l ++ s) = K.flat (l ++ s.take m.length) ++ K.flat (s.drop m.length) := by rw [← flat_app, List.append_assoc, List.take_append_drop]
          have e2 : (K.flat (l ++ s.take m.length)).length = (l.length + m.length) * K.size := by rw [flat_len, List.length_append, List.length_take, Nat.min_eq_left (by omega)]
          rw [hz1, List.toList_toArray, flat_take, hfl, hz1, ← Nat.add_mul, e, ← e2, List.drop_left, ← flat_app, ← flat_app]
      · have holds : ∀ j u, (K.flat l)[j]? = some u → w.cell? ((⟨g, 0, none⟩ : Addr).add j) = some u := fun j u hj => by
          rw [add_addr, Nat.zero_add, cell_of_row w g j _ _ _ hg, List.getElem?_toArray, flat_app, List.getElem?_append_left (List.getElem?_eq_some_iff.1 hj).1]
          exact hj
        have hr := run_append_grow (P := P) w K.s ty K.e i0 _ K.under hi hz0 ⟨g, 0, none⟩ l.length (l.length + s.length) (K.flat l) hol holds ⟨b, off, none⟩ m.length c (K.flat m) hfl hnews (by omega) (by omega) (growslice_fits (by omega) (by rw [hz2]; exact hsz))
        have hge := grownCap_ge w (l.length + m.length) (l.length + s.length) K.e
        have hle := grownCap_le_maxLen w (l.length + m.length) (l.length + s.length) K.e h63
        refine ⟨_, _, hr, ⟨hall, .inr ⟨w.heap.size, List.replicate (grownCap w (l.length + m.length) (l.length + s.length) K.e - (l.length + m.length)) K.z, ?_, hbase, hokr _, ?_, ?_⟩⟩, ⟨rfl, rfl, rfl, by simp, fun k hk _ => heap_alloc_old w.drew _ hk⟩, fun k hk => .inr (by simp [Value.ownBlock] at hk; omega)⟩
        · rw [List.length_append, List.length_replicate, Nat.add_sub_cancel' hge]
        · rw [List.length_append, List.length_replicate, Nat.add_sub_cancel' hge]; exact hle
        · rw [zero_cells, flat_app, flat_app, List.append_toArray, List.append_toArray]
          exact heap_alloc_new w.drew _

theorem run_append_l (w : World) (base : Nat) (v : Value) (l : List α) (hown : OwnL K w base v l) (ty : TypeId) (x : Value) (B : Nat) (m : List α) (hx : Lv K w B x m) (hsz : (l.length + m.length) * K.bytes ≤ 140737488355328) (h63 : l.length + m.length ≤ maxLen) (hbase : base ≤ w.heap.size) :
    ∃ v' w', (Builtin.append_ #[K.s, K.s] ty #[v, x]).run P w = .ok v' w' ∧ OwnL K w' base v' (l ++ m) ∧ w.grownBy w' v.ownBlock := by
  obtain ⟨v', w', h1, h2, h3, _⟩ := run_append_m w base v l hown ty x B m hx hsz h63 hbase
  exact ⟨v', w', h1, h2, h3⟩

/-- An append of a slice, in the walk's form. -/
theorem wpList_append_l (w : World) {ops : Array Oper} {rest : List Oper} {o : Oper} {a : Act} {Q : Exit → Act → World → Prop} (K : El P α) (hgd : o.guard = none) (s t : Operand)
    (ho : o.op = .call { callee := .builtin .append, args := #[s, t], argTypes := #[K.s, K.s] })
    (base : Nat) (v : Value) (hs : a.eval s = v) (l : List α) (hown : OwnL K w base v l) (x : Value) (hx0 : a.eval t = x) (B : Nat) (m : List α) (hx : Lv K w B x m) (hsz : (l.length + m.length) * K.bytes ≤ 140737488355328) (h63 : l.length + m.length ≤ maxLen) (hbase : base ≤ w.heap.size)
    (h : ∀ A c w', OwnL K w' base (.slice A (l ++ m).length c) (l ++ m) → w.grownBy w' v.ownBlock → wpList P ops Q rest (a.put o.dst (.slice A (l ++ m).length c)) w') : wpList P ops Q (o :: rest) a w :=
  wpList_plain hgd fun K' hK => by
    obtain ⟨v', w', hr, hA, hG⟩ := run_append_l w base v l hown o.type x B m hx hsz h63 hbase
    obtain ⟨A, c, rfl, _⟩ := hA.form_
    unfold Oper.wp execOp
    simp only [ho, resolve, invoke, builtin, Sem.run_bind, Sem.run_pure, Result.andThen_ok, List.map_toArray, List.map_cons, List.map_nil, hs, hx0, hr]
    exact hK _ _ (h A c w' hA hG)

/-- An append of a slice, in the walk's form, with where it lies then. -/
theorem wpList_append_m (w : World) {ops : Array Oper} {rest : List Oper} {o : Oper} {a : Act} {Q : Exit → Act → World → Prop} (K : El P α) (hgd : o.guard = none) (s t : Operand)
    (ho : o.op = .call { callee := .builtin .append, args := #[s, t], argTypes := #[K.s, K.s] })
    (base : Nat) (v : Value) (hs : a.eval s = v) (l : List α) (hown : OwnL K w base v l) (x : Value) (hx0 : a.eval t = x) (B : Nat) (m : List α) (hx : Lv K w B x m) (hsz : (l.length + m.length) * K.bytes ≤ 140737488355328) (h63 : l.length + m.length ≤ maxLen) (hbase : base ≤ w.heap.size)
    (h : ∀ A c w', OwnL K w' base (.slice A (l ++ m).length c) (l ++ m) → w.grownBy w' v.ownBlock → Moved w v (.slice A (l ++ m).length c) → wpList P ops Q rest (a.put o.dst (.slice A (l ++ m).length c)) w') : wpList P ops Q (o :: rest) a w :=
  wpList_plain hgd fun K' hK => by
    obtain ⟨v', w', hr, hA, hG, hM⟩ := run_append_m w base v l hown o.type x B m hx hsz h63 hbase
    obtain ⟨A, c, rfl, _⟩ := hA.form_
    unfold Oper.wp execOp
    simp only [ho, resolve, invoke, builtin, Sem.run_bind, Sem.run_pure, Result.andThen_ok, List.map_toArray, List.map_cons, List.map_nil, hs, hx0, hr]
    exact hK _ _ (h A c w' hA hG hM)

/-- What append reads when one element is put behind. -/
theorem Lv.lit_ (w : World) {x : α} (hx : K.ok x) : Lv K (w.alloc (.cells (K.enc x).toArray K.e)) (w.heap.size + 1) (.slice (some ⟨w.heap.size, 0, none⟩) 1 1) [x] := by
  refine ⟨_, _, rfl, by simp, by simp [maxLen], by simp, by simpa using hx, fun _ => ⟨w.heap.size, 0, rfl, by omega, fun j u hj => ?_⟩⟩
  rw [flat_one] at hj
  rw [Nat.zero_add, cell_of_row _ w.heap.size j _ _ _ (heap_alloc_new w _), List.getElem?_toArray]
  exact hj
/-- A literal slice. -/
theorem Lv.build_ (K : El P α) (w : World) (l : List α) (hok : ∀ x ∈ l, K.ok x) (hm : l.length ≤ maxLen) (n : Nat) (hn : n = l.length) (cs : Array Value) (hcs : cs = (K.flat l).toArray) (e : TypeId) (he : e = K.e) :
    Lv K (w.alloc (.cells cs e)) (w.heap.size + 1) (.slice (some ⟨w.heap.size, 0, none⟩) n n) l := by
  subst hn hcs he
  refine ⟨_, _, rfl, Nat.le_refl _, hm, by simp, hok, fun _ => ⟨w.heap.size, 0, rfl, by omega, fun j u hj => ?_⟩⟩
  rw [Nat.zero_add, cell_of_row _ w.heap.size j _ _ _ (heap_alloc_new w _), List.getElem?_toArray]
  exact hj
theorem grown_alloc {w w' : World} {row : Option Nat} {o : Obj} (h : (w.alloc o).grownBy w' row) : w.grownBy w' row :=
  ⟨h.os, h.tape, h.output, Nat.le_trans (by simp) h.size, fun k hk hne => (h.block k (by simp; omega) hne).trans (heap_alloc_old w o hk)⟩
/-- One element put behind: append of a literal that was laid ahead of it. -/
theorem wpList_push_l (w : World) {ops : Array Oper} {rest : List Oper} {o : Oper} {a : Act} {Q : Exit → Act → World → Prop} (K : El P α) (hgd : o.guard = none) (s t : Operand)
    (ho : o.op = .call { callee := .builtin .append, args := #[s, t], argTypes := #[K.s, K.s] })
    (base : Nat) (v : Value) (hs : a.eval s = v) (l : List α) (hown : OwnL K w base v l) (ht : a.eval t = .slice (some ⟨w.heap.size, 0, none⟩) 1 1) (x : α) (hx : K.ok x) (cs : Array Value) (hcs : cs = (K.enc x).toArray) (e : TypeId) (he : e = K.e) (hsz : (l.length + 1) * K.bytes ≤ 140737488355328) (h63 : l.length + 1 ≤ maxLen) (hbase : base ≤ w.heap.size)
    (h : ∀ A c w', OwnL K w' base (.slice A (l.length + 1) c) (l ++ [x]) → w.grownBy w' v.ownBlock → wpList P ops Q rest (a.put o.dst (.slice A (l.length + 1) c)) w') : wpList P ops Q (o :: rest) a (w.alloc (.cells cs e)) := by
  subst hcs he
  refine wpList_append_l _ K hgd s t ho base v hs l (hown.alloc_ _) _ ht _ [x] (Lv.lit_ w hx) (by simpa using hsz) (by simpa using h63) (by simp; omega) fun A c w' h1 h2 => ?_
  rw [List.length_append, List.length_singleton] at h1 ⊢
  exact h A c w' h1 (grown_alloc h2)

/-- One element put behind: append of a literal that was laid ahead of it, with where it lies then. -/
theorem wpList_push_m (w : World) {ops : Array Oper} {rest : List Oper} {o : Oper} {a : Act} {Q : Exit → Act → World → Prop} (K : El P α) (hgd : o.guard = none) (s t : Operand)
    (ho : o.op = .call { callee := .builtin .append, args := #[s, t], argTypes := #[K.s, K.s] })
    (base : Nat) (v : Value) (hs : a.eval s = v) (l : List α) (hown : OwnL K w base v l) (ht : a.eval t = .slice (some ⟨w.heap.size, 0, none⟩) 1 1) (x : α) (hx : K.ok x) (cs : Array Value) (hcs : cs = (K.enc x).toArray) (e : TypeId) (he : e = K.e) (hsz : (l.length + 1) * K.bytes ≤ 140737488355328) (h63 : l.length + 1 ≤ maxLen) (hbase : base ≤ w.heap.size)
    (h : ∀ A c w', OwnL K w' base (.slice A (l.length + 1) c) (l ++ [x]) → w.grownBy w' v.ownBlock → Moved w v (.slice A (l.length + 1) c) → wpList P ops Q rest (a.put o.dst (.slice A (l.length + 1) c)) w') : wpList P ops Q (o :: rest) a (w.alloc (.cells cs e)) := by
  subst hcs he
  refine wpList_append_m _ K hgd s t ho base v hs l (hown.alloc_ _) _ ht _ [x] (Lv.lit_ w hx) (by simpa using hsz) (by simpa using h63) (by simp; omega) fun A c w' h1 h2 h3 => ?_
  rw [List.length_append, List.length_singleton] at h1 h3 ⊢
  exact h A c w' h1 (grown_alloc h2) (fun k hk => (h3 k hk).imp id (fun h => by simp at h; omega))

/-- The same at a step of a region that draws its order. -/
theorem step_append_l (w : World) {ops : Array Oper} {o : Oper} {a : Act} {K' : Act → World → Prop} {Q : Exit → Act → World → Prop} {E : Prop} (K : El P α) (hgd : o.guard = none) (s t : Operand)
    (ho : o.op = .call { callee := .builtin .append, args := #[s, t], argTypes := #[K.s, K.s] })
    (base : Nat) (v : Value) (hs : a.eval s = v) (l : List α) (hown : OwnL K w base v l) (x : Value) (hx0 : a.eval t = x) (B : Nat) (m : List α) (hx : Lv K w B x m) (hsz : (l.length + m.length) * K.bytes ≤ 140737488355328) (h63 : l.length + m.length ≤ maxLen) (hbase : base ≤ w.heap.size)
    (h : ∀ A c w', OwnL K w' base (.slice A (l ++ m).length c) (l ++ m) → w.grownBy w' v.ownBlock → K' (a.put o.dst (.slice A (l ++ m).length c)) w') :
    if Region.wanted o (yielded ops a.tmps) = true then Oper.wp P o a w K' Q else E := by
  have hw : Region.wanted o (yielded ops a.tmps) = true := by simp [Region.wanted, hgd]
  rw [if_pos hw]
  obtain ⟨v', w', hr, hA, hG⟩ := run_append_l w base v l hown o.type x B m hx hsz h63 hbase
  obtain ⟨A, c, rfl, _⟩ := hA.form_
  unfold Oper.wp execOp
  simp only [ho, resolve, invoke, builtin, Sem.run_bind, Sem.run_pure, Result.andThen_ok, List.map_toArray, List.map_cons, List.map_nil, hs, hx0, hr]
  exact h A c w' hA hG
theorem step_push_l (w : World) {ops : Array Oper} {o : Oper} {a : Act} {K' : Act → World → Prop} {Q : Exit → Act → World → Prop} {E : Prop} (K : El P α) (hgd : o.guard = none) (s t : Operand)
    (ho : o.op = .call { callee := .builtin .append, args := #[s, t], argTypes := #[K.s, K.s] })
    (base : Nat) (v : Value) (hs : a.eval s = v) (l : List α) (hown : OwnL K w base v l) (ht : a.eval t = .slice (some ⟨w.heap.size, 0, none⟩) 1 1) (x : α) (hx : K.ok x) (cs : Array Value) (hcs : cs = (K.enc x).toArray) (e : TypeId) (he : e = K.e) (hsz : (l.length + 1) * K.bytes ≤ 140737488355328) (h63 : l.length + 1 ≤ maxLen) (hbase : base ≤ w.heap.size)
    (h : ∀ A c w', OwnL K w' base (.slice A (l.length + 1) c) (l ++ [x]) → w.grownBy w' v.ownBlock → K' (a.put o.dst (.slice A (l.length + 1) c)) w') :
    if Region.wanted o (yielded ops a.tmps) = true then Oper.wp P o a (w.alloc (.cells cs e)) K' Q else E := by
  subst hcs he
  refine step_append_l _ K hgd s t ho base v hs l (hown.alloc_ _) _ ht _ [x] (Lv.lit_ w hx) (by simpa using hsz) (by simpa using h63) (by simp; omega) fun A c w' h1 h2 => ?_
  rw [List.length_append, List.length_singleton] at h1 ⊢
  exact h A c w' h1 (grown_alloc h2)

/-! make. -/
theorem run_make_l (K : El P α) (w : World) (base : Nat) (kl kc : IntKind) (m n : Nat) (hmn : m ≤ n) (hby : K.bytes * n ≤ 281474976710656) (h63 : n ≤ maxLen) (hbase : base ≤ w.heap.size) :
    ∃ w', (Instr.makeSlice K.s (.int kl (m : Int)) (.int kc (n : Int))).run P w = .ok (.slice (some ⟨w.heap.size, 0, none⟩) m n) w' ∧ OwnL K w' base (.slice (some ⟨w.heap.size, 0, none⟩) m n) (List.replicate m K.z) ∧ w.grownBy w' none := by
  obtain ⟨i0, hi, hz0, hz1, hz2⟩ := info_parts K.info
  have h63' : (n : Int) ≤ 9223372036854775807 := by simp only [maxLen] at h63; omega
  have hb' : (i0.bytes : Int) * (n : Int) ≤ 281474976710656 := by
    rw [hz2]
    have h : ((K.bytes * n : Nat) : Int) ≤ 281474976710656 := by omega
    rwa [Int.natCast_mul] at h
  have hr := run_make (P := P) w K.s K.e i0 _ K.under hi hz0 kl kc m n (by omega) (by omega) hb' h63'
  simp only [Int.toNat_natCast] at hr
  have hokr : ∀ n, ∀ y ∈ List.replicate n K.z, K.ok y := fun n y hy => by rw [List.eq_of_mem_replicate hy]; exact K.okz
  refine ⟨_, hr, ⟨hokr _, .inr ⟨w.heap.size, List.replicate (n - m) K.z, ?_, hbase, hokr _, ?_, ?_⟩⟩, World.grownBy_alloc w _ none⟩
  · rw [List.length_replicate, List.length_replicate, Nat.add_sub_cancel' hmn]
  · rw [List.length_replicate, List.length_replicate, Nat.add_sub_cancel' hmn]; exact h63
  · rw [hz1, made_cells, List.replicate_append_replicate, Nat.add_sub_cancel' hmn]
    exact heap_alloc_new w _
theorem wpList_make_l (w : World) {ops : Array Oper} {rest : List Oper} {o : Oper} {a : Act} {Q : Exit → Act → World → Prop} (K : El P α) (hg : o.guard = none) (lo co : Operand) (hop : o.op = Op.makeSlice K.s lo co)
    (base : Nat) (kl kc : IntKind) (L C : Int) (m n : Nat) (hl : a.eval lo = .int kl L) (hc : a.eval co = .int kc C) (hL : L = (m : Int)) (hC : C = (n : Int)) (hmn : m ≤ n) (hby : K.bytes * n ≤ 281474976710656) (h63 : n ≤ maxLen) (hbase : base ≤ w.heap.size)
    (hK : ∀ w', OwnL K w' base (.slice (some ⟨w.heap.size, 0, none⟩) m n) (List.replicate m K.z) → w.grownBy w' none → wpList P ops Q rest (a.put o.dst (.slice (some ⟨w.heap.size, 0, none⟩) m n)) w') : wpList P ops Q (o :: rest) a w := by
  refine wpList_plain hg fun K' hK' => ?_
  subst hL hC
  obtain ⟨w', hrun, r1, r2⟩ := run_make_l K w base kl kc m n hmn hby h63 hbase
  unfold Oper.wp
  simp [execOp, hop, hl, hc, hrun, Result.andThen]
  exact hK' _ _ (hK w' r1 r2)

/-! Lists read from the front. -/
theorem take_snoc {l : List α} {k : Nat} {x : α} (h : l[k]? = some x) : l.take (k + 1) = l.take k ++ [x] := by rw [List.take_add_one, h]; rfl
theorem take_both {la lb : List α} {k : Nat} {a b : α} (h : la.take k = lb.take k) (ha : la[k]? = some a) (hb : lb[k]? = some b) : (la.take (k + 1) = lb.take (k + 1)) ↔ a = b := by
  rw [take_snoc ha, take_snoc hb, h]
  simp
theorem take_unlike {la lb : List α} {k : Nat} (h : la.take k ≠ lb.take k) : la ≠ lb := fun e => h (by rw [e])
theorem take_whole {la lb : List α} {k : Nat} (h : la.take k = lb.take k) (ha : la.length ≤ k) (hb : lb.length ≤ k) : la = lb := by
  rwa [List.take_of_length_le ha, List.take_of_length_le hb] at h
theorem drop_at {l : List α} {k : Nat} {x : α} (h : l[k]? = some x) : l.drop k = x :: l.drop (k + 1) := by
  obtain ⟨hk, rfl⟩ := List.getElem?_eq_some_iff.1 h
  exact List.drop_eq_getElem_cons hk
end
end Go.Proofs.Ytlefkaoibokjdaa
namespace Go.Proofs.Ytlefkaoibokjdaa
open Go.RowKit
set_option linter.unusedVariables false

/-- What fits into a byte. -/
def U8 (x : Nat) : Prop := x < 256
def yK : El Try.prog Nat where
  e := 5
  s := 27
  size := 1
  bytes := 1
  zero := .int .u8 0
  z := 0
  enc := fun x => [.int .u8 (x : Nat)]
  ok := U8
  len := fun _ => rfl
  one := fun x u hu => by simp at hu; subst hu; rfl
  okz := by unfold U8; omega
  encz := rfl
  pos := by decide
  under := Try.underlying27
  info := by kernel_rfl

section
variable {w : World} {base B n c : Nat} {A : Option Addr} {l : List Nat}
theorem Lv.byte_ (h : Lv yK w B (.slice A n c) l) {k : Nat} (hk : k < l.length) :
    ∃ b off x, A = some ⟨b, off, none⟩ ∧ b < B ∧ U8 x ∧ l[k]? = some x ∧ w.cell? ⟨b, off + k, none⟩ = some (.int .u8 (x : Nat)) := by
  obtain ⟨b, off, x, h1, h2, h3, h4, h5⟩ := h.at_ hk
  have h6 := h5 0 (.int .u8 (x : Nat)) rfl
  refine ⟨b, off, x, h1, h2, h3, h4, ?_⟩
  have e : off + (k * yK.size + 0) = off + k := by show off + (k * 1 + 0) = _; omega
  rw [e] at h6
  exact h6
theorem OwnL.byte_ (h : OwnL yK w base (.slice A n c) l) {k : Nat} (hk : k < l.length) :
    ∃ g x, A = some ⟨g, 0, none⟩ ∧ n = l.length ∧ base ≤ g ∧ U8 x ∧ l[k]? = some x ∧ w.cell? ⟨g, k, none⟩ = some (.int .u8 (x : Nat)) ∧ w.frozen? ⟨g, k, none⟩ = false := by
  obtain ⟨g, x, h1, h2, h3, h4, h5, h6, h7⟩ := h.at_ hk
  have h8 := h6 0 (.int .u8 (x : Nat)) rfl
  refine ⟨g, x, h1, h2, h3, h4, h5, ?_, h7 k⟩
  have e : k * yK.size + 0 = k := by show k * 1 + 0 = _; omega
  rw [e] at h8
  exact h8
theorem OwnL.setByte_ {g : Nat} (h : OwnL yK w base (.slice (some ⟨g, 0, none⟩) n c) l) {j : Nat} (hj : j < l.length) {x : Nat} (hx : U8 x) :
    OwnL yK (w.setCell ⟨g, j, none⟩ (.int .u8 (x : Nat))) base (.slice (some ⟨g, 0, none⟩) n c) (l.set j x) ∧ w.grownBy (w.setCell ⟨g, j, none⟩ (.int .u8 (x : Nat))) (some g) := h.set_ rfl hj hx rfl
end
end Go.Proofs.Ytlefkaoibokjdaa
