/- Parts of the proof. -/
import Derived.Outline
import Derived.WalkKit
import Derived.WalkLawsBesides
import Derived.Below
import Derived.Lib.Hide
import Derived.OwnWalk
import Derived.Laws.AppendOwnNone
import Derived.RegionTactic
import Derived.RowKit
import Derived.Test.YtiafeniflkikeaaGreatProg
import Derived.Test.YtiafeniflkikeaaGreatPm02
import Derived.WalkSpells
namespace Go.Proofs.YtiafeniflkikeaaGreat
def I64 (x : Int) : Prop := -9223372036854775808 ≤ x ∧ x < 9223372036854775808
end Go.Proofs.YtiafeniflkikeaaGreat
namespace Go.Proofs.YtiafeniflkikeaaGreat
open Go.RowKit
set_option linter.unusedVariables false
structure El (P : Program) (α : Type) where
 e : TypeId
 s : TypeId
 size : Nat
 bytes : Nat
 zero : Value
 z : α
 enc : α → List Value
 ok : α → Prop
 len : ∀ x, (enc x).length = size
 one : ∀ x, ∀ u ∈ enc x, u.oneCell' = true
 okz : ok z
 encz : zero.cells = (enc z).toArray
 pos : 0 < size
 under : P.underlying s = some (.slice e)
 info : (P.info? e).map (fun i => (i.zero, i.size, i.bytes)) = some (some zero, size, bytes)
section
variable {P : Program} {α : Type} {K : El P α}
def El.flat (K : El P α) (l : List α) : List Value := l.flatMap K.enc
theorem flat_cons (x : α) (l : List α) : K.flat (x :: l) = K.enc x ++ K.flat l := by simp [El.flat]
theorem flat_app (l m : List α) : K.flat (l ++ m) = K.flat l ++ K.flat m := by simp [El.flat]
theorem flat_one (x : α) : K.flat [x] = K.enc x := by simp [El.flat]
theorem flat_len (l : List α) : (K.flat l).length = l.length * K.size := by
 induction l with
 | nil => simp [El.flat]
 | cons x r ih => rw [flat_cons, List.length_append, ih, K.len, List.length_cons, Nat.succ_mul, Nat.add_comm]
theorem flat_at {l : List α} {i : Nat} {x : α} (h : l[i]? = some x) {j : Nat} (hj : j < K.size) : (K.flat l)[i * K.size + j]? = (K.enc x)[j]? := by
 induction l generalizing i with
 | nil => simp at h
 | cons y r ih =>
  rw [flat_cons]
  cases i with
  | zero =>
   simp at h
   subst h
   rw [Nat.zero_mul, Nat.zero_add, List.getElem?_append_left (by rw [K.len]; exact hj)]
  | succ i =>
   simp at h
   rw [List.getElem?_append_right (by rw [K.len, Nat.succ_mul]; omega), K.len, Nat.succ_mul, ← ih h]
   congr 1
   omega
theorem flat_one_cell (l : List α) : ∀ u ∈ K.flat l, u.oneCell' = true := by
 intro u hu
 obtain ⟨x, _, hx⟩ := List.mem_flatMap.1 hu
 exact K.one x u hx
theorem flat_take (l m : List α) : (K.flat (l ++ m)).take (l.length * K.size) = K.flat l := by
 rw [flat_app, ← flat_len, List.take_left]
theorem add_addr (b off n : Nat) : (⟨b, off, none⟩ : Addr).add n = ⟨b, off + n, none⟩ := by unfold Addr.add; split <;> simp_all
def Lv (K : El P α) (w : World) (B : Nat) (v : Value) (l : List α) : Prop :=
 ∃ A c, v = .slice A l.length c ∧ l.length ≤ c ∧ c ≤ maxLen ∧ (A = none → c = 0) ∧ (∀ x ∈ l, K.ok x) ∧
  (0 < l.length → ∃ b off, A = some ⟨b, off, none⟩ ∧ b < B ∧ ∀ j u, (K.flat l)[j]? = some u → w.cell? ⟨b, off + j, none⟩ = some u)
def OwnL (K : El P α) (w : World) (base : Nat) (v : Value) (l : List α) : Prop :=
 (∀ x ∈ l, K.ok x) ∧ ((v = .slice none 0 0 ∧ l = []) ∨
  ∃ g s, v = .slice (some ⟨g, 0, none⟩) l.length (l.length + s.length) ∧ base ≤ g ∧ (∀ x ∈ s, K.ok x) ∧ l.length + s.length ≤ maxLen ∧ w.heap[g]? = some (.cells (K.flat (l ++ s)).toArray K.e (0, 0)))
variable {w w' : World} {base B : Nat} {v : Value} {l : List α}
theorem Lv.nil_ (K : El P α) (w : World) (B : Nat) : Lv K w B (.slice none 0 0) [] := ⟨none, 0, rfl, by simp, by simp [maxLen], by simp, by simp, by simp⟩
theorem Lv.below_ (h : Lv K w B v l) {B' : Nat} (hb : Below B' w w') (hB : B ≤ B') : Lv K w' B v l := by
 obtain ⟨A, c, e, h1, h2, h3, h4, h5⟩ := h
 refine ⟨A, c, e, h1, h2, h3, h4, fun hp => ?_⟩
 obtain ⟨b, off, e, hl, hc⟩ := h5 hp
 exact ⟨b, off, e, hl, fun j u hj => (hb.cell (p := ⟨b, off + j, none⟩) (by show b < B'; omega)).trans (hc j u hj)⟩
theorem Lv.mono_ (h : Lv K w B v l) {B' : Nat} (hB : B ≤ B') : Lv K w B' v l := by
 obtain ⟨A, c, e, h1, h2, h3, h4, h5⟩ := h
 refine ⟨A, c, e, h1, h2, h3, h4, fun hp => ?_⟩
 obtain ⟨b, off, e, hl, hc⟩ := h5 hp
 exact ⟨b, off, e, by omega, hc⟩
theorem Lv.drew_ (h : Lv K w B v l) : Lv K w.drew B v l := h
theorem Lv.ok_ (h : Lv K w B v l) : ∀ x ∈ l, K.ok x := by obtain ⟨_, _, _, _, _, _, h, _⟩ := h; exact h
theorem Lv.len_ {A : Option Addr} {n c : Nat} (h : Lv K w B (.slice A n c) l) : n = l.length ∧ l.length ≤ c ∧ c ≤ maxLen := by
 obtain ⟨_, _, e, h1, h2, _⟩ := h
 injection e with e1 e2 e3
 subst e2 e3
 exact ⟨rfl, h1, h2⟩
theorem Lv.kept_ (h : Lv K w B v l) {row : Option Nat} (hg : w.grownBy w' row) (hB : B ≤ w.heap.size) (hne : ∀ k, row = some k → B ≤ k) : Lv K w' B v l :=
 h.below_ (B' := B) ((Below.refl B w).grown hg hB hne) (Nat.le_refl _)
theorem Lv.at_ {A : Option Addr} {n c : Nat} (h : Lv K w B (.slice A n c) l) {k : Nat} (hk : k < l.length) :
  ∃ b off x, A = some ⟨b, off, none⟩ ∧ b < B ∧ K.ok x ∧ l[k]? = some x ∧ ∀ j u, (K.enc x)[j]? = some u → w.cell? ⟨b, off + (k * K.size + j), none⟩ = some u := by
 obtain ⟨A', c', e, h1, h2, h3, h4, h5⟩ := h
 injection e with e1 e2 e3
 subst e1
 obtain ⟨b, off, rfl, hb, hc⟩ := h5 (by omega)
 refine ⟨b, off, l[k], rfl, hb, h4 _ (List.getElem_mem hk), List.getElem?_eq_getElem hk, fun j u hj => hc _ u ?_⟩
 have hjs : j < K.size := by have := (List.getElem?_eq_some_iff.1 hj).1; rw [K.len] at this; exact this
 rw [flat_at (List.getElem?_eq_getElem hk) hjs]
 exact hj
theorem Lv.take_ {A : Option Addr} {n c : Nat} (h : Lv K w B (.slice A n c) l) {k : Nat} (hk : k ≤ l.length) : Lv K w B (.slice A k c) (l.take k) := by
 obtain ⟨A', c', e, h1, h2, h3, h4, h5⟩ := h
 injection e with e1 e2 e3
 subst e1 e3
 have hl : (l.take k).length = k := by rw [List.length_take]; omega
 refine ⟨A, c, by rw [hl], by rw [hl]; omega, h2, h3, fun x hx => h4 x (List.mem_of_mem_take hx), fun hp => ?_⟩
 obtain ⟨b, off, e, hb, hc⟩ := h5 (by omega)
 refine ⟨b, off, e, hb, fun j u hj => hc j u ?_⟩
 have e2 : K.flat l = K.flat (l.take k) ++ K.flat (l.drop k) := by rw [← flat_app, List.take_append_drop]
 rw [e2, List.getElem?_append_left (List.getElem?_eq_some_iff.1 hj).1]
 exact hj
theorem OwnL.nil_ (K : El P α) (w : World) (base : Nat) : OwnL K w base (.slice none 0 0) [] := ⟨by simp, .inl ⟨rfl, rfl⟩⟩
theorem OwnL.lt_ (h : OwnL K w base v l) : ∀ k, v.ownBlock = some k → base ≤ k ∧ k < w.heap.size := by
 intro k hk
 rcases h.2 with ⟨rfl, _⟩ | ⟨g, s, rfl, hb, _, _, hg⟩
 ·simp [Value.ownBlock] at hk
 ·simp [Value.ownBlock] at hk
  subst hk
  exact ⟨hb, (Array.getElem?_eq_some_iff.1 hg).1⟩
theorem OwnL.row_ (h : OwnL K w base v l) : w.ownsRow base K.e K.size v l.length (K.flat l) := by
 refine ⟨flat_len l, ?_⟩
 rcases h.2 with ⟨rfl, rfl⟩ | ⟨g, s, rfl, hb, _, hm, hg⟩
 ·exact .inl ⟨rfl, rfl⟩
 ·exact .inr ⟨g, _, _, rfl, hb, hg, by omega, hm, by rw [List.size_toArray, flat_len, List.length_append], flat_take l s⟩
theorem OwnL.form_ (h : OwnL K w base v l) : Lv K w w.heap.size v l := by
 rcases h.2 with ⟨rfl, rfl⟩ | ⟨g, s, rfl, hb, _, hm, hg⟩
 ·exact Lv.nil_ _ _ _
 ·refine ⟨_, _, rfl, by omega, hm, by simp, h.1, fun _ => ⟨g, 0, rfl, (Array.getElem?_eq_some_iff.1 hg).1, fun j u hj => ?_⟩⟩
  rw [Nat.zero_add, cell_of_row w g j _ _ _ hg, List.getElem?_toArray, flat_app, List.getElem?_append_left (List.getElem?_eq_some_iff.1 hj).1]
  exact hj
theorem OwnL.kept_ (h : OwnL K w base v l) {row : Option Nat} (hg : w.grownBy w' row) (hne : v.ownBlock = none ∨ v.ownBlock ≠ row) : OwnL K w' base v l := by
 refine ⟨h.1, ?_⟩
 rcases h.2 with hn | ⟨g, s, rfl, hb, hs, hm, hh⟩
 ·exact .inl hn
 ·refine .inr ⟨g, s, rfl, hb, hs, hm, ?_⟩
  rw [hg.block g (Array.getElem?_eq_some_iff.1 hh).1 (by simpa [Value.ownBlock] using hne)]
  exact hh
theorem OwnL.alloc_ (h : OwnL K w base v l) (o : Obj) : OwnL K (w.alloc o) base v l := h.kept_ (World.grownBy_alloc w o none) (by cases v.ownBlock <;> simp)
theorem OwnL.drew_ (h : OwnL K w base v l) : OwnL K w.drew base v l := h
theorem OwnL.below_ (h : OwnL K w base v l) {B : Nat} (hb : Below B w w') (hB : w.heap.size ≤ B) : OwnL K w' base v l := by
 refine ⟨h.1, ?_⟩
 rcases h.2 with hn | ⟨g, s, rfl, hg, hs, hm, hh⟩
 ·exact .inl hn
 ·refine .inr ⟨g, s, rfl, hg, hs, hm, ?_⟩
  have hlt : g < w.heap.size := (Array.getElem?_eq_some_iff.1 hh).1
  rw [hb.block g (by omega)]
  exact hh
theorem OwnL.mono_ (h : OwnL K w base v l) {base' : Nat} (hb : base' ≤ base) : OwnL K w base' v l := by
 refine ⟨h.1, ?_⟩
 rcases h.2 with hn | ⟨g, s, rfl, hg, hr⟩
 ·exact .inl hn
 ·exact .inr ⟨g, s, rfl, by omega, hr⟩
theorem OwnL.of_block (h : OwnL K w base v l) (hb : ∀ k, v.ownBlock = some k → w'.heap[k]? = w.heap[k]?) : OwnL K w' base v l := by
 refine ⟨h.1, ?_⟩
 rcases h.2 with hn | ⟨g, s, rfl, hg, hs, hm, hh⟩
 ·exact .inl hn
 ·exact .inr ⟨g, s, rfl, hg, hs, hm, (hb g rfl).trans hh⟩
theorem zero_cells (n : Nat) : Builtin.zeroCells K.zero.cells n = (K.flat (List.replicate n K.z)).toArray := by
 rw [K.encz]
 apply Array.ext_getElem?
 intro j
 have hz : (K.enc K.z).length = K.size := K.len _
 have hp := K.pos
 have he : (K.flat (List.replicate n K.z)).toArray[j]? = (K.flat (List.replicate n K.z))[j]? := by simp
 simp only [Builtin.zeroCells, List.size_toArray, hz, Array.getElem?_map]
 by_cases hj : j < n * K.size
 ·have hq : j / K.size < n := (Nat.div_lt_iff_lt_mul hp).2 hj
  have hr : j % K.size < K.size := Nat.mod_lt _ hp
  have hf := flat_at (K := K) (l := List.replicate n K.z) (i := j / K.size) (x := K.z) (by rw [List.getElem?_replicate, if_pos hq]) hr
  rw [Nat.div_add_mod' j K.size] at hf
  rw [he, hf, List.getElem?_eq_getElem (by rw [hz]; exact hr)]
  simp [hj, hz, hr]
 ·rw [he, List.getElem?_eq_none (l := K.flat _) (by rw [flat_len, List.length_replicate]; omega)]
  simp [hj]
theorem made_cells (n : Nat) : madeCells K.zero.cells (n * K.size) = (K.flat (List.replicate n K.z)).toArray := by
 rw [← zero_cells]
 simp only [madeCells, Builtin.zeroCells, K.encz, List.size_toArray, K.len]
def Moved (w : World) (v v' : Value) : Prop := ∀ k, v'.ownBlock = some k → v.ownBlock = some k ∨ w.heap.size ≤ k
def Apart (u v : Value) : Prop := ∀ k, u.ownBlock = some k → v.ownBlock ≠ some k
theorem Apart.symm {u v : Value} (h : Apart u v) : Apart v u := fun k h1 h2 => h k h2 h1
theorem run_append_m (w : World) (base : Nat) (v : Value) (l : List α) (hown : OwnL K w base v l) (ty : TypeId) (x : Value) (B : Nat) (m : List α) (hx : Lv K w B x m) (hsz : (l.length + m.length) * K.bytes ≤ 140737488355328) (h63 : l.length + m.length ≤ maxLen) (hbase : base ≤ w.heap.size) :
  ∃ v' w', (Builtin.append_ #[K.s, K.s] ty #[v, x]).run P w = .ok v' w' ∧ OwnL K w' base v' (l ++ m) ∧ w.grownBy w' v.ownBlock ∧ Moved w v v' := by
 obtain ⟨i0, hi, hz0, hz1, hz2⟩ := info_parts K.info
 obtain ⟨A, c, rfl, hmc, hcm, hnil, hok, hm⟩ := hx
 have hokr : ∀ n, ∀ y ∈ List.replicate n K.z, K.ok y := fun n y hy => by rw [List.eq_of_mem_replicate hy]; exact K.okz
 by_cases h0 : m = []
 ·subst h0
  refine ⟨v, w, ?_, by simpa using hown, ⟨rfl, rfl, rfl, Nat.le_refl _, fun _ _ _ => rfl⟩, fun k hk => .inl hk⟩
  cases A with
  | none =>
   obtain rfl := hnil rfl
   exact run_append_owned_none w base _ _ _ i0 K.size K.under hi v l.length _ hown.row_
  | some ad =>
   rcases hown.2 with ⟨rfl, rfl⟩ | ⟨g, s, rfl, _⟩
   ·simp [Builtin.append_, run_underlying K.under, sizeOf, typeInfo, hi, Builtin.lenOf, Builtin.firstCells, loadCells, loadCellsFrom]
   ·simp [Builtin.append_, run_underlying K.under, sizeOf, typeInfo, hi, Builtin.lenOf, Builtin.firstCells, loadCells, loadCellsFrom, storeCells]
 ·have hp : 0 < m.length := List.length_pos_iff.2 h0
  obtain ⟨b, off, rfl, hb, hc⟩ := hm hp
  have hnews : ∀ j u, (K.flat m)[j]? = some u → w.cell? ((⟨b, off, none⟩ : Addr).add j) = some u := fun j u hj => by rw [add_addr]; exact hc j u hj
  have hall : ∀ y ∈ l ++ m, K.ok y := fun y hy => (List.mem_append.1 hy).elim (hown.1 y) (hok y)
  have hfl : (K.flat m).length = m.length * i0.size := by rw [hz1, flat_len]
  have hsm : l.length + m.length ≤ 9223372036854775807 := by simp only [maxLen] at h63; omega
  rcases hown.2 with ⟨rfl, rfl⟩ | ⟨g, s, rfl, hbg, hs, hcm', hg⟩
  ·have hr := run_append_nil (P := P) w K.s ty K.e i0 _ K.under hi hz0 ⟨b, off, none⟩ m.length c (K.flat m) hfl hnews hp (by simp only [List.length_nil] at hsm; omega) (by rw [hz2]; simp only [List.length_nil, Nat.zero_add] at hsz; omega)
   have hge := grownCap_ge w m.length 0 K.e
   have hle := grownCap_le_maxLen w m.length 0 K.e (by simpa using h63)
   refine ⟨_, _, hr, ⟨hall, .inr ⟨w.heap.size, List.replicate (grownCap w m.length 0 K.e - m.length) K.z, ?_, hbase, hokr _, ?_, ?_⟩⟩, ⟨rfl, rfl, rfl, by simp, fun k hk _ => heap_alloc_old w.drew _ hk⟩, fun k hk => .inr (by simp [Value.ownBlock] at hk; omega)⟩
   ·rw [List.nil_append, List.length_replicate, Nat.add_sub_cancel' hge]
   ·rw [List.nil_append, List.length_replicate, Nat.add_sub_cancel' hge]; exact hle
   ·rw [zero_cells, List.nil_append, flat_app, List.append_toArray]
    exact heap_alloc_new w.drew _
  ·have hol : (K.flat l).length = l.length * i0.size := by rw [hz1, flat_len]
   by_cases hroom : l.length + m.length ≤ l.length + s.length
   ·have hr := run_append_room (P := P) w K.s ty K.e i0 K.under hi g l.length (l.length + s.length) _ hg ⟨b, off, none⟩ m.length c (K.flat m) hfl hnews (flat_one_cell m) hroom (by rw [List.size_toArray, hfl, flat_len, hz1, List.length_append, ← Nat.add_mul]; exact Nat.mul_le_mul_right _ hroom)
    refine ⟨_, _, hr, ⟨hall, .inr ⟨g, s.drop m.length, ?_, hbg, fun y hy => hs y (List.mem_of_mem_drop hy), ?_, ?_⟩⟩, ⟨rfl, rfl, rfl, by simp, fun k _ hk => setRow_other w g k _ (fun e => hk (by simp [Value.ownBlock, e]))⟩, fun k hk => .inl hk⟩
    ·rw [List.length_append, List.length_drop]
     congr 1
     omega
    ·rw [List.length_append, List.length_drop]; omega
    ·rw [setRow_heap w g _ _ _ _ hg]
     congr 3
     have e : K.flat (l ++ s) = K.flat (l ++ s.take m.length) ++ K.flat (s.drop m.length) := by rw [← flat_app, List.append_assoc, List.take_append_drop]
     have e2 : (K.flat (l ++ s.take m.length)).length = (l.length + m.length) * K.size := by rw [flat_len, List.length_append, List.length_take, Nat.min_eq_left (by omega)]
     rw [hz1, List.toList_toArray, flat_take, hfl, hz1, ← Nat.add_mul, e, ← e2, List.drop_left, ← flat_app, ← flat_app]
   ·have holds : ∀ j u, (K.flat l)[j]? = some u → w.cell? ((⟨g, 0, none⟩ : Addr).add j) = some u := fun j u hj => by
     rw [add_addr, Nat.zero_add, cell_of_row w g j _ _ _ hg, List.getElem?_toArray, flat_app, List.getElem?_append_left (List.getElem?_eq_some_iff.1 hj).1]
     exact hj
    have hr := run_append_grow (P := P) w K.s ty K.e i0 _ K.under hi hz0 ⟨g, 0, none⟩ l.length (l.length + s.length) (K.flat l) hol holds ⟨b, off, none⟩ m.length c (K.flat m) hfl hnews (by omega) (by omega) (growslice_fits (by omega) (by rw [hz2]; exact hsz))
    have hge := grownCap_ge w (l.length + m.length) (l.length + s.length) K.e
    have hle := grownCap_le_maxLen w (l.length + m.length) (l.length + s.length) K.e h63
    refine ⟨_, _, hr, ⟨hall, .inr ⟨w.heap.size, List.replicate (grownCap w (l.length + m.length) (l.length + s.length) K.e - (l.length + m.length)) K.z, ?_, hbase, hokr _, ?_, ?_⟩⟩, ⟨rfl, rfl, rfl, by simp, fun k hk _ => heap_alloc_old w.drew _ hk⟩, fun k hk => .inr (by simp [Value.ownBlock] at hk; omega)⟩
    ·rw [List.length_append, List.length_replicate, Nat.add_sub_cancel' hge]
    ·rw [List.length_append, List.length_replicate, Nat.add_sub_cancel' hge]; exact hle
    ·rw [zero_cells, flat_app, flat_app, List.append_toArray, List.append_toArray]
     exact heap_alloc_new w.drew _
theorem run_append_l (w : World) (base : Nat) (v : Value) (l : List α) (hown : OwnL K w base v l) (ty : TypeId) (x : Value) (B : Nat) (m : List α) (hx : Lv K w B x m) (hsz : (l.length + m.length) * K.bytes ≤ 140737488355328) (h63 : l.length + m.length ≤ maxLen) (hbase : base ≤ w.heap.size) :
  ∃ v' w', (Builtin.append_ #[K.s, K.s] ty #[v, x]).run P w = .ok v' w' ∧ OwnL K w' base v' (l ++ m) ∧ w.grownBy w' v.ownBlock := by
 obtain ⟨v', w', h1, h2, h3, _⟩ := run_append_m w base v l hown ty x B m hx hsz h63 hbase
 exact ⟨v', w', h1, h2, h3⟩
theorem wpList_append_l (w : World) {ops : Array Oper} {rest : List Oper} {o : Oper} {a : Act} {Q : Exit → Act → World → Prop} (K : El P α) (hgd : o.guard = none) (s t : Operand)
  (ho : o.op = .call { callee := .builtin .append, args := #[s, t], argTypes := #[K.s, K.s] })
  (base : Nat) (v : Value) (hs : a.eval s = v) (l : List α) (hown : OwnL K w base v l) (x : Value) (hx0 : a.eval t = x) (B : Nat) (m : List α) (hx : Lv K w B x m) (hsz : (l.length + m.length) * K.bytes ≤ 140737488355328) (h63 : l.length + m.length ≤ maxLen) (hbase : base ≤ w.heap.size)
  (h : ∀ A c w', OwnL K w' base (.slice A (l ++ m).length c) (l ++ m) → w.grownBy w' v.ownBlock → wpList P ops Q rest (a.put o.dst (.slice A (l ++ m).length c)) w') : wpList P ops Q (o :: rest) a w :=
 wpList_plain hgd fun K' hK => by
  obtain ⟨v', w', hr, hA, hG⟩ := run_append_l w base v l hown o.type x B m hx hsz h63 hbase
  obtain ⟨A, c, rfl, _⟩ := hA.form_
  unfold Oper.wp execOp
  simp only [ho, resolve, invoke, builtin, Sem.run_bind, Sem.run_pure, Result.andThen_ok, List.map_toArray, List.map_cons, List.map_nil, hs, hx0, hr]
  exact hK _ _ (h A c w' hA hG)
theorem wpList_append_m (w : World) {ops : Array Oper} {rest : List Oper} {o : Oper} {a : Act} {Q : Exit → Act → World → Prop} (K : El P α) (hgd : o.guard = none) (s t : Operand)
  (ho : o.op = .call { callee := .builtin .append, args := #[s, t], argTypes := #[K.s, K.s] })
  (base : Nat) (v : Value) (hs : a.eval s = v) (l : List α) (hown : OwnL K w base v l) (x : Value) (hx0 : a.eval t = x) (B : Nat) (m : List α) (hx : Lv K w B x m) (hsz : (l.length + m.length) * K.bytes ≤ 140737488355328) (h63 : l.length + m.length ≤ maxLen) (hbase : base ≤ w.heap.size)
  (h : ∀ A c w', OwnL K w' base (.slice A (l ++ m).length c) (l ++ m) → w.grownBy w' v.ownBlock → Moved w v (.slice A (l ++ m).length c) → wpList P ops Q rest (a.put o.dst (.slice A (l ++ m).length c)) w') : wpList P ops Q (o :: rest) a w :=
 wpList_plain hgd fun K' hK => by
  obtain ⟨v', w', hr, hA, hG, hM⟩ := run_append_m w base v l hown o.type x B m hx hsz h63 hbase
  obtain ⟨A, c, rfl, _⟩ := hA.form_
  unfold Oper.wp execOp
  simp only [ho, resolve, invoke, builtin, Sem.run_bind, Sem.run_pure, Result.andThen_ok, List.map_toArray, List.map_cons, List.map_nil, hs, hx0, hr]
  exact hK _ _ (h A c w' hA hG hM)
theorem Lv.lit_ (w : World) {x : α} (hx : K.ok x) : Lv K (w.alloc (.cells (K.enc x).toArray K.e)) (w.heap.size + 1) (.slice (some ⟨w.heap.size, 0, none⟩) 1 1) [x] := by
 refine ⟨_, _, rfl, by simp, by simp [maxLen], by simp, by simpa using hx, fun _ => ⟨w.heap.size, 0, rfl, by omega, fun j u hj => ?_⟩⟩
 rw [flat_one] at hj
 rw [Nat.zero_add, cell_of_row _ w.heap.size j _ _ _ (heap_alloc_new w _), List.getElem?_toArray]
 exact hj
theorem grown_alloc {w w' : World} {row : Option Nat} {o : Obj} (h : (w.alloc o).grownBy w' row) : w.grownBy w' row :=
 ⟨h.os, h.tape, h.output, Nat.le_trans (by simp) h.size, fun k hk hne => (h.block k (by simp; omega) hne).trans (heap_alloc_old w o hk)⟩
theorem wpList_push_l (w : World) {ops : Array Oper} {rest : List Oper} {o : Oper} {a : Act} {Q : Exit → Act → World → Prop} (K : El P α) (hgd : o.guard = none) (s t : Operand)
  (ho : o.op = .call { callee := .builtin .append, args := #[s, t], argTypes := #[K.s, K.s] })
  (base : Nat) (v : Value) (hs : a.eval s = v) (l : List α) (hown : OwnL K w base v l) (ht : a.eval t = .slice (some ⟨w.heap.size, 0, none⟩) 1 1) (x : α) (hx : K.ok x) (cs : Array Value) (hcs : cs = (K.enc x).toArray) (e : TypeId) (he : e = K.e) (hsz : (l.length + 1) * K.bytes ≤ 140737488355328) (h63 : l.length + 1 ≤ maxLen) (hbase : base ≤ w.heap.size)
  (h : ∀ A c w', OwnL K w' base (.slice A (l.length + 1) c) (l ++ [x]) → w.grownBy w' v.ownBlock → wpList P ops Q rest (a.put o.dst (.slice A (l.length + 1) c)) w') : wpList P ops Q (o :: rest) a (w.alloc (.cells cs e)) := by
 subst hcs he
 refine wpList_append_l _ K hgd s t ho base v hs l (hown.alloc_ _) _ ht _ [x] (Lv.lit_ w hx) (by simpa using hsz) (by simpa using h63) (by simp; omega) fun A c w' h1 h2 => ?_
 rw [List.length_append, List.length_singleton] at h1 ⊢
 exact h A c w' h1 (grown_alloc h2)
theorem run_make_l (K : El P α) (w : World) (base : Nat) (kl kc : IntKind) (m n : Nat) (hmn : m ≤ n) (hby : K.bytes * n ≤ 281474976710656) (h63 : n ≤ maxLen) (hbase : base ≤ w.heap.size) :
  ∃ w', (Instr.makeSlice K.s (.int kl (m : Int)) (.int kc (n : Int))).run P w = .ok (.slice (some ⟨w.heap.size, 0, none⟩) m n) w' ∧ OwnL K w' base (.slice (some ⟨w.heap.size, 0, none⟩) m n) (List.replicate m K.z) ∧ w.grownBy w' none := by
 obtain ⟨i0, hi, hz0, hz1, hz2⟩ := info_parts K.info
 have h63' : (n : Int) ≤ 9223372036854775807 := by simp only [maxLen] at h63; omega
 have hb' : (i0.bytes : Int) * (n : Int) ≤ 281474976710656 := by
  rw [hz2]
  have h : ((K.bytes * n : Nat) : Int) ≤ 281474976710656 := by omega
  rwa [Int.natCast_mul] at h
 have hr := run_make (P := P) w K.s K.e i0 _ K.under hi hz0 kl kc m n (by omega) (by omega) hb' h63'
 simp only [Int.toNat_natCast] at hr
 have hokr : ∀ n, ∀ y ∈ List.replicate n K.z, K.ok y := fun n y hy => by rw [List.eq_of_mem_replicate hy]; exact K.okz
 refine ⟨_, hr, ⟨hokr _, .inr ⟨w.heap.size, List.replicate (n - m) K.z, ?_, hbase, hokr _, ?_, ?_⟩⟩, World.grownBy_alloc w _ none⟩
 ·rw [List.length_replicate, List.length_replicate, Nat.add_sub_cancel' hmn]
 ·rw [List.length_replicate, List.length_replicate, Nat.add_sub_cancel' hmn]; exact h63
 ·rw [hz1, made_cells, List.replicate_append_replicate, Nat.add_sub_cancel' hmn]
  exact heap_alloc_new w _
theorem wpList_make_l (w : World) {ops : Array Oper} {rest : List Oper} {o : Oper} {a : Act} {Q : Exit → Act → World → Prop} (K : El P α) (hg : o.guard = none) (lo co : Operand) (hop : o.op = Op.makeSlice K.s lo co)
  (base : Nat) (kl kc : IntKind) (L C : Int) (m n : Nat) (hl : a.eval lo = .int kl L) (hc : a.eval co = .int kc C) (hL : L = (m : Int)) (hC : C = (n : Int)) (hmn : m ≤ n) (hby : K.bytes * n ≤ 281474976710656) (h63 : n ≤ maxLen) (hbase : base ≤ w.heap.size)
  (hK : ∀ w', OwnL K w' base (.slice (some ⟨w.heap.size, 0, none⟩) m n) (List.replicate m K.z) → w.grownBy w' none → wpList P ops Q rest (a.put o.dst (.slice (some ⟨w.heap.size, 0, none⟩) m n)) w') : wpList P ops Q (o :: rest) a w := by
 refine wpList_plain hg fun K' hK' => ?_
 subst hL hC
 obtain ⟨w', hrun, r1, r2⟩ := run_make_l K w base kl kc m n hmn hby h63 hbase
 unfold Oper.wp
 simp [execOp, hop, hl, hc, hrun, Result.andThen]
 exact hK' _ _ (hK w' r1 r2)
theorem take_snoc {l : List α} {k : Nat} {x : α} (h : l[k]? = some x) : l.take (k + 1) = l.take k ++ [x] := by rw [List.take_add_one, h]; rfl
theorem drop_at {l : List α} {k : Nat} {x : α} (h : l[k]? = some x) : l.drop k = x :: l.drop (k + 1) := by
 obtain ⟨hk, rfl⟩ := List.getElem?_eq_some_iff.1 h
 exact List.drop_eq_getElem_cons hk
end
end Go.Proofs.YtiafeniflkikeaaGreat
namespace Go.Proofs.YtiafeniflkikeaaGreat
open Go.RowKit
set_option linter.unusedVariables false
section
variable {P : Program} {α : Type}
def IsL1 (K : El P α) (l : List α) (w : World) (e : Ending) (w' : World) : Prop :=
 ∃ A c, e = .returned (.slice A l.length c) ∧ OwnL K w' w.heap.size (.slice A l.length c) l ∧ Below w.heap.size w w'
def IsLE (K : El P α) (r : List α × Nat) (w : World) (e : Ending) (w' : World) : Prop :=
 ∃ A c, e = .returned (.tuple #[.slice A r.1.length c, .int .i64 r.2]) ∧ OwnL K w' w.heap.size (.slice A r.1.length c) r.1 ∧ Below w.heap.size w w'
variable {K : El P α}
theorem IsLE.none_ {w : World} {r : List α × Nat} {e : Nat} {x : Int} (h : r = ([], e)) (hx : x = (e : Nat)) : IsLE K r w (.returned (.tuple #[.slice none 0 0, .int .i64 x])) w := by
 subst h hx; exact ⟨none, 0, rfl, OwnL.nil_ _ _ _, Below.refl _ _⟩
theorem IsLE.of {w w' : World} {r : List α × Nat} {y : List α} {e c n : Nat} {x : Int} {A : Option Addr} (h : r = (y, e)) (hn : n = y.length) (hx : x = (e : Nat)) (ho : OwnL K w' w.heap.size (.slice A n c) y) (hb : Below w.heap.size w w') :
  IsLE K r w (.returned (.tuple #[.slice A n c, .int .i64 x])) w' := by subst h hx hn; exact ⟨A, c, rfl, ho, hb⟩
theorem grownBy_trans {w w1 w2 : World} {r : Option Nat} (h : w.grownBy w1 r) (h2 : w1.grownBy w2 r) : w.grownBy w2 r :=
 ⟨h2.os.trans h.os, h2.tape.trans h.tape, h2.output.trans h.output, Nat.le_trans h.size h2.size, fun k hk hne => (h2.block k (Nat.lt_of_lt_of_le hk h.size) hne).trans (h.block k hk hne)⟩
end
end Go.Proofs.YtiafeniflkikeaaGreat
namespace Go.Proofs.YtiafeniflkikeaaGreat
open Go.RowKit
set_option linter.unusedVariables false
def Bts (w : World) (B : Nat) (A : Option Addr) (l : List Nat) : Prop :=
 (∀ x ∈ l, x < 256) ∧ (0 < l.length → ∃ b off, A = some ⟨b, off, none⟩ ∧ b < B ∧ ∀ j c, l[j]? = some c → w.cell? ⟨b, off + j, none⟩ = some (.int .u8 (c : Nat)))
section
variable {w w' : World} {B B' : Nat} {A : Option Addr} {l : List Nat}
theorem Bts.nil_ (w : World) (B : Nat) (A : Option Addr) : Bts w B A [] := ⟨by simp, by simp⟩
theorem Bts.at_ (h : Bts w B A l) {k : Nat} (hk : k < l.length) :
  ∃ b off c, A = some ⟨b, off, none⟩ ∧ b < B ∧ c < 256 ∧ l.drop k = c :: l.drop (k + 1) ∧ w.cell? ⟨b, off + k, none⟩ = some (.int .u8 (c : Nat)) := by
 obtain ⟨b, off, e, hb, hc⟩ := h.2 (by omega)
 exact ⟨b, off, l[k], e, hb, h.1 _ (List.getElem_mem hk), List.drop_eq_getElem_cons hk, hc k _ (List.getElem?_eq_getElem hk)⟩
end
def IsBool (b : Bool) (w : World) (e : Ending) (w' : World) : Prop := e = .returned (.bool b) ∧ Below w.heap.size w w'
end Go.Proofs.YtiafeniflkikeaaGreat
