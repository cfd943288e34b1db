/-
  A hash: its cells, and what stands in them behind so many bytes.
-/
import Derived.Test.YtejipcnihgpdhaaSpDigest
import Derived.Test.YtejipcnihgpdhaaSpBehind
import Derived.Deep.MidRow
namespace Go.Proofs.Ytejipcnihgpdhaa
open Go.RowKit
set_option linter.unusedVariables false

namespace Sh
theorem blocks_succ : ∀ (k : Nat) (s : St) (l : List Nat), blocks s (k + 1) l = press (blocks s k l) ((l.drop (64 * k)).take 64)
  | 0, s, l => by simp [blocks]
  | k + 1, s, l => by
    rw [blocks, blocks_succ k, List.drop_drop]
    have e : 64 + 64 * k = 64 * (k + 1) := by omega
    rw [e]
    rfl
theorem blocks_app : ∀ (k : Nat) (s : St) (l m : List Nat), 64 * k ≤ l.length → blocks s k (l ++ m) = blocks s k l
  | 0, s, l, m, _ => rfl
  | k + 1, s, l, m, h => by
    rw [blocks_succ, blocks_succ, blocks_app k s l m (by omega), List.drop_append_of_le_length (by omega), List.take_append_of_le_length (by rw [List.length_drop]; omega)]
/-- The state and the rest of a hash to which these bytes were written. -/
structure HS (s : St) (r l : List Nat) : Prop where
  len : r.length = 64
  lt : ∀ x ∈ r, x < 256
  st : s = blocks begin (l.length / 64) l
  tail : r.take (l.length % 64) = l.drop (64 * (l.length / 64))
def fill (r : List Nat) (k : Nat) (x : List Nat) : List Nat := r.take k ++ x ++ r.drop (k + x.length)
theorem fill_len {r : List Nat} {k : Nat} {x : List Nat} (h : r.length = 64) (hx : k + x.length ≤ 64) : (fill r k x).length = 64 := by simp [fill]; omega
theorem fill_take {r : List Nat} {k : Nat} {x : List Nat} (h : r.length = 64) (hx : k + x.length ≤ 64) : (fill r k x).take (k + x.length) = r.take k ++ x := by
  unfold fill
  have hk : (r.take k).length = k := by rw [List.length_take]; omega
  rw [List.take_append_of_le_length (by rw [List.length_append, hk]; omega), List.take_of_length_le (by rw [List.length_append, hk]; omega)]
theorem fill_lt {r : List Nat} {k : Nat} {x : List Nat} (h : ∀ y ∈ r, y < 256) (hx : ∀ y ∈ x, y < 256) : ∀ y ∈ fill r k x, y < 256 := by
  intro y hy
  rcases List.mem_append.1 hy with hy | hy
  · rcases List.mem_append.1 hy with hy | hy
    · exact h y (List.mem_of_mem_take hy)
    · exact hx y hy
  · exact h y (List.mem_of_mem_drop hy)
theorem HS.more {s : St} {r l x : List Nat} (h : HS s r l) (hx : ∀ y ∈ x, y < 256) (hl : l.length % 64 + x.length < 64) : HS s (fill r (l.length % 64) x) (l ++ x) := by
  have e : (l ++ x).length = l.length + x.length := List.length_append
  have e1 : (l.length + x.length) / 64 = l.length / 64 := by omega
  have e2 : (l.length + x.length) % 64 = l.length % 64 + x.length := by omega
  refine ⟨fill_len h.len (by omega), fill_lt h.lt hx, ?_, ?_⟩
  · rw [e, e1, blocks_app _ _ _ _ (by omega)]; exact h.st
  · rw [e, e1, e2, fill_take h.len (by omega), h.tail, List.drop_append_of_le_length (by omega)]
theorem HS.full {s : St} {r l x : List Nat} (h : HS s r l) (hx : ∀ y ∈ x, y < 256) (hl : l.length % 64 + x.length = 64) : HS (press s (fill r (l.length % 64) x)) (fill r (l.length % 64) x) (l ++ x) := by
  have e : (l ++ x).length = l.length + x.length := List.length_append
  have e1 : (l.length + x.length) / 64 = l.length / 64 + 1 := by omega
  have e2 : (l.length + x.length) % 64 = 0 := by omega
  have h3 : fill r (l.length % 64) x = l.drop (64 * (l.length / 64)) ++ x := by
    have := fill_take (k := l.length % 64) (x := x) h.len (by omega)
    rw [hl, List.take_of_length_le (by rw [fill_len h.len (by omega)]; omega), h.tail] at this
    exact this
  refine ⟨fill_len h.len (by omega), fill_lt h.lt hx, ?_, ?_⟩
  · rw [e, e1, blocks_succ, blocks_app _ _ _ _ (by omega), ← h.st, List.drop_append_of_le_length (by omega), ← h3, List.take_of_length_le (by rw [fill_len h.len (by omega)]; omega)]
  · rw [e, e1, e2, List.take_zero, List.drop_of_length_le (by omega)]
theorem HS.new {r : List Nat} (hl : r.length = 64) (h8 : ∀ x ∈ r, x < 256) : HS begin r [] := ⟨hl, h8, rfl, rfl⟩
theorem sum_of {s : St} {r l : List Nat} (h : HS s r (l ++ behind l.length)) : s.bytes = sum l := by
  rw [h.st, sum, List.length_append]
end Sh

/-- The cells of a hash. -/
def hcl (m : Bool) (s : Sh.St) (r : List Nat) (n : Nat) : List Value := .bool m :: (s.list.map wv ++ (r.map u8 ++ [.int .u64 (n : Nat)]))
def hc (m : Bool) (s : Sh.St) (r : List Nat) (n : Nat) : Array Value := (hcl m s r n).toArray
section
variable {m : Bool} {s s' : Sh.St} {r : List Nat} {n : Nat}
theorem hc_size (h : r.length = 64) : (hc m s r n).size = 74 := by simp [hc, hcl, h, Sh.St.list]
theorem hc_made : (hc m s r n)[0]? = some (.bool m) := by simp [hc, hcl]
theorem hc_count (h : r.length = 64) : (hc m s r n)[73]? = some (.int .u64 (n : Nat)) := by
  simp [hc, hcl, Sh.St.list, h]
theorem hc_setCount (h : r.length = 64) (n' : Nat) : (hc m s r n).setIfInBounds 73 (.int .u64 (n' : Nat)) = hc m s r n' := by
  unfold hc
  apply Array.ext'
  rw [Array.toList_setIfInBounds]
  show (hcl m s r n).set 73 _ = hcl m s r n'
  have e : (Value.bool m :: s.list.map wv).length = 9 := rfl
  show ((Value.bool m :: s.list.map wv) ++ (r.map u8 ++ [_])).set 73 _ = (Value.bool m :: s.list.map wv) ++ (r.map u8 ++ [_])
  rw [List.set_append_right _ _ (by rw [e]; omega), e, List.set_append_right _ _ (by rw [List.length_map, h]; omega), List.length_map, h]
  rfl
theorem hc_one : (hc m s r n).all (·.oneCell') = true := by
  rw [Array.all_eq_true_iff_forall_mem]
  intro v hv
  simp only [hc, hcl, List.mem_toArray, List.mem_cons, List.mem_append, List.mem_map, List.not_mem_nil, or_false] at hv
  rcases hv with rfl | ⟨x, _, rfl⟩ | ⟨x, _, rfl⟩ | rfl <;> rfl
/-- What copy leaves of the cells. -/
theorem hc_copy (h : r.length = 64) {k : Nat} {x : List Nat} (hk : k + x.length ≤ 64) : ((hc m s r n).toList.take (9 + k) ++ x.map u8 ++ (hc m s r n).toList.drop (9 + k + (x.map u8).length)).toArray = hc m s (Sh.fill r k x) n := by
  unfold hc
  congr 1
  show ((Value.bool m :: s.list.map wv) ++ (r.map u8 ++ [_])).take (9 + k) ++ x.map u8 ++ ((Value.bool m :: s.list.map wv) ++ (r.map u8 ++ [_])).drop (9 + k + (x.map u8).length) = (Value.bool m :: s.list.map wv) ++ ((Sh.fill r k x).map u8 ++ [_])
  obtain ⟨p, hp⟩ : ∃ p, Value.bool m :: s.list.map wv = p := ⟨_, rfl⟩
  have e : p.length = 9 := by rw [← hp]; rfl
  rw [hp, List.length_map, List.take_append, List.drop_append, e, List.take_of_length_le (by omega), List.drop_of_length_le (by omega)]
  rw [show 9 + k - 9 = k by omega, show 9 + k + x.length - 9 = k + x.length by omega]
  rw [List.take_append_of_le_length (by rw [List.length_map]; omega), List.drop_append_of_le_length (by rw [List.length_map]; omega)]
  simp [Sh.fill, List.map_take, List.map_drop]
end
/-- The rest and the state, as ranges. -/
theorem Rw.state {w : World} {g : Nat} {m : Bool} {s : Sh.St} {r : List Nat} {n : Nat} (h : Rw w g 50 (hc m s r n)) : w.rangeAt g 1 (stv s).toList := by
  intro j v hv
  have hj : j < 8 := (List.getElem?_eq_some_iff.1 hv).1
  rw [h.cell, Nat.add_comm, ← hv, hc, List.getElem?_toArray, hcl, List.getElem?_cons_succ, List.getElem?_append_left (by simpa [Sh.St.list] using hj)]
  rfl
theorem Rw.rest {w : World} {g : Nat} {m : Bool} {s : Sh.St} {r : List Nat} {n : Nat} (h : Rw w g 50 (hc m s r n)) : w.rangeAt g 9 (bvs r).toList := by
  intro j v hv
  have hj : j < r.length := by have := (List.getElem?_eq_some_iff.1 hv).1; simpa [bvs] using this
  rw [h.cell, ← hv, hc, List.getElem?_toArray]
  show ((Value.bool m :: s.list.map wv) ++ (r.map u8 ++ [_]))[9 + j]? = _
  have e : (Value.bool m :: s.list.map wv).length = 9 := rfl
  rw [List.getElem?_append_right (by rw [e]; omega), e, show 9 + j - 9 = j by omega, List.getElem?_append_left (by rw [List.length_map]; omega)]
  simp [bvs]
theorem Rw.there {w : World} {g t : Nat} {c : Array Value} (h : Rw w g t c) {o n : Nat} (hn : o + n ≤ c.size) : w.there g o n := fun j hj =>
  ⟨by rw [h.cell, Array.getElem?_eq_getElem (by omega)]; rfl, h.frozen _⟩
theorem Rw.setCells {w : World} {g : Nat} {t : TypeId} : ∀ (vs : List Value) (c : Array Value) (o : Nat) (w : World), Rw w g t c → Rw (w.setCells g o vs) g t ((vs.zipIdx o).foldl (fun c (p : Value × Nat) => c.setIfInBounds p.2 p.1) c)
  | [], c, o, w, h => h
  | v :: vs, c, o, w, h => Rw.setCells (w := w) vs _ (o + 1) _ (h.set o v)
theorem Rw.newState {w : World} {g : Nat} {m : Bool} {s s' : Sh.St} {r : List Nat} {n : Nat} (h : Rw w g 50 (hc m s r n)) : Rw (w.setCells g 1 (stv s').toList) g 50 (hc m s' r n) := by
  have h2 := Rw.setCells (w := w) (stv s').toList _ 1 w h
  have e : (((stv s').toList).zipIdx 1).foldl (fun c (p : Value × Nat) => c.setIfInBounds p.2 p.1) (hc m s r n) = hc m s' r n := by
    obtain ⟨a, b, c, d, e, f, g, k⟩ := s
    obtain ⟨a', b', c', d', e', f', g', k'⟩ := s'
    apply Array.ext'
    simp [stv, hc, hcl, Sh.St.list, List.zipIdx]
  rw [e] at h2
  exact h2
theorem below_setCells {B g : Nat} {a : World} (hg : B ≤ g) : ∀ (vs : List Value) (o : Nat) (w : World), Below B a w → Below B a (w.setCells g o vs)
  | [], _, _, h => h
  | v :: vs, o, w, h => below_setCells hg vs (o + 1) _ (h.setCell hg v)
end Go.Proofs.Ytejipcnihgpdhaa
