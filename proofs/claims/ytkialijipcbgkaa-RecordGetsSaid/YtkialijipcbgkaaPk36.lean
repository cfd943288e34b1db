/-
  SpHashM: A hash: its cells, and what stands in them behind so many bytes.
  ShSum: stookref04.Sum: the digest of bytes.
  RRcD: stookref13.Of.
  RRcE: stookref13.Doc.
-/
import Derived.Test.YtkialijipcbgkaaPk35
import Derived.Deep.MidRow
import Derived.Test.YtkialijipcbgkaaPk34
import Derived.Test.YtkialijipcbgkaaPk31
import Derived.Test.YtkialijipcbgkaaPk14
import Derived.Test.YtkialijipcbgkaaPk23
import Derived.Test.YtkialijipcbgkaaPk24
namespace Go.Proofs.Ytkialijipcbgkaa
open Go.RowKit
set_option linter.unusedVariables false

namespace Sh
theorem blocks_succ : ∀ (k : Nat) (s : St) (l : List Nat), blocks s (k + 1) l = press (blocks s k l) ((l.drop (64 * k)).take 64)
  | 0, s, l => by simp [blocks]
  | k + 1, s, l => by
    rw [blocks, blocks_succ k, List.drop_drop]
    have e : 64 + 64 * k = 64 * (k + 1) := by omega
    rw [e]
    rfl
theorem blocks_app : ∀ (k : Nat) (s : St) (l m : List Nat), 64 * k ≤ l.length → blocks s k (l ++ m) = blocks s k l
  | 0, s, l, m, _ => rfl
  | k + 1, s, l, m, h => by
    rw [blocks_succ, blocks_succ, blocks_app k s l m (by omega), List.drop_append_of_le_length (by omega), List.take_append_of_le_length (by rw [List.length_drop]; omega)]
/-- The state and the rest of a hash to which these bytes were written. -/
structure HS (s : St) (r l : List Nat) : Prop where
  len : r.length = 64
  lt : ∀ x ∈ r, x < 256
  st : s = blocks begin (l.length / 64) l
  tail : r.take (l.length % 64) = l.drop (64 * (l.length / 64))
def fill (r : List Nat) (k : Nat) (x : List Nat) : List Nat := r.take k ++ x ++ r.drop (k + x.length)
theorem fill_len {r : List Nat} {k : Nat} {x : List Nat} (h : r.length = 64) (hx : k + x.length ≤ 64) : (fill r k x).length = 64 := by simp [fill]; omega
theorem fill_take {r : List Nat} {k : Nat} {x : List Nat} (h : r.length = 64) (hx : k + x.length ≤ 64) : (fill r k x).take (k + x.length) = r.take k ++ x := by
  unfold fill
  have hk : (r.take k).length = k := by rw [List.length_take]; omega
  rw [List.take_append_of_le_length (by rw [List.length_append, hk]; omega), List.take_of_length_le (by rw [List.length_append, hk]; omega)]
theorem fill_lt {r : List Nat} {k : Nat} {x : List Nat} (h : ∀ y ∈ r, y < 256) (hx : ∀ y ∈ x, y < 256) : ∀ y ∈ fill r k x, y < 256 := by
  intro y hy
  rcases List.mem_append.1 hy with hy | hy
  · rcases List.mem_append.1 hy with hy | hy
    · exact h y (List.mem_of_mem_take hy)
    · exact hx y hy
  · exact h y (List.mem_of_mem_drop hy)
theorem HS.more {s : St} {r l x : List Nat} (h : HS s r l) (hx : ∀ y ∈ x, y < 256) (hl : l.length % 64 + x.length < 64) : HS s (fill r (l.length % 64) x) (l ++ x) := by
  have e : (l ++ x).length = l.length + x.length := List.length_append
  have e1 : (l.length + x.length) / 64 = l.length / 64 := by omega
  have e2 : (l.length + x.length) % 64 = l.length % 64 + x.length := by omega
  refine ⟨fill_len h.len (by omega), fill_lt h.lt hx, ?_, ?_⟩
  · rw [e, e1, blocks_app _ _ _ _ (by omega)]; exact h.st
  · rw [e, e1, e2, fill_take h.len (by omega), h.tail, List.drop_append_of_le_length (by omega)]
theorem HS.full {s : St} {r l x : List Nat} (h : HS s r l) (hx : ∀ y ∈ x, y < 256) (hl : l.length % 64 + x.length = 64) : HS (press s (fill r (l.length % 64) x)) (fill r (l.length % 64) x) (l ++ x) := by
  have e : (l ++ x).length = l.length + x.length := List.length_append
  have e1 : (l.length + x.length) / 64 = l.length / 64 + 1 := by omega
  have e2 : (l.length + x.length) % 64 = 0 := by omega
  have h3 : fill r (l.length % 64) x = l.drop (64 * (l.length / 64)) ++ x := by
    have := fill_take (k := l.length % 64) (x := x) h.len (by omega)
    rw [hl, List.take_of_length_le (by rw [fill_len h.len (by omega)]; omega), h.tail] at this
    exact this
  refine ⟨fill_len h.len (by omega), fill_lt h.lt hx, ?_, ?_⟩
  · rw [e, e1, blocks_succ, blocks_app _ _ _ _ (by omega), ← h.st, List.drop_append_of_le_length (by omega), ← h3, List.take_of_length_le (by rw [fill_len h.len (by omega)]; omega)]
  · rw [e, e1, e2, List.take_zero, List.drop_of_length_le (by omega)]
theorem HS.new {r : List Nat} (hl : r.length = 64) (h8 : ∀ x ∈ r, x < 256) : HS begin r [] := ⟨hl, h8, rfl, rfl⟩
theorem sum_of {s : St} {r l : List Nat} (h : HS s r (l ++ behind l.length)) : s.bytes = sum l := by
  rw [h.st, sum, List.length_append]
end Sh

/-- The cells of a hash. -/
def hcl (m : Bool) (s : Sh.St) (r : List Nat) (n : Nat) : List Value := .bool m :: (s.list.map wv ++ (r.map u8 ++ [.int .u64 (n : Nat)]))
def hc (m : Bool) (s : Sh.St) (r : List Nat) (n : Nat) : Array Value := (hcl m s r n).toArray
section
variable {m : Bool} {s s' : Sh.St} {r : List Nat} {n : Nat}
theorem hc_size (h : r.length = 64) : (hc m s r n).size = 74 := by simp [hc, hcl, h, Sh.St.list]
theorem hc_made : (hc m s r n)[0]? = some (.bool m) := by simp [hc, hcl]
theorem hc_count (h : r.length = 64) : (hc m s r n)[73]? = some (.int .u64 (n : Nat)) := by
  simp [hc, hcl, Sh.St.list, h]
theorem hc_setCount (h : r.length = 64) (n' : Nat) : (hc m s r n).setIfInBounds 73 (.int .u64 (n' : Nat)) = hc m s r n' := by
  unfold hc
  apply Array.ext'
  rw [Array.toList_setIfInBounds]
  show (hcl m s r n).set 73 _ = hcl m s r n'
  have e : (Value.bool m :: s.list.map wv).length = 9 := rfl
  show ((Value.bool m :: s.list.map wv) ++ (r.map u8 ++ [_])).set 73 _ = (Value.bool m :: s.list.map wv) ++ (r.map u8 ++ [_])
  rw [List.set_append_right _ _ (by rw [e]; omega), e, List.set_append_right _ _ (by rw [List.length_map, h]; omega), List.length_map, h]
  rfl
theorem hc_one : (hc m s r n).all (·.oneCell') = true := by
  rw [Array.all_eq_true_iff_forall_mem]
  intro v hv
  simp only [hc, hcl, List.mem_toArray, List.mem_cons, List.mem_append, List.mem_map, List.not_mem_nil, or_false] at hv
  rcases hv with rfl | ⟨x, _, rfl⟩ | ⟨x, _, rfl⟩ | rfl <;> rfl
/-- What copy leaves of the cells. -/
theorem hc_copy (h : r.length = 64) {k : Nat} {x : List Nat} (hk : k + x.length ≤ 64) : ((hc m s r n).toList.take (9 + k) ++ x.map u8 ++ (hc m s r n).toList.drop (9 + k + (x.map u8).length)).toArray = hc m s (Sh.fill r k x) n := by
  unfold hc
  congr 1
  show ((Value.bool m :: s.list.map wv) ++ (r.map u8 ++ [_])).take (9 + k) ++ x.map u8 ++ ((Value.bool m :: s.list.map wv) ++ (r.map u8 ++ [_])).drop (9 + k + (x.map u8).length) = (Value.bool m :: s.list.map wv) ++ ((Sh.fill r k x).map u8 ++ [_])
  obtain ⟨p, hp⟩ : ∃ p, Value.bool m :: s.list.map wv = p := ⟨_, rfl⟩
  have e : p.length = 9 := by rw [← hp]; rfl
  rw [hp, List.length_map, List.take_append, List.drop_append, e, List.take_of_length_le (by omega), List.drop_of_length_le (by omega)]
  rw [show 9 + k - 9 = k by omega, show 9 + k + x.length - 9 = k + x.length by omega]
  rw [List.take_append_of_le_length (by rw [List.length_map]; omega), List.drop_append_of_le_length (by rw [List.length_map]; omega)]
  simp [Sh.fill, List.map_take, List.map_drop]
end
/-- The rest and the state, as ranges. -/
theorem Rw.state {w : World} {g : Nat} {m : Bool} {s : Sh.St} {r : List Nat} {n : Nat} (h : Rw w g 127 (hc m s r n)) : w.rangeAt g 1 (stv s).toList := by
  intro j v hv
  have hj : j < 8 := (List.getElem?_eq_some_iff.1 hv).1
  rw [h.cell, Nat.add_comm, ← hv, hc, List.getElem?_toArray, hcl, List.getElem?_cons_succ, List.getElem?_append_left (by simpa [Sh.St.list] using hj)]
  rfl
theorem Rw.rest {w : World} {g : Nat} {m : Bool} {s : Sh.St} {r : List Nat} {n : Nat} (h : Rw w g 127 (hc m s r n)) : w.rangeAt g 9 (bvs r).toList := by
  intro j v hv
  have hj : j < r.length := by have := (List.getElem?_eq_some_iff.1 hv).1; simpa [bvs] using this
  rw [h.cell, ← hv, hc, List.getElem?_toArray]
  show ((Value.bool m :: s.list.map wv) ++ (r.map u8 ++ [_]))[9 + j]? = _
  have e : (Value.bool m :: s.list.map wv).length = 9 := rfl
  rw [List.getElem?_append_right (by rw [e]; omega), e, show 9 + j - 9 = j by omega, List.getElem?_append_left (by rw [List.length_map]; omega)]
  simp [bvs]
theorem Rw.there {w : World} {g t : Nat} {c : Array Value} (h : Rw w g t c) {o n : Nat} (hn : o + n ≤ c.size) : w.there g o n := fun j hj =>
  ⟨by rw [h.cell, Array.getElem?_eq_getElem (by omega)]; rfl, h.frozen _⟩
theorem Rw.setCells {w : World} {g : Nat} {t : TypeId} : ∀ (vs : List Value) (c : Array Value) (o : Nat) (w : World), Rw w g t c → Rw (w.setCells g o vs) g t ((vs.zipIdx o).foldl (fun c (p : Value × Nat) => c.setIfInBounds p.2 p.1) c)
  | [], c, o, w, h => h
  | v :: vs, c, o, w, h => Rw.setCells (w := w) vs _ (o + 1) _ (h.set o v)
theorem Rw.newState {w : World} {g : Nat} {m : Bool} {s s' : Sh.St} {r : List Nat} {n : Nat} (h : Rw w g 127 (hc m s r n)) : Rw (w.setCells g 1 (stv s').toList) g 127 (hc m s' r n) := by
  have h2 := Rw.setCells (w := w) (stv s').toList _ 1 w h
  have e : (((stv s').toList).zipIdx 1).foldl (fun c (p : Value × Nat) => c.setIfInBounds p.2 p.1) (hc m s r n) = hc m s' r n := by
    obtain ⟨a, b, c, d, e, f, g, k⟩ := s
    obtain ⟨a', b', c', d', e', f', g', k'⟩ := s'
    apply Array.ext'
    simp [stv, hc, hcl, Sh.St.list, List.zipIdx]
  rw [e] at h2
  exact h2
theorem below_setCells {B g : Nat} {a : World} (hg : B ≤ g) : ∀ (vs : List Value) (o : Nat) (w : World), Below B a w → Below B a (w.setCells g o vs)
  | [], _, _, h => h
  | v :: vs, o, w, h => below_setCells hg vs (o + 1) _ (h.setCell hg v)
end Go.Proofs.Ytkialijipcbgkaa
namespace Go.Proofs.Ytkialijipcbgkaa
open Go.RowKit
set_option linter.unusedVariables false

/-- An array of n bytes, the first k of them written. -/
def pk (l : List Nat) (n k : Nat) : Array Value := bvs (l.take k ++ List.replicate (n - k) 0)
theorem pk_zero (l : List Nat) (n : Nat) : pk l n 0 = bvs (List.replicate n 0) := by unfold pk; rw [List.take_zero]; rfl
theorem pk_end {l : List Nat} {n : Nat} (h : l.length = n) : pk l n n = bvs l := by unfold pk; rw [List.take_of_length_le (by omega)]; simp
theorem pk_old (l : List Nat) {n k : Nat} (h : k < n) (hl : l.length = n) : (pk l n k)[k]? = some (.int .u8 (0 : Nat)) := by
  refine bvs_some ?_
  have hk : (l.take k).length = k := by rw [List.length_take]; omega
  rw [List.getElem?_append_right (by omega), hk, Nat.sub_self]
  obtain ⟨m, hm⟩ : ∃ m, n - k = m + 1 := ⟨n - k - 1, by omega⟩
  rw [hm]; rfl
theorem pk_set (l : List Nat) {n k x : Nat} (h : k < n) (hl : l.length = n) (hx : l[k]? = some x) : (pk l n k).setIfInBounds k (.int .u8 (x : Nat)) = pk l n (k + 1) := by
  unfold pk bvs
  apply Array.ext'
  have hm : n - k = (n - (k + 1)) + 1 := by omega
  rw [Array.toList_setIfInBounds, hm, List.replicate_succ, List.take_add_one, hx]
  simp only [List.map_append, List.map_cons]
  rw [List.set_append_right _ _ (by rw [List.length_map, List.length_take]; omega)]
  simp [u8]
  rw [show k - min k l.length = 0 by omega, List.set_cons_zero]
def none64 : Array Value := bvs (List.replicate 64 0)
set_option maxRecDepth 100000 in
theorem zero24 : (Try.prog.info? 102).map (fun i => (i.zero, i.size)) = some (some (.agg none64), 64) := by kernel_rfl

set_option maxHeartbeats 4000000 in
set_option maxRecDepth 100000 in
theorem rsum_any (v : Value) (l : List Nat) (B : Nat) (w : World) (hB : B ≤ w.heap.size) (h : Bv w B v l) (hn : l.length ≤ 1099511627776) :
    Calls Try.prog 48 #[v] w (fun e w' => e = .returned (.agg (bvs (Sh.sum l))) ∧ Below w.heap.size w w') := by
  have HV := Lib.hid h
  have HN := Lib.hid hn
  have HBB := Lib.hid hB
  have hz32 : ∀ w, (zeroValue 23).run Try.prog w = .ok (.agg none32) w := (zero_of_info (n := 32) (by kernel_rfl)).1
  have hz64 := (zero_of_info zero24).1
  have hfit : ([] : List Nat).length + l.length ≤ 140737488355328 := by simp; omega
  have hown : OwnB (w.alloc (.cells none32 23)) (w.heap.size + 1) (.slice none 0 0) [] := OwnB.nil_ _ _
  have hsrc : Bv (w.alloc (.cells none32 23)) B v l := h.below_ ((Below.refl w.heap.size w).alloc (Nat.le_refl _) _) hB
  have hsz1 : w.heap.size + 1 ≤ (w.alloc (.cells none32 23)).heap.size := by simp
  have HB0 : Hid (Below w.heap.size w (w.alloc (.cells none32 23))) := (Below.refl _ _).alloc (Nat.le_refl _) _
  have HD0 : Hid (Rw (w.alloc (.cells none32 23)) w.heap.size 23 none32) := Rw.new w _ _
  obtain ⟨A0, c0, rfl, _, _, _, _⟩ := h
  clear hB hn
  have HOWN := Lib.hid hown
  have HSRC := Lib.hid hsrc
  clear hown hsrc
  go_enter Try.func48, Try.ntmps48
  go_wp2_with (at_builtin; go_must (refine wpList_append_bytes _ rfl _ _ rfl rfl (w.heap.size + 1) _ rfl [] HOWN.out _ rfl B l HSRC.out hfit hsz1 ?_; intro A1 c1 w1 hA))
  have ho1 : OwnB w1 (w.heap.size + 1) (.slice A1 l.length c1) l := hA.own
  have hg1 : (w.alloc (.cells none32 23)).grownBy w1 none := hA.grown
  have hb1 : Below (w.heap.size + 1) (w.alloc (.cells none32 23)) w1 := (Below.refl _ _).grown hg1 hsz1 (fun k hk => by cases hk)
  have hsz2 : w.heap.size + 1 ≤ w1.heap.size := Nat.le_trans hsz1 hb1.size
  have HD1 := Lib.hid (HD0.out.below hb1 (Nat.lt_succ_self _))
  have HB1 := Lib.hid (HB0.out.trans (hb1.mono (Nat.le_succ _)))
  have HR := rbehind_any l.length w1
  rw [Sh.behindOf_in HN.out] at HR
  have HR := Lib.hid HR
  clear hA hg1 hb1 HB0 HD0 HOWN HSRC hfit hsz1
  refine HR.out.mono ?_
  rintro e w2 ⟨A2, c2, rfl, ho2, hb2⟩
  have HO1 := Lib.hid (ho1.below_ hb2 (Nat.le_refl _))
  have HS2 := Lib.hid ho2.form_
  have HD2 := Lib.hid (HD1.out.below hb2 HD1.out.lt)
  have HB2 := Lib.hid (HB1.out.trans (hb2.mono HB1.out.size))
  have hsz3 : w.heap.size + 1 ≤ w2.heap.size := Nat.le_trans hsz2 hb2.size
  have hfit2 : l.length + (Sh.behind l.length).length ≤ 140737488355328 := by rw [Sh.behind_len]; have := Sh.noughts_lt l.length; have := HN.out; omega
  clear ho1 ho2 hb2 HD1 HB1 HR hsz2
  go_wp2_with (at_builtin; go_must (refine wpList_append_bytes _ rfl _ _ rfl rfl (w.heap.size + 1) _ rfl l HO1.out _ rfl _ (Sh.behind l.length) HS2.out hfit2 hsz3 ?_; intro A3 c3 w3 hA))
  have ho3 : OwnB w3 (w.heap.size + 1) (.slice A3 (l ++ Sh.behind l.length).length c3) (l ++ Sh.behind l.length) := hA.own
  have hb3 : Below (w.heap.size + 1) w2 w3 := (Below.refl _ _).grown hA.grown hsz3 (fun k hk => (HO1.out.lt_ k hk).1)
  have HD3 := Lib.hid (HD2.out.below hb3 (Nat.lt_succ_self _))
  have HB3 := Lib.hid (HB2.out.trans (hb3.mono (Nat.le_succ _)))
  obtain ⟨K, hK⟩ : ∃ K, (l.length + (Sh.behind l.length).length) / 64 = K := ⟨_, rfl⟩
  have HSUM : Hid (Sh.sum l = (Sh.blocks Sh.begin K (l ++ Sh.behind l.length)).bytes) := by unfold Hid Sh.sum; rw [hK]
  obtain ⟨L, hL⟩ : ∃ L, l ++ Sh.behind l.length = L := ⟨_, rfl⟩
  have hLl : l.length + (Sh.behind l.length).length = L.length := by rw [← hL, List.length_append]
  have hLK : L.length = 64 * K := by
    have := Sh.behind_whole l.length
    rw [hLl] at this hK
    omega
  have hK1 : 0 < K := by
    have h1 := Sh.behind_len l.length
    rw [hLl] at hK
    omega
  have hK2 : K ≤ 34359738368 := by
    have h1 := Sh.behind_len l.length
    have h2 := Sh.noughts_lt l.length
    have h3 := HN.out
    omega
  rw [hL] at ho3 HSUM
  rw [hLl]
  obtain ⟨A', c', e', _, _, _, hts⟩ := ho3.form_
  injection e' with e1 e2 e3
  subst e1
  obtain ⟨b, off, rfl, hbl, hcell⟩ := hts.2 (by omega)
  have HL8 : Hid (∀ x ∈ L, x < 256) := hts.1
  have HCE : Hid (∀ w', Below w3.heap.size w3 w' → ∀ j x, L[j]? = some x → w'.cell? ⟨b, off + j, none⟩ = some (.int .u8 (x : Nat))) := fun w' hb j x hj => (hb.cell (p := ⟨b, off + j, none⟩) hbl).trans (hcell j x hj)
  have HLK := Lib.hid hLK
  have HZ3 : Hid (w.heap.size + 1 ≤ w3.heap.size) := Nat.le_trans hsz3 hb3.size
  clear hA ho3 hb3 HB2 HD2 HS2 HO1 hfit2 hsz3 e2 e3 hts hcell hbl hLl hLK hK hL
  go_wp2_with (fail)
  refine (begin_any w3).mono ?_
  rintro e w4 ⟨rfl, hb4⟩
  obtain ⟨gh, hgh⟩ : ∃ g, w4.heap.size = g := ⟨_, rfl⟩
  have HGH : Hid (w3.heap.size ≤ gh) := by unfold Hid; rw [← hgh]; exact hb4.size
  have hsc8 : (stv Sh.begin).size = 8 := rfl
  have hsc1 : (stv Sh.begin).all (·.oneCell') = true := stv_one _
  obtain ⟨sc, hsc⟩ : ∃ c, stv Sh.begin = c := ⟨_, rfl⟩
  rw [hsc] at hsc8 hsc1 ⊢
  have HR0 : Hid (Rw (w4.alloc (.cells sc 100)) gh 100 (stv (Sh.blocks Sh.begin 0 L))) := by
    rw [show Sh.blocks Sh.begin 0 L = Sh.begin from rfl, hsc]
    exact Rw.at_ hgh.symm _ _
  have HB4 : Hid (Below w3.heap.size w3 (w4.alloc (.cells sc 100))) := hb4.alloc hb4.size _
  have HGE := Lib.hid hgh
  clear hsc hb4 hgh
  go_wp2_with (first
    | (refine wpList_store_row rfl _ _ _ rfl w4.heap.size sc rfl rfl 100 _ (heap_alloc_new w4 _) (by rw [hsc8]; exact size23) (by rw [hsc8]; rfl) hsc1 ?_
       rw [World.setRow_alloc_new]))
  rw [HGE.out]
  clear HGE hsc8 hsc1
  go_loopw [7] (fun i wr => ∃ k : Nat, k ≤ K ∧ i = .int .i64 (64 * k : Nat) ∧ Hid (Rw wr gh 100 (stv (Sh.blocks Sh.begin k L))) ∧ Hid (Below w3.heap.size w3 wr)) (fun i _ => L.length - (intOf i).toNat)
  case atStart => exact ⟨0, by omega, rfl, HR0.out, HB4.out⟩
  case round =>
    clear HR0 HB4
    obtain ⟨k, hk, rfl, HR, HB⟩ := hrel
    by_cases hkK : k < K
    · obtain ⟨blk, hblk⟩ : ∃ blk, (L.drop (64 * k)).take 64 = blk := ⟨_, rfl⟩
      have hbl64 : blk.length = 64 := by rw [← hblk, List.length_take, List.length_drop, HLK.out]; omega
      have hbl8 : ∀ x ∈ blk, x < 256 := fun x hx => by rw [← hblk] at hx; exact HL8.out x (List.mem_of_mem_drop (List.mem_of_mem_take hx))
      have HAT : Hid (∀ j, j < 64 → ∃ x, blk[j]? = some x ∧ L[64 * k + j]? = some x) := fun j hj => by
        obtain ⟨x, hx⟩ : ∃ x, blk[j]? = some x := ⟨_, List.getElem?_eq_getElem (by omega)⟩
        refine ⟨x, hx, ?_⟩
        rw [← hblk, List.getElem?_take, if_pos hj, List.getElem?_drop] at hx
        exact hx
      have HSUC : Hid (Sh.blocks Sh.begin (k + 1) L = Sh.press (Sh.blocks Sh.begin k L) blk) := by unfold Hid; rw [Sh.blocks_succ, hblk]
      obtain ⟨S, hS⟩ : ∃ S, Sh.blocks Sh.begin k L = S := ⟨_, rfl⟩
      rw [hS] at HR HSUC
      have HPR : Hid (∀ w, Calls Try.prog 73 #[.agg (stv S), .agg (bvs blk)] w (IsSt (Sh.press S blk) w)) := fun w => rpress_any S blk hbl64 hbl8 w
      have HBL := Lib.hid hbl64
      have HKL : Hid (64 * k + 64 ≤ L.length) := by have := HLK.out; unfold Hid; omega
      have HLM : Hid (L.length ≤ 2199023255552) := by have := HLK.out; unfold Hid; omega
      have i1 : ((64 * k : Nat) : Int) < (L.length : Int) := by have := HKL.out; omega
      obtain ⟨at', hat⟩ : ∃ a, 64 * k = a := ⟨_, rfl⟩
      rw [hat] at HAT HKL i1 ⊢
      have HATE := Lib.hid hat
      obtain ⟨gb, hgb⟩ : ∃ g, wr.heap.size = g := ⟨_, rfl⟩
      have hgbh : gh < gb := by rw [← hgb]; exact HR.out.lt
      have HR1 := Lib.hid (HR.out.old (.cells none64 102))
      have HB1 := Lib.hid (HB.out.alloc HB.out.size (.cells none64 102))
      have HN1 : Hid (Rw (wr.alloc (.cells none64 102)) gb 102 (pk blk 64 0)) := by rw [pk_zero]; exact Rw.at_ hgb.symm _ _
      have HGB : Hid (w3.heap.size ≤ gb) := by unfold Hid; rw [← hgb]; exact HB.out.size
      have HGBE := Lib.hid hgb
      clear hblk hbl64 hbl8 hS hat HR HB hgb
      go_wp2
      rw [HGBE.out]
      clear HGBE
      go_loopw [9] (fun i wr => ∃ j : Nat, j ≤ 64 ∧ i = .int .i64 j ∧ Hid (Rw wr gb 102 (pk blk 64 j)) ∧ Hid (Rw wr gh 100 (stv S)) ∧ Hid (Below w3.heap.size w3 wr)) (fun i _ => 64 - (intOf i).toNat)
      case atStart => exact ⟨0, by omega, rfl, HN1.out, HR1.out, HB1.out⟩
      case round =>
        clear HN1 HR1 HB1
        obtain ⟨j, hj, rfl, HN, HR, HB⟩ := hrel
        by_cases h64 : j < 64
        · obtain ⟨x, hx, hLx⟩ := HAT.out j h64
          have cx := HCE.out _ HB.out _ _ hLx
          have co : ∀ wr', Rw wr' gb 102 (pk blk 64 j) → wr'.cell? ⟨gb, j, none⟩ = some (.int .u8 (0 : Nat)) := fun wr' h => (h.cell _).trans (pk_old blk h64 HBL.out)
          have co' := co _ HN.out
          have cf := HN.out.frozen j
          have HST := Lib.hid (pk_set blk h64 HBL.out hx)
          have i2 : (j : Int) < 64 := by omega
          have i3 : (at' : Int) + (j : Int) < (L.length : Int) := by have := HKL.out; omega
          have i4 : ((at' : Int) + (j : Int)).toNat = at' + j := by omega
          have i5 : (0 : Int) ≤ (at' : Int) + (j : Int) := by omega
          have i6 : IntKind.i64.wrap ((at' : Int) + (j : Int)) = (at' : Int) + (j : Int) := by rw [IntKind.wrap_i64]; have := HLM.out; omega
          clear hx hLx co
          go_wp2
          have hn := HN.out.set j (.int .u8 (x : Nat))
          rw [HST.out] at hn
          exact ⟨⟨j + 1, by omega, by go_num, hn, HR.out.setOther (by omega) _ _, HB.out.setCell HGB.out _⟩, by simp [intOf]; omega⟩
        · have h0 : j = 64 := by omega
          subst h0
          rw [pk_end HBL.out] at HN
          have hs1 : (Try.prog.info? 100).map (·.size) = some (stv S).size := size23
          have hs2 : (Try.prog.info? 102).map (·.size) = some (bvs blk).size := by rw [bvs_size, HBL.out]; exact size24
          have HNX : Hid (∀ w', Rw w' gh 100 (stv S) → Rw (w'.setRow gh (stv (Sh.press S blk))) gh 100 (stv (Sh.blocks Sh.begin (k + 1) L))) := fun w' h => by rw [HSUC.out]; exact h.row _
          obtain ⟨vc, hvc⟩ : ∃ c, stv S = c := ⟨_, rfl⟩
          obtain ⟨bc, hbc⟩ : ∃ c, bvs blk = c := ⟨_, rfl⟩
          rw [hvc] at HR hs1 HPR HNX
          rw [hbc] at HN hs2 HPR
          have hv8 : vc.size = 8 := by rw [← hvc]; rfl
          clear hvc hbc
          have i7 : ((at' : Int) + 64) = (64 * (k + 1) : Nat) := by have := HATE.out; omega
          have i8 : (at' : Int) + 64 ≤ 2199023255616 := by have := HKL.out; have := HLM.out; omega
          rw [show ((64 : Nat) : Int) = (64 : Int) from rfl]
          go_wp2_with (first
            | (refine wpList_load_row rfl _ _ rfl gh rfl 100 vc (0, 0) _ HR.out Try.underlying100 rfl hs1 ?_)
            | (refine wpList_load_row rfl _ _ rfl gb rfl 102 bc (0, 0) _ HN.out Try.underlying102 rfl hs2 ?_)
            | (go_at_call 73; (with_reducible refine (HPR.out _).mono ?_); rintro e w5 ⟨rfl, hb5⟩; have HR5 := Lib.hid (HR.out.below hb5 HR.out.lt); have HB5 := Lib.hid (HB.out.trans (hb5.mono HB.out.size)); clear hb5)
            | (refine wpList_store_row rfl _ _ _ rfl gh (stv (Sh.press S blk)) rfl rfl 100 _ HR5.out (by rw [stv_size]; exact size23) (by rw [hv8]; rfl) (stv_one _) ?_))
          have hr := HNX.out _ HR5.out
          have hb := HB5.out.trans (below_setRow (Below.refl _ w5) HGH.out (stv (Sh.press S blk)))
          exact ⟨⟨k + 1, by omega, congrArg (Value.int IntKind.i64) (by omega), hr, hb⟩, by simp [intOf]; have := HKL.out; have := HATE.out; omega⟩
    · have hkK' : k = K := by omega
      subst hkK'
      rw [← HLK.out]
      obtain ⟨S, hS⟩ : ∃ S, Sh.blocks Sh.begin k L = S := ⟨_, rfl⟩
      rw [hS] at HR HSUM
      have HSA : Hid (∀ j, j < 8 → (stv S)[j]? = some (.int .u32 (nt (S.list.getD j 0) : Nat))) := fun j hj => stv_at S hj
      have HBY : Hid (∀ i, i < 32 → (Sh.sum l).getD i 0 = nt (S.list.getD (i / 4) 0) / 2 ^ (24 - 8 * (i % 4)) % 256) := fun i hi => by rw [HSUM.out]; exact St.byte_of S hi
      have HD32 : Hid ((Sh.sum l).length = 32) := by rw [HSUM.out]; exact St.bytes_len S
      obtain ⟨dl, hdl⟩ : ∃ dl, Sh.sum l = dl := ⟨_, rfl⟩
      rw [hdl] at HBY HD32
      have HDL := Lib.hid hdl
      obtain ⟨vc, hvc⟩ : ∃ c, stv S = c := ⟨_, rfl⟩
      rw [hvc] at HR HSA
      obtain ⟨gd, hgd⟩ : ∃ g, wr.heap.size = g := ⟨_, rfl⟩
      have hghd : gh < gd := by rw [← hgd]; exact HR.out.lt
      have HGD : Hid (w3.heap.size ≤ gd) := by unfold Hid; rw [← hgd]; exact HB.out.size
      have HR1 := Lib.hid (HR.out.old (.cells none32 23))
      have HB1 := Lib.hid (HB.out.alloc HB.out.size (.cells none32 23))
      have HG1 : Hid (Rw (wr.alloc (.cells none32 23)) gd 23 (dg dl 0)) := by rw [dg_zero]; exact Rw.at_ hgd.symm _ _
      have HGDE := Lib.hid hgd
      clear hS hdl hvc hgd HR HB HSUM
      go_wp2
      rw [HGDE.out]
      clear HGDE
      go_loopw [11] (fun i wr => ∃ k : Nat, k ≤ 32 ∧ i = .int .i64 k ∧ Hid (Rw wr gh 100 vc) ∧ Hid (Rw wr gd 23 (dg dl k)) ∧ Hid (Below w3.heap.size w3 wr)) (fun i _ => 32 - (intOf i).toNat)
      case atStart => exact ⟨0, by omega, rfl, HR1.out, HG1.out, HB1.out⟩
      case round =>
        clear HR1 HG1 HB1
        obtain ⟨k, hk, rfl, HR, HG, HB⟩ := hrel
        by_cases h32 : k < 32
        · obtain ⟨x, hx⟩ : ∃ x, S.list.getD (k / 4) 0 = x := ⟨_, rfl⟩
          obtain ⟨q, hq⟩ : ∃ q, 24 - 8 * (k % 4) = q := ⟨_, rfl⟩
          obtain ⟨y, hy⟩ : ∃ y, nt x / 2 ^ q % 256 = y := ⟨_, rfl⟩
          have hby := HBY.out k h32
          rw [hx, hq, hy] at hby
          have hy8 : y < 256 := by omega
          have hyi : ((nt x : Nat) : Int) / 2 ^ q % 256 = (y : Nat) := by rw [← hy]; simp
          have HST := Lib.hid (dg_set dl h32 HD32.out hby)
          have c0' : wr.cell? ⟨gh, k / 4, none⟩ = some (.int .u32 (nt x : Nat)) := by rw [← hx]; exact (HR.out.cell _).trans (HSA.out _ (by omega))
          have co : wr.cell? ⟨gd, k, none⟩ = some (.int .u8 (0 : Nat)) := (HG.out.cell _).trans (dg_old dl h32 HD32.out)
          have cf : wr.frozen? ⟨gd, k, none⟩ = false := HG.out.frozen _
          have i0 : (k : Int) < 32 := by omega
          have i1 : (0 : Int) ≤ (k : Int) / 4 := by omega
          have i2 : (k : Int) / 4 < 8 := by omega
          have i3 : ((k : Int) / 4).toNat = k / 4 := by omega
          have i5 : (24 : Int) - 8 * ((k : Int) % 4) = (q : Nat) := by omega
          have i6 : IntKind.u64.wrap (q : Int) = (q : Nat) := by rw [IntKind.wrap_u64]; omega
          clear hx hq hy hby
          go_wp2
          have hd := HG.out.set k (.int .u8 (y : Nat))
          rw [HST.out] at hd
          exact ⟨⟨k + 1, by omega, by go_num, HR.out.setOther (by omega) _ _, hd, HB.out.setCell HGD.out _⟩, by simp [intOf]; omega⟩
        · have hkk : k = 32 := by omega
          subst hkk
          rw [dg_end HD32.out] at HG
          have hsz := size35l HD32.out
          have hone := bvs_one dl
          have hds : none32.size = (bvs dl).size := by rw [bvs_size, HD32.out]; rfl
          obtain ⟨dv, hdv⟩ : ∃ dv, bvs dl = dv := ⟨_, rfl⟩
          rw [hdv] at HG hsz hone hds
          have HDV := Lib.hid hdv
          have HD4 := Lib.hid (HD3.out.below HB.out HD3.out.lt)
          have HBE := Lib.hid (HB3.out.trans (HB.out.mono HB3.out.size))
          clear hdv
          rw [show ((32 : Nat) : Int) = (32 : Int) from rfl]
          go_wp2_with (first
            | (refine wpList_load_row rfl _ _ rfl gd rfl 23 dv (0, 0) _ HG.out Try.underlying23 rfl hsz ?_)
            | (refine wpList_store_row rfl _ _ _ rfl w.heap.size dv rfl rfl 23 _ HD4.out hsz hds hone ?_))
          refine bodyPost_ret (v := .agg dv) (results_cell_row rfl _ _ w.heap.size 23 dv (0, 0) _ rfl (Rw.row HD4.out dv) Try.underlying23 rfl hsz) rfl ⟨by rw [HDL.out, HDV.out], HBE.out.trans (below_setRow (Below.refl _ _) (Nat.le_refl _) _)⟩
end Go.Proofs.Ytkialijipcbgkaa
namespace Go.Proofs.Ytkialijipcbgkaa
open Go.RowKit
set_option linter.unusedVariables false
theorem Rc.sum_len (l : List Nat) : (Sh.sum l).length = 32 := St.bytes_len _
theorem Rc.sum_lt (l : List Nat) : ∀ x ∈ Sh.sum l, x < 256 := St.bytes_lt _

set_option maxHeartbeats 2000000 in
set_option maxRecDepth 100000 in
theorem rrcof_any (P : List Vo.Pc) (v : Value) (id : Nat) (b : List Nat) (u : Value) (B : Nat) (w : World) (hv : Lv pK w B v P) (hu : Lv yK w B u b) (hid : id < 18446744073709551616) (hB : B ≤ w.heap.size) :
    Calls Try.prog 20 #[.agg #[v], .int .u64 (id : Nat), u] w (IsRE (Rc.ofE P id b) w) := by
  have hz35 := rc_zeroV
  have hsz : (Try.prog.info? 27).map (·.size) = some none35.size := rc_sizeof Rc.fit_zero
  have hone : none35.all (·.oneCell') = true := rcC_one rfl
  have HNS : Hid (none35.size = 35) := rcC_size Rc.fit_zero
  obtain ⟨N, hN⟩ : ∃ N, none35 = N := ⟨_, rfl⟩
  have hb0 := rc_built0
  rw [hN] at hz35 hsz hone hb0 HNS
  obtain ⟨W, hW⟩ : ∃ W, w.alloc (.cells #[v] 41) = W := ⟨_, rfl⟩
  obtain ⟨d0, hs0, hb⟩ := boxed hW
  obtain ⟨z, hz⟩ : ∃ z, W.heap.size = z := ⟨_, rfl⟩
  obtain ⟨V, hV⟩ : ∃ V, W.alloc (.cells N 27) = V := ⟨_, rfl⟩
  have HRN : Hid (Rw V z 27 N) := by unfold Hid; rw [← hV, ← hz]; exact Rw.new W _ _
  have hbV : Below w.heap.size w V := by rw [← hV]; exact hb.alloc (by omega) _
  have dV : V.cell? ⟨w.heap.size, 0, none⟩ = some v := by rw [← hV]; exact ((Below.refl W.heap.size W).alloc (Nat.le_refl _) _ |>.cell (p := ⟨w.heap.size, 0, none⟩) (by show w.heap.size < _; omega)).trans d0
  have HZ : Hid (w.heap.size < z ∧ z < V.heap.size) := ⟨by omega, HRN.out.lt⟩
  have HBV := Lib.hid hbV
  have HBB := Lib.hid hB
  have HV := Lib.hid hv
  have HU := Lib.hid hu
  have HID := Lib.hid hid
  have HM := Lib.hid (rmay_voc P v B V (hv.below_ hbV hB) (Nat.le_trans hB hbV.size))
  have hb8 : ∀ c ∈ b, c < 256 := fun c hc => hu.ok_ c hc
  obtain ⟨A, c, rfl, -, -, -, -, -⟩ := hv
  obtain ⟨A2, c2, rfl, k1, k2, -, -, -⟩ := hu
  have hll : b.length ≤ 9223372036854775807 := by simp only [maxLen] at k2; omega
  clear hB hb hbV hs0 d0 k1 k2
  by_cases hm : Vo.May P
  · have HDM : Hid (decide (Vo.May P) = true) := decide_eq_true hm
    rw [HDM.out] at HM
    by_cases hbig : 4096 < b.length
    · have HE := Lib.hid (Rc.ofE_long (id := id) hm hbig)
      have hbi : (4096 : Int) < (b.length : Int) := by omega
      clear hm hbig HDM
      go_enter Try.func20, Try.ntmps20
      go_wp2_with (fail)
      refine (HM.out).mono ?_
      rintro e w1 ⟨rfl, hb1⟩
      have HR1 : Hid (Rw w1 z 27 N) := HRN.out.below hb1 HZ.out.2
      have HB1 := Lib.hid (HBV.out.trans (hb1.mono HBV.out.size))
      clear HM hb1 dV
      go_wp2_with (first
        | (refine wpList_build_at rfl 27 _ rfl N hb0 ?_)
        | (refine wpList_store_row rfl _ _ _ rfl z N rfl rfl 27 _ HR1.out hsz rfl hone ?_))
      exact IsRE.ret0 rfl hN rfl rfl rfl (Rw.row HR1.out N) HE.out rfl (below_setRow HB1.out (by have := HZ.out; omega) _)
    · have HE := Lib.hid (Rc.ofE_ok (id := id) hm hbig)
      have hbi : ¬ (4096 : Int) < (b.length : Int) := by omega
      have hbl : b.length ≤ 4096 := by omega
      have HBL := Lib.hid hbl
      have HEN : Hid (Bp.encE P b = (Bp.enc P b, 0)) := by unfold Hid Bp.encE; rw [if_pos hm, if_neg hbig]
      clear hm hbig HDM hbl
      go_enter Try.func20, Try.ntmps20
      go_wp2_with (fail)
      refine (HM.out).mono ?_
      rintro e w1 ⟨rfl, hb1⟩
      have HR1 : Hid (Rw w1 z 27 N) := HRN.out.below hb1 HZ.out.2
      have HB1 := Lib.hid (HBV.out.trans (hb1.mono HBV.out.size))
      have d1 : w1.cell? ⟨w.heap.size, 0, none⟩ = some (.slice A P.length c) := (hb1.cell (p := ⟨w.heap.size, 0, none⟩) (by show w.heap.size < _; have := HZ.out; omega)).trans dV
      have HEC := Lib.hid (rencode_any P _ b _ B w1 (HV.out.below_ HB1.out HBB.out) (HU.out.below_ HB1.out HBB.out) (Nat.le_trans HBB.out HB1.out.size))
      rw [HEN.out] at HEC
      have HZ1 : Hid (z < w1.heap.size ∧ w.heap.size ≤ w1.heap.size) := ⟨HR1.out.lt, HB1.out.size⟩
      clear HM hb1 dV HRN
      go_wp2_with (fail)
      refine (HEC.out).mono ?_
      rintro e w2 ⟨A3, c3, rfl, ho, hb2⟩
      have HR2 : Hid (Rw w2 z 27 N) := HR1.out.below hb2 HZ1.out.1
      have HB2 := Lib.hid (HB1.out.trans (hb2.mono HZ1.out.2))
      have HO2 := Lib.hid ho
      have HS := Lib.hid (rsum_any _ b B w2 (Nat.le_trans HBB.out HB2.out.size) (HU.out.below_ HB2.out HBB.out).bv_ (by have := HBL.out; omega))
      have HZ2 : Hid (z < w2.heap.size ∧ w.heap.size ≤ w2.heap.size) := ⟨HR2.out.lt, HB2.out.size⟩
      clear HEC ho hb2 d1 HR1
      go_wp2_with (fail)
      refine (HS.out).mono ?_
      rintro e w3 ⟨rfl, hb3⟩
      have HR3 : Hid (Rw w3 z 27 N) := HR2.out.below hb3 HZ2.out.1
      have HB3 := Lib.hid (HB2.out.trans (hb3.mono HZ2.out.2))
      have HO3 := Lib.hid (HO2.out.below_ hb3 (Nat.le_refl _))
      have hfit : Rc.Fit ⟨Sh.sum b, id, (b.length : Nat), Bp.enc P b⟩ := ⟨Rc.sum_len b, Rc.sum_lt b, HID.out, by have := HBL.out; show I64 ((b.length : Nat) : Int); unfold I64; omega⟩
      have HFT := Lib.hid hfit
      have hbt := rc_built (Rc.sum_len b) id (b.length : Nat) A3 (Bp.enc P b).length c3
      rw [rcC_toks_free _ _ _ [] (Bp.enc P b)] at hbt
      have hsz' : (Try.prog.info? 27).map (·.size) = some (rcC ⟨Sh.sum b, id, (b.length : Nat), Bp.enc P b⟩ (.slice A3 (Bp.enc P b).length c3)).size := rc_sizeof hfit
      have hone' : (rcC ⟨Sh.sum b, id, (b.length : Nat), Bp.enc P b⟩ (.slice A3 (Bp.enc P b).length c3)).all (·.oneCell') = true := rcC_one rfl
      obtain ⟨d, hd⟩ : ∃ d, Sh.sum b = d := ⟨_, rfl⟩
      obtain ⟨l, hl⟩ : ∃ l, Bp.enc P b = l := ⟨_, rfl⟩
      rw [hd, hl] at hbt hsz' hone' HE HFT
      rw [hl] at HO3
      obtain ⟨C, hC⟩ : ∃ C, rcC ⟨d, id, (b.length : Nat), l⟩ (.slice A3 l.length c3) = C := ⟨_, rfl⟩
      rw [hC] at hbt hsz' hone'
      have hCs : N.size = C.size := by rw [HNS.out, ← hC, rcC_size HFT.out]
      rw [hd, hl]
      clear HS hb3 hfit HR2 HO2
      go_wp2_with (first
        | (show wpList _ _ _ [_, _, _] _ _; go_must (refine wpList_build_at rfl 27 _ rfl C (by simp only [List.map_toArray]; exact hbt) ?_))
        | (refine wpList_store_row rfl _ _ _ rfl z C rfl rfl 27 _ HR3.out hsz' hCs hone' ?_))
      have hlt := HZ1.out.1
      have hzz := HZ.out
      have hown : OwnL iK (w3.setRow z C) w1.heap.size (.slice A3 l.length c3) l := HO3.out.of_block (fun k hk => by
        have := (HO3.out.lt_ k hk).1
        exact setRow_other _ _ _ _ (by omega))
      subst hC
      refine IsRE.ret1 (A := A3) (c := c3) (g := z) (y := ⟨d, id, (b.length : Nat), l⟩) (p := 6) (u1 := 7) ?_ ?_ ?_ ?_ (Rw.row HR3.out _) HE.out HFT.out (hown.mono_ HZ1.out.2) (below_setRow HB3.out (by omega) _)
      all_goals rfl
  · have HDM : Hid (decide (Vo.May P) = false) := decide_eq_false hm
    rw [HDM.out] at HM
    have HE := Lib.hid (Rc.ofE_no (id := id) (b := b) hm)
    clear hm HDM
    go_enter Try.func20, Try.ntmps20
    go_wp2_with (fail)
    refine (HM.out).mono ?_
    rintro e w1 ⟨rfl, hb1⟩
    have HR1 : Hid (Rw w1 z 27 N) := HRN.out.below hb1 HZ.out.2
    have HB1 := Lib.hid (HBV.out.trans (hb1.mono HBV.out.size))
    clear HM hb1 dV
    go_wp2_with (first
      | (refine wpList_build_at rfl 27 _ rfl N hb0 ?_)
      | (refine wpList_store_row rfl _ _ _ rfl z N rfl rfl 27 _ HR1.out hsz rfl hone ?_))
    exact IsRE.ret0 rfl hN rfl rfl rfl (Rw.row HR1.out N) HE.out rfl (below_setRow HB1.out (by have := HZ.out; omega) _)
end Go.Proofs.Ytkialijipcbgkaa
namespace Go.Proofs.Ytkialijipcbgkaa
open Go.RowKit
set_option linter.unusedVariables false
theorem equal32 {s t : List Nat} (hs : s.length = 32) (ht : t.length = 32) (hs8 : ∀ x ∈ s, x < 256) (ht8 : ∀ x ∈ t, x < 256) (w : World) :
    (Op.equalIn 10000 23 (.agg (bvs s)) (.agg (bvs t))).run Try.prog w = .ok (decide (s = t)) w := by
  have h := run_equalIn_bytes (P := Try.prog) w 9998 23 5 32 Try.underlying23 Try.underlying5 size_of5 (s.map UInt8.ofNat) (t.map UInt8.ofNat) (by simpa using hs) (by simpa using ht)
  rw [cells_u8 hs8, cells_u8 ht8, u8_inj hs8 ht8] at h
  exact h
theorem rc_digest {w : World} {g : Nat} {r : Rc.Rec} {t : Value} (h : Rw w g 27 (rcC r t)) (hf : Rc.Fit r) : w.rangeAt g 0 (bvs r.dig).toList := by
  intro j v hv
  have hk : j < (bvs r.dig).size := by have := (List.getElem?_eq_some_iff.1 hv).1; simpa using this
  rw [h.cell, Nat.zero_add, ← hv]
  unfold rcC
  rw [Array.getElem?_append_left hk, Array.getElem?_toList]
theorem digest_size : (Try.prog.info? 23).map (·.size) = some 32 := by kernel_rfl

set_option maxHeartbeats 2000000 in
set_option maxRecDepth 100000 in
theorem rrcdoc_any (P : List Vo.Pc) (v : Value) (r : Rc.Rec) (t : Value) (B : Nat) (w : World) (hv : Lv pK w B v P) (hf : Rc.Fit r) (ht : Lv iK w B t r.toks) (hB : B ≤ w.heap.size) :
    Calls Try.prog 22 #[.agg #[v], .agg (rcC r t)] w (IsLE yK (Rc.docE P r) w) := by
  have HLN : Hid ((rcC r t)[33]? = some (.int .i64 r.len)) := rcC_len hf
  have HTK : Hid ((rcC r t)[34]? = some t) := rcC_toks hf
  have HDG : Hid (∀ (w' : World) (g : Nat), Rw w' g 27 (rcC r t) → w'.rangeAt g 0 (bvs r.dig).toList) := fun w' g h => rc_digest h hf
  obtain ⟨C, hC⟩ : ∃ C, rcC r t = C := ⟨_, rfl⟩
  rw [hC] at HLN HTK HDG ⊢
  obtain ⟨W, hW⟩ : ∃ W, w.alloc (.cells #[v] 41) = W := ⟨_, rfl⟩
  obtain ⟨d0, hs0, hb⟩ := boxed hW
  obtain ⟨z, hz⟩ : ∃ z, W.heap.size = z := ⟨_, rfl⟩
  obtain ⟨V, hV⟩ : ∃ V, W.alloc (.cells C 27) = V := ⟨_, rfl⟩
  obtain ⟨hR, hsz, hb2⟩ := rc_boxed hV
  rw [hz] at hR hb2
  have hbV : Below w.heap.size w V := by rw [← hV]; exact hb.alloc (by omega) _
  have dV : V.cell? ⟨w.heap.size, 0, none⟩ = some v := by rw [← hV]; exact ((Below.refl W.heap.size W).alloc (Nat.le_refl _) _ |>.cell (p := ⟨w.heap.size, 0, none⟩) (by show w.heap.size < _; omega)).trans d0
  have d34 : V.cell? ⟨z, 34, none⟩ = some t := (hR.cell _).trans HTK.out
  have HR0 := Lib.hid hR
  have HZ : Hid (w.heap.size < z ∧ z < V.heap.size ∧ w.heap.size ≤ V.heap.size) := ⟨by omega, hR.lt, by omega⟩
  have HBV := Lib.hid hbV
  have HM := Lib.hid (rdecode_any P v r.toks t B V (hv.below_ hbV hB) (ht.below_ hbV hB) (Nat.le_trans hB hbV.size))
  have HDL := Lib.hid hf.dl
  have HD8 := Lib.hid hf.d8
  obtain ⟨A, c, rfl, -, -, -, -, -⟩ := hv
  obtain ⟨A2, c2, rfl, k1, k2, -, -, -⟩ := ht
  clear hB hb hb2 hbV hs0 d0 k1 k2 hf hC hR hsz
  rcases Rc.dec_cases P r.toks with ⟨l, hl, hl4, -⟩ | ⟨e, he, hx⟩
  · rw [hl] at HM
    have HSN : Hid (l.length ≤ 4096) := hl4
    by_cases hn : (l.length : Int) = r.len
    · have hq : ((l.length : Int) != r.len) = false := by rw [bne_eq_false_iff_eq]; exact hn
      have HX : Hid (Rc.docE P r = if Sh.sum l = r.dig then (l, 0) else ([], 6)) := by
        unfold Hid
        by_cases hs : Sh.sum l = r.dig
        · rw [if_pos hs]; exact Rc.docE_ok hl hn hs
        · rw [if_neg hs]; exact Rc.docE_sum hl hn hs
      clear hl hl4 hn
      go_enter Try.func22, Try.ntmps22
      go_wp2_with (fail)
      refine (HM.out).mono ?_
      rintro e w1 ⟨A1, c1, rfl, ho, hb1⟩
      have HB1 := Lib.hid (HBV.out.trans (hb1.mono HZ.out.2.2))
      have HR1 : Hid (Rw w1 z 27 C) := HR0.out.below hb1 HZ.out.2.1
      have HO1 := Lib.hid ho
      have HZ1 : Hid (z < w1.heap.size) := HR1.out.lt
      have HSM : Hid (∀ w', Below w1.heap.size w1 w' → Calls Try.prog 48 #[.slice A1 l.length c1] w' (fun e w'' => e = .returned (.agg (bvs (Sh.sum l))) ∧ Below w'.heap.size w' w'')) := fun w' hb' => rsum_any _ l w1.heap.size w' hb'.size (HO1.out.form_.below_ hb' (Nat.le_refl _)).bv_ (by have := HSN.out; omega)
      have HEQ : Hid (∀ w', (Op.equalIn 10000 23 (.agg (bvs (Sh.sum l))) (.agg (bvs r.dig))).run Try.prog w' = .ok (decide (Sh.sum l = r.dig)) w') := fun w' => equal32 (Rc.sum_len l) HDL.out (Rc.sum_lt l) HD8.out w'
      have HSB : Hid ((bvs r.dig).size = 32) := by unfold Hid; rw [bvs_size]; exact HDL.out
      obtain ⟨d, hd⟩ : ∃ d, Sh.sum l = d := ⟨_, rfl⟩
      obtain ⟨D1, hD1⟩ : ∃ D, bvs d = D := ⟨_, rfl⟩
      obtain ⟨D2, hD2⟩ : ∃ D, bvs r.dig = D := ⟨_, rfl⟩
      rw [hd] at HX HSM HEQ
      rw [hD1] at HSM HEQ
      rw [hD2] at HEQ HDG HSB
      obtain ⟨q, hqq⟩ : ∃ q, decide (d = r.dig) = q := ⟨_, rfl⟩
      rw [hqq] at HEQ
      have HC1 : Hid (∀ w', Below w1.heap.size w1 w' → w'.cell? ⟨z, 33, none⟩ = some (.int .i64 r.len)) := fun w' hb' => ((HR1.out.below hb' HZ1.out).cell 33).trans HLN.out
      have HG1 : Hid (∀ w', Below w1.heap.size w1 w' → w'.rangeAt z 0 D2.toList) := fun w' hb' => HDG.out w' z (HR1.out.below hb' HZ1.out)
      clear HM ho hb1 hd hD1 hD2 dV d34 hV hW
      go_wp2
      refine wp_region_grow 11 (by kernel_rfl) (by kernel_rfl) (fun w' => Below w1.heap.size w1 w') ((Below.refl _ _).drew) ?_
      simp only [List.take_succ_cons, List.take_zero, List.drop_succ_cons, List.drop_zero]
      iterate 7 (refine wpGrow_pure (v := ?_) rfl ?_ ?_; rotate_left; focus (intro w' hb'; have h33 := HC1.out w' hb'; go_simp; first | done | with_reducible rfl)
                 go_simp)
      refine wpGrow_call (v := .agg D1) (f := 48) (args := #[.slice A1 l.length c1]) rfl (fun w' => by go_simp) (fun w' h => (HSM.out w' h).mono ?_) ?_
      · rintro e w5 ⟨rfl, hb5⟩
        exact ⟨rfl, h.trans (hb5.mono h.size)⟩
      go_simp
      iterate 1 (refine wpGrow_pure (v := ?_) rfl ?_ ?_; rotate_left; focus (intro w' hb'; go_simp; first | done | with_reducible rfl)
                 go_simp)
      refine wpGrow_load_mid rfl _ _ rfl z 0 rfl D2 _ (fun w' h => HG1.out w' h) Try.underlying23 rfl (by rw [HSB.out]; exact digest_size) ?_
      go_simp
      have heq := HEQ.out
      iterate 1 (refine wpGrow_pure (v := ?_) rfl ?_ ?_; rotate_left; focus (intro w' hb'; go_simp; first | done | with_reducible rfl)
                 go_simp)
      refine wpGrow_nil ?_
      intro w5 hb5
      have HB5 := Lib.hid (HB1.out.trans (hb5.mono HB1.out.size))
      have HO5 := Lib.hid ((HO1.out.below_ hb5 (Nat.le_refl _)).mono_ HZ.out.2.2)
      cases q with
      | true =>
        have HE : Hid (Rc.docE P r = (l, 0)) := by unfold Hid; rw [HX.out, if_pos (of_decide_eq_true hqq)]
        clear hb5 hqq heq HEQ
        go_wp2
        go_ret2
        exact IsLE.of HE.out rfl rfl HO5.out HB5.out
      | false =>
        have HE : Hid (Rc.docE P r = ([], 6)) := by unfold Hid; rw [HX.out, if_neg (of_decide_eq_false hqq)]
        clear hb5 hqq heq HEQ
        go_wp2
        go_ret2
        exact IsLE.none_b HE.out rfl HB5.out
    · have hq : ((l.length : Int) != r.len) = true := by rw [bne_iff_ne]; exact hn
      have HE := Lib.hid (Rc.docE_len hl hn)
      clear hl hl4 hn
      go_enter Try.func22, Try.ntmps22
      go_wp2_with (fail)
      refine (HM.out).mono ?_
      rintro e w1 ⟨A1, c1, rfl, ho, hb1⟩
      have HB1 := Lib.hid (HBV.out.trans (hb1.mono HZ.out.2.2))
      have HR1 : Hid (Rw w1 z 27 C) := HR0.out.below hb1 HZ.out.2.1
      have HZ1 : Hid (z < w1.heap.size) := HR1.out.lt
      have HC1 : Hid (∀ w', Below w1.heap.size w1 w' → w'.cell? ⟨z, 33, none⟩ = some (.int .i64 r.len)) := fun w' hb' => ((HR1.out.below hb' HZ1.out).cell 33).trans HLN.out
      clear HM ho hb1 dV d34 hV hW
      go_wp2
      refine wp_region_grow 11 (by kernel_rfl) (by kernel_rfl) (fun w' => Below w1.heap.size w1 w') ((Below.refl _ _).drew) ?_
      simp only [List.take_succ_cons, List.take_zero, List.drop_succ_cons, List.drop_zero]
      iterate 6 (refine wpGrow_pure (v := ?_) rfl ?_ ?_; rotate_left; focus (intro w' hb'; have h33 := HC1.out w' hb'; go_simp; first | done | with_reducible rfl)
                 go_simp)
      iterate 5 (refine wpGrow_off rfl ?_; go_simp)
      refine wpGrow_nil ?_
      intro w5 hb5
      have HB5 := Lib.hid (HB1.out.trans (hb5.mono HB1.out.size))
      clear hb5
      go_wp2
      go_ret2
      exact IsLE.none_b HE.out rfl HB5.out
  · rw [hx] at HM
    have hq : ((e : Int) != 0) = true := by rw [bne_iff_ne]; omega
    have HE := Lib.hid (Rc.docE_err hx he)
    clear hx he
    go_enter Try.func22, Try.ntmps22
    go_wp2_with (fail)
    refine (HM.out).mono ?_
    rintro e w1 ⟨A1, c1, rfl, ho, hb1⟩
    have HB1 := Lib.hid (HBV.out.trans (hb1.mono HZ.out.2.2))
    clear HM ho hb1 dV d34 hV hW
    go_wp2
    go_ret2
    exact IsLE.none_b HE.out rfl HB1.out
end Go.Proofs.Ytkialijipcbgkaa
