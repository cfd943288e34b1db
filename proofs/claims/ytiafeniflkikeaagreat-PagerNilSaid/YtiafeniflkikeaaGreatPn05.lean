/- Parts of the proof. -/
import Derived.Test.YtiafeniflkikeaaGreatPn01
import Derived.Deep.MidRow
import Derived.Stop.BytesEq
namespace Go.Proofs.YtiafeniflkikeaaGreat
open Go.RowKit
set_option linter.unusedVariables false
structure Turned (F : Nat → Prop) (w w' : World) : Prop where
 os : w'.os = w.os
 tape : w'.tape = w.tape
 output : w'.output = w.output
 size : w.heap.size ≤ w'.heap.size
 block : ∀ k, k < w.heap.size → ¬ F k → w'.heap[k]? = w.heap[k]?
section
variable {P : Program} {α : Type} {K : El P α} {w w1 w' : World} {F G : Nat → Prop}
theorem Turned.refl (F : Nat → Prop) (w : World) : Turned F w w := ⟨rfl, rfl, rfl, Nat.le_refl _, fun _ _ _ => rfl⟩
theorem Turned.trans (h : Turned F w w1) (h2 : Turned G w1 w') (hFG : ∀ k, k < w.heap.size → G k → F k) : Turned F w w' :=
 ⟨h2.os.trans h.os, h2.tape.trans h.tape, h2.output.trans h.output, Nat.le_trans h.size h2.size, fun k hk hn => (h2.block k (Nat.lt_of_lt_of_le hk h.size) (fun hg => hn (hFG k hk hg))).trans (h.block k hk hn)⟩
theorem Turned.mono (h : Turned F w w') (hFG : ∀ k, k < w.heap.size → F k → G k) : Turned G w w' := ⟨h.os, h.tape, h.output, h.size, fun k hk hn => h.block k hk (fun hf => hn (hFG k hk hf))⟩
theorem Turned.of_below {B : Nat} (h : Below B w w') : Turned (fun k => B ≤ k) w w' := ⟨h.os, h.tape, h.output, h.size, fun k _ hn => h.block k (by omega)⟩
theorem Turned.of_grown {row : Option Nat} (h : w.grownBy w' row) : Turned (fun k => row = some k) w w' := ⟨h.os, h.tape, h.output, h.size, fun k hk hn => h.block k hk (fun e => hn e.symm)⟩
theorem Turned.below (h : Turned F w w') {B : Nat} (hB : B ≤ w.heap.size) (hF : ∀ k, F k → B ≤ k) : Below B w w' := ⟨h.os, h.tape, h.output, h.size, fun k hk => h.block k (by omega) (fun hf => by have := hF k hf; omega)⟩
theorem Turned.cell (h : Turned F w w') {p : Addr} {v : Value} (hc : w.cell? p = some v) (hn : ¬ F p.block) : w'.cell? p = some v :=
 (World.cell?_of_block (h.block p.block (World.block_lt_of_cell? w p hc) hn)).trans hc
theorem Turned.alloc (h : Turned F w w') (o : Obj) : Turned F w (w'.alloc o) := h.trans (G := fun _ => False) (Turned.mono (Turned.of_grown (World.grownBy_alloc w' o none)) (fun k _ h => by cases h)) (fun _ _ h => h.elim)
theorem Turned.setCell (h : Turned F w w') {p : Addr} (hp : p.block < w.heap.size → F p.block) (u : Value) : Turned F w (w'.setCell p u) :=
 ⟨h.os, h.tape, h.output, by simpa using h.size, fun k hk hn => (heap_setCell_other w' p k u (fun e => hn (by subst e; exact hp hk))).trans (h.block k hk hn)⟩
theorem Turned.setRow (h : Turned F w w') {g : Nat} (hg : g < w.heap.size → F g) (cs : Array Value) : Turned F w (w'.setRow g cs) :=
 ⟨h.os, h.tape, h.output, by simpa using h.size, fun k hk hn => (setRow_other w' g k cs (fun e => hn (by subst e; exact hg hk))).trans (h.block k hk hn)⟩
theorem Turned.drew (h : Turned F w w') : Turned F w w'.drew := ⟨h.os, h.tape, h.output, h.size, h.block⟩
theorem OwnL.turned_ {base : Nat} {v : Value} {l : List α} (h : OwnL K w base v l) (ht : Turned F w w') (hn : ∀ k, v.ownBlock = some k → ¬ F k) : OwnL K w' base v l :=
 h.of_block fun k hk => ht.block k (h.lt_ k hk).2 (hn k hk)
theorem Lv.turned_ {B : Nat} {v : Value} {l : List α} (h : Lv K w B v l) (ht : Turned F w w') (hn : ∀ k, k < B → ¬ F k) : Lv K w' B v l := by
 obtain ⟨A, c, e, h1, h2, h3, h4, h5⟩ := h
 refine ⟨A, c, e, h1, h2, h3, h4, fun hp => ?_⟩
 obtain ⟨b, off, e, hl, hc⟩ := h5 hp
 exact ⟨b, off, e, hl, fun j u hj => ht.cell (hc j u hj) (hn b hl)⟩
theorem Lv.turnedB_ {B : Nat} {v : Value} {l : List α} (h : Lv K w B v l) (ht : Turned F w w') (hn : 0 < l.length → ∀ k, v.ownBlock = some k → ¬ F k) : Lv K w' B v l := by
 obtain ⟨A, c, e, h1, h2, h3, h4, h5⟩ := h
 refine ⟨A, c, e, h1, h2, h3, h4, fun hp => ?_⟩
 obtain ⟨b, off, eA, hl, hc⟩ := h5 hp
 refine ⟨b, off, eA, hl, fun j u hj => ht.cell (hc j u hj) (hn hp b ?_)⟩
 subst e eA
 rfl
theorem Lv.blk_ {B : Nat} {v : Value} {l : List α} (h : Lv K w B v l) (hp : 0 < l.length) {k : Nat} (hk : v.ownBlock = some k) : k < B := by
 obtain ⟨A, c, e, h1, h2, h3, h4, h5⟩ := h
 obtain ⟨b, off, eA, hl, hc⟩ := h5 hp
 subst e eA
 have e : b = k := Option.some.inj hk
 omega
theorem Lv.drop_ {A : Option Addr} {n c B : Nat} {l : List α} (h : Lv K w B (.slice A n c) l) {k : Nat} (hk : k ≤ l.length) : Lv K w B (.slice (A.map (·.add (k * K.size))) (n - k) (c - k)) (l.drop k) := by
 obtain ⟨A', c', e, h1, h2, h3, h4, h5⟩ := h
 injection e with e1 e2 e3
 subst e1 e2 e3
 refine ⟨_, _, by rw [List.length_drop], by rw [List.length_drop]; omega, by omega, fun hA => ?_, fun x hx => h4 x (List.mem_of_mem_drop hx), fun hp => ?_⟩
 ·cases A with
  | none => have := h3 rfl; omega
  | some a => simp at hA
 ·rw [List.length_drop] at hp
  obtain ⟨b, off, rfl, hb, hc⟩ := h5 (by omega)
  refine ⟨b, off + k * K.size, by simp [add_addr], hb, fun j u hj => ?_⟩
  have e : K.flat l = K.flat (l.take k) ++ K.flat (l.drop k) := by rw [← flat_app, List.take_append_drop]
  have e2 : (K.flat (l.take k)).length = k * K.size := by rw [flat_len, List.length_take, Nat.min_eq_left hk]
  have := hc (k * K.size + j) u (by rw [e, List.getElem?_append_right (by omega), e2, Nat.add_sub_cancel_left]; exact hj)
  rw [← Nat.add_assoc] at this
  exact this
end
end Go.Proofs.YtiafeniflkikeaaGreat
namespace Go.Proofs.YtiafeniflkikeaaGreat
open Go.RowKit
set_option linter.unusedVariables false
section
variable {P : Program} {α : Type}
theorem addr_none (a : Addr) : a.add 0 = a := by unfold Addr.add; split <;> simp_all
theorem elem_size (K : El P α) (he : P.elem K.s = K.e) (w : World) : (sizeOf (P.elem K.s)).run P w = .ok K.size w := by
 obtain ⟨i, hi, _, hs, _⟩ := info_parts K.info
 rw [he]
 simp [sizeOf, typeInfo, hi, hs]
theorem cut_to (K : El P α) (he : P.elem K.s = K.e) (A : Option Addr) (n c m : Nat) (h : m ≤ c) (w : World) :
  (Instr.slice K.s (.slice A n c) none (some (.int .i64 (m : Nat))) none).run P w = .ok (.slice A m c) w := by
 have hu : P.underlying K.s = some (.slice (P.elem K.s)) := by rw [he]; exact K.under
 rw [run_slice_h (P := P) w K.s A n c hu .i64 (m : Nat) (by omega) (by omega), elem_size K he]
 simp only [Result.andThen, sliced, Int.toNat_natCast, Nat.zero_mul, Nat.sub_zero]
 have e : A.map (·.add 0) = A := by cases A <;> simp [addr_none]
 simp [addr_none]
theorem cutAt_to (K : El P α) (he : P.elem K.s = K.e) (A : Option Addr) (n c m : Nat) (h : m ≤ c) (w : World) :
  (Instr.sliceAt K.s (.slice A n c) none (some (.int .i64 (m : Nat))) none).run P w = .ok (.slice A m c) w := by
 have hu : P.underlying K.s = some (.slice (P.elem K.s)) := by rw [he]; exact K.under
 rw [run_sliceAt_slice (P := P) w _ _ _ _ _ hu]
 exact cut_to K he A n c m h w
theorem cut_from (K : El P α) (he : P.elem K.s = K.e) (A : Option Addr) (n c m : Nat) (h : m ≤ n) (hn : n ≤ c) :
  ∃ A', (∀ w, (Instr.slice K.s (.slice A n c) (some (.int .i64 (m : Nat))) none none).run P w = .ok (.slice A' (n - m) (c - m)) w) ∧
   (∀ w, (Instr.sliceAt K.s (.slice A n c) (some (.int .i64 (m : Nat))) none none).run P w = .ok (.slice A' (n - m) (c - m)) w) ∧
   (∀ w B (l : List α), Lv K w B (.slice A n c) l → Lv K w B (.slice A' (n - m) (c - m)) (l.drop m)) ∧
   (Value.slice A' (n - m) (c - m)).ownBlock = (Value.slice A n c).ownBlock := by
 have hu : P.underlying K.s = some (.slice (P.elem K.s)) := by rw [he]; exact K.under
 have h1 : ∀ w, (Instr.slice K.s (.slice A n c) (some (.int .i64 (m : Nat))) none none).run P w = .ok (.slice (if c = m then A else A.map (·.add (m * K.size))) (n - m) (c - m)) w := by
  intro w
  rw [run_slice_l (P := P) w K.s A n c hu .i64 (m : Nat) (by omega) (by omega), elem_size K he]
  simp only [Result.andThen, sliced, Int.toNat_natCast]
 refine ⟨_, h1, fun w => ?_, fun w B l hl => ?_, ?_⟩
 ·rw [run_sliceAt_slice (P := P) w _ _ _ _ _ hu]
  exact h1 w
 ·obtain ⟨e1, e2, e3⟩ := hl.len_
  by_cases hc : c = m
  ·rw [if_pos hc]
   have e : l.drop m = [] := List.drop_of_length_le (by omega)
   rw [e, show n - m = 0 by omega, show c - m = 0 by omega]
   obtain ⟨A0, c0, ee, _, _, hnil, _⟩ := hl
   injection ee with ee1 _ ee3
   subst ee1 ee3
   exact ⟨A, 0, rfl, by simp, by simp [maxLen], by simp, by simp, by simp⟩
  ·rw [if_neg hc]
   exact hl.drop_ (by omega)
 ·by_cases hc : c = m
  ·rw [if_pos hc]; cases A <;> rfl
  ·rw [if_neg hc]
   cases A with
   | none => rfl
   | some a => simp [Value.ownBlock, Addr.add]; split <;> rfl
end
end Go.Proofs.YtiafeniflkikeaaGreat
namespace Go.Proofs.YtiafeniflkikeaaGreat
open Go.RowKit
set_option linter.unusedVariables false
theorem cells_u8 {l : List Nat} (h : ∀ x ∈ l, x < 256) : (l.map UInt8.ofNat).map Extern.Stop.cell = l.map u8 := by
 rw [List.map_map]
 refine List.map_congr_left fun x hx => ?_
 have := h x hx
 simp [Extern.Stop.cell, u8]
 omega
theorem u8_inj {l : List Nat} : ∀ {m : List Nat}, (∀ x ∈ l, x < 256) → (∀ x ∈ m, x < 256) → ((l.map UInt8.ofNat == m.map UInt8.ofNat) = decide (l = m)) := by
 induction l with
 | nil => intro m _ _; cases m <;> simp
 | cons x l ih =>
  intro m hl hm
  cases m with
  | nil => simp
  | cons y m =>
   have hx := hl x (by simp)
   have hy := hm y (by simp)
   have e : (UInt8.ofNat x == UInt8.ofNat y) = decide (x = y) := by
    rw [Bool.eq_iff_iff]
    simp [← UInt8.toNat_inj]
    omega
   rw [List.map_cons, List.map_cons, List.cons_beq_cons, ih (fun z hz => hl z (by simp [hz])) (fun z hz => hm z (by simp [hz])), e]
   rw [Bool.eq_iff_iff]
   simp
theorem size_of5 (w : World) : (sizeOf 5).run Tryz.prog w = .ok 1 w := by
 obtain ⟨i, hi, _, hs, _⟩ := info_parts info5
 simp [sizeOf, typeInfo, hi, hs]
end Go.Proofs.YtiafeniflkikeaaGreat
namespace Go.Proofs.YtiafeniflkikeaaGreat
open Go.RowKit
set_option linter.unusedVariables false
theorem equal4 {s t : List Nat} (hs : s.length = 4) (ht : t.length = 4) (hs8 : ∀ x ∈ s, x < 256) (ht8 : ∀ x ∈ t, x < 256) (w : World) :
  (Op.equalIn 10000 167 (.agg (s.map u8).toArray) (.agg (t.map u8).toArray)).run Tryz.prog w = .ok (decide (s = t)) w := by
 have h := run_equalIn_bytes (P := Tryz.prog) w 9998 167 5 4 Tryz.underlying167 Tryz.underlying5 size_of5 (s.map UInt8.ofNat) (t.map UInt8.ofNat) (by simpa using hs) (by simpa using ht)
 rw [cells_u8 hs8, cells_u8 ht8, u8_inj hs8 ht8] at h
 exact h
end Go.Proofs.YtiafeniflkikeaaGreat
