/-
  BqTok: bpe.byteTokens.
  Turn: What a call turns: a set of blocks; what lies elsewhere stays.
  CutL: Cuts of a slice that may be nil: what they answer, in one word, in whatever world.
  RBpB: stookref10.Begin, joined.
-/
import Derived.Test.YtkialijipcbgkaaPk07
import Derived.Test.YtkialijipcbgkaaPk02
import Derived.Deep.MidRow
namespace Go.Proofs.Ytkialijipcbgkaa
open Go.RowKit
set_option linter.unusedVariables false

/-- The cells of an array of numbers. -/
def intsC (l : List Int) : Array Value := (l.map (Value.int .i64)).toArray
theorem intsC_at {l : List Int} {k : Nat} {x : Int} (h : l[k]? = some x) : (intsC l)[k]? = some (.int .i64 x) := by
  unfold intsC
  rw [List.getElem?_toArray, List.getElem?_map, h]; rfl
theorem intsC_set (l : List Int) (k : Nat) (x : Int) : (intsC l).setIfInBounds k (.int .i64 x) = intsC (l.set k x) := by
  unfold intsC
  rw [List.setIfInBounds_toArray, List.map_set]
theorem intsC_size (l : List Int) : (intsC l).size = l.length := by simp [intsC]
theorem intsC_one (l : List Int) : (intsC l).all (·.oneCell') = true := by
  unfold intsC
  simp [Value.oneCell']

theorem zero_ints : Try.zeroCells107 = intsC (List.replicate 256 0) := by kernel_rfl

set_option maxRecDepth 100000 in
set_option maxHeartbeats 2000000 in
theorem pbyte_tokens (P : List Vo.Pc) (v : Value) (B : Nat) (w : World) (hv : Lv pK w B v P) (hB : B ≤ w.heap.size) (hP : P.length ≤ 4096) :
    Calls Try.prog 81 #[.agg #[v]] w (fun e w' => e = .returned (.agg (intsC (Bp.toks P))) ∧ Below w.heap.size w w') := by
  obtain ⟨W, hW⟩ : ∃ W, w.alloc (.cells #[v] 41) = W := ⟨_, rfl⟩
  obtain ⟨d0, hsz, hb⟩ := boxed hW
  have HV := Lib.hid (hv.below_ hb hB)
  have HB0 := Lib.hid hb
  have HBB := Lib.hid hB
  have HSZ := Lib.hid hsz
  obtain ⟨A, c, rfl, -, -, -, -, -⟩ := hv
  clear hb hsz hB
  obtain ⟨g, hg⟩ : ∃ g, W.heap.size = g := ⟨_, rfl⟩
  obtain ⟨W1, hW1⟩ : ∃ W1, ((W.alloc (.cells Try.zeroCells107 107)).alloc (.cells Try.zeroCells107 107)) = W1 := ⟨_, rfl⟩
  have hr : Rw W1 g 107 (intsC (List.replicate 256 0)) := by rw [← hW1, ← hg, zero_ints]; exact (Rw.new _ _ _).old _
  have ht : Rw W1 (g + 1) 107 (intsC (Bp.toksTo P 0)) := by
    rw [← hW1, ← hg, zero_ints]
    exact Rw.at_ (by simp) _ _
  have hb1 : Below g W W1 := by rw [← hW1, ← hg]; exact ((Below.refl _ _).alloc (Nat.le_refl _) _).alloc (by simp) _
  have d1 : W1.cell? ⟨w.heap.size, 0, none⟩ = some (.slice A P.length c) := (hb1.cell (p := ⟨w.heap.size, 0, none⟩) (by show w.heap.size < g; have := HSZ.out; omega)).trans d0
  have HR := Lib.hid hr
  have HT := Lib.hid ht
  have HB1 := Lib.hid hb1
  have HG := Lib.hid hg
  clear hr ht hb1 d0
  go_enter Try.func81, Try.ntmps81
  go_wp2
  clear hW1 hg
  go_loopw [9] (fun i wr => ∃ k : Nat, k ≤ P.length ∧ i = .int .i64 k ∧ Hid (Rw wr g 107 (intsC (List.replicate 256 0))) ∧ Hid (Rw wr (g + 1) 107 (intsC (Bp.toksTo P k))) ∧ Hid (Below g W wr)) (fun i _ => P.length - (intOf i).toNat)
  case atStart => exact ⟨0, Nat.zero_le _, rfl, HR.out, HT.out, HB1.out⟩
  case round =>
    obtain ⟨k, hk, rfl, HRr, HTr, HBr⟩ := hrel
    have HBw : Hid (Below w.heap.size w wr) := HB0.out.trans (HBr.out.mono (by have := HSZ.out; have := HG.out; omega))
    have hgr := HTr.out.lt
    by_cases hlt : k < P.length
    · obtain ⟨b, off, p, rfl, hbB, hpok, hq, q0, q1, q2, q3, q4⟩ := (HV.out.below_ HBr.out (by have := HSZ.out; have := HBB.out; have := HG.out; omega)).piece_ hlt
      have hki : (k : Int) < (P.length : Int) := by omega
      have wk : IntKind.i64.wrap ((k : Int) + 1) = (k : Int) + 1 := by rw [IntKind.wrap_i64]; omega
      obtain ⟨wp, hwp⟩ : ∃ wp, wr.alloc (.cells #[.bool p.join, .int .u8 (p.byte : Nat), .int .i64 p.left, .int .i64 p.right, .int .u32 (p.rank : Nat)] 85) = wp := ⟨_, rfl⟩
      obtain ⟨⟨_, hx⟩, hbx⟩ := pboxed hwp
      have x0 := hx 0 _ rfl
      have x1 := hx 1 _ rfl
      have HBp : Hid (Below g W wp) := HBr.out.trans (hbx.mono (by have := hgr; omega))
      have HRp : Hid (Rw wp g 107 (intsC (List.replicate 256 0))) := HRr.out.below hbx (by omega)
      have HTp : Hid (Rw wp (g + 1) 107 (intsC (Bp.toksTo P k))) := HTr.out.below hbx hgr
      cases hj : p.join with
      | true =>
        have HX : Hid (Bp.toksTo P (k + 1) = Bp.toksTo P k) := by unfold Hid; rw [Bp.toksTo, hq]; simp [hj]
        rw [hj] at q0 x0 hwp
        clear hx hbx hq hpok hj
        go_wp2
        go_roundw
        case rel => exact ⟨k + 1, hlt, by go_num, HRp.out, by unfold Hid; rw [HX.out]; exact HTp.out, HBp.out⟩
        case measure => simp [intOf]; omega
      | false =>
        have HX : Hid (Bp.toksTo P (k + 1) = (Bp.toksTo P k).set p.byte (k : Int)) := by unfold Hid; rw [Bp.toksTo, hq]; simp [hj]
        rw [hj] at q0 x0 hwp
        have hp8 : p.byte < 256 := hpok.1
        have hpi : (p.byte : Int) < 256 := by omega
        obtain ⟨y, hy⟩ : ∃ y, (Bp.toksTo P k)[p.byte]? = some y := ⟨_, List.getElem?_eq_getElem (by rw [Bp.toksTo_len]; exact hp8)⟩
        have c1 : wp.cell? ⟨g + 1, p.byte, none⟩ = some (.int .i64 y) := by rw [HTp.out.cell]; exact intsC_at hy
        have f1 := HTp.out.frozen p.byte
        have HR2 : Hid (Rw (wp.setCell ⟨g + 1, p.byte, none⟩ (.int .i64 (k : Int))) g 107 (intsC (List.replicate 256 0))) := HRp.out.setOther (by omega) _ _
        have HT2 : Hid (Rw (wp.setCell ⟨g + 1, p.byte, none⟩ (.int .i64 (k : Int))) (g + 1) 107 (intsC (Bp.toksTo P (k + 1)))) := by
          unfold Hid
          rw [HX.out, ← intsC_set]
          exact HTp.out.set _ _
        have HB2 : Hid (Below g W (wp.setCell ⟨g + 1, p.byte, none⟩ (.int .i64 (k : Int)))) := HBp.out.setCell (p := ⟨g + 1, p.byte, none⟩) (by show g ≤ g + 1; omega) _
        clear hx hbx hq hpok hj hy
        go_wp2
        go_roundw
        case rel => exact ⟨k + 1, hlt, by go_num, HR2.out, HT2.out, HB2.out⟩
        case measure => simp [intOf]; omega
    · obtain rfl : k = P.length := by omega
      have hki : ¬ ((P.length : Int) < (P.length : Int)) := by omega
      have HL := Lib.hid (Bp.toks_len P)
      have HT3 : Hid (Rw wr (g + 1) 107 (intsC (Bp.toks P))) := HTr.out
      go_wp2_with (first
        | (refine wpList_load_row rfl _ _ rfl (g + 1) rfl 107 (intsC (Bp.toks P)) (0, 0) _ HT3.out Try.underlying107 rfl (by rw [intsC_size, HL.out]; kernel_rfl) ?_)
        | (refine wpList_store_row rfl _ _ _ rfl g (intsC (Bp.toks P)) rfl rfl 107 _ HRr.out (by rw [intsC_size, HL.out]; kernel_rfl) (by rw [intsC_size, intsC_size, HL.out]; rfl) (intsC_one _) ?_))
      exact bodyPost_ret (v := .agg (intsC (Bp.toks P))) (results_cell_row rfl _ _ g 107 (intsC (Bp.toks P)) (0, 0) _ rfl (Rw.row HRr.out _) Try.underlying107 rfl (by rw [intsC_size, HL.out]; kernel_rfl)) rfl ⟨rfl, HBw.out.trans (below_setRow (Below.refl _ _) (by have := HSZ.out; have := HG.out; omega) _)⟩
end Go.Proofs.Ytkialijipcbgkaa
namespace Go.Proofs.Ytkialijipcbgkaa
open Go.RowKit
set_option linter.unusedVariables false

/-- Only blocks of F, and new ones, have been turned. -/
structure Turned (F : Nat → Prop) (w w' : World) : Prop where
  os : w'.os = w.os
  tape : w'.tape = w.tape
  output : w'.output = w.output
  size : w.heap.size ≤ w'.heap.size
  block : ∀ k, k < w.heap.size → ¬ F k → w'.heap[k]? = w.heap[k]?

section
variable {P : Program} {α : Type} {K : El P α} {w w1 w' : World} {F G : Nat → Prop}
theorem Turned.refl (F : Nat → Prop) (w : World) : Turned F w w := ⟨rfl, rfl, rfl, Nat.le_refl _, fun _ _ _ => rfl⟩
theorem Turned.trans (h : Turned F w w1) (h2 : Turned G w1 w') (hFG : ∀ k, k < w.heap.size → G k → F k) : Turned F w w' :=
  ⟨h2.os.trans h.os, h2.tape.trans h.tape, h2.output.trans h.output, Nat.le_trans h.size h2.size, fun k hk hn => (h2.block k (Nat.lt_of_lt_of_le hk h.size) (fun hg => hn (hFG k hk hg))).trans (h.block k hk hn)⟩
theorem Turned.mono (h : Turned F w w') (hFG : ∀ k, k < w.heap.size → F k → G k) : Turned G w w' := ⟨h.os, h.tape, h.output, h.size, fun k hk hn => h.block k hk (fun hf => hn (hFG k hk hf))⟩
theorem Turned.of_below {B : Nat} (h : Below B w w') : Turned (fun k => B ≤ k) w w' := ⟨h.os, h.tape, h.output, h.size, fun k _ hn => h.block k (by omega)⟩
theorem Turned.of_grown {row : Option Nat} (h : w.grownBy w' row) : Turned (fun k => row = some k) w w' := ⟨h.os, h.tape, h.output, h.size, fun k hk hn => h.block k hk (fun e => hn e.symm)⟩
theorem Turned.below (h : Turned F w w') {B : Nat} (hB : B ≤ w.heap.size) (hF : ∀ k, F k → B ≤ k) : Below B w w' := ⟨h.os, h.tape, h.output, h.size, fun k hk => h.block k (by omega) (fun hf => by have := hF k hf; omega)⟩
theorem Turned.cell (h : Turned F w w') {p : Addr} {v : Value} (hc : w.cell? p = some v) (hn : ¬ F p.block) : w'.cell? p = some v :=
  (World.cell?_of_block (h.block p.block (World.block_lt_of_cell? w p hc) hn)).trans hc
theorem Turned.alloc (h : Turned F w w') (o : Obj) : Turned F w (w'.alloc o) := h.trans (G := fun _ => False) (Turned.mono (Turned.of_grown (World.grownBy_alloc w' o none)) (fun k _ h => by cases h)) (fun _ _ h => h.elim)
theorem Turned.setCell (h : Turned F w w') {p : Addr} (hp : p.block < w.heap.size → F p.block) (u : Value) : Turned F w (w'.setCell p u) :=
  ⟨h.os, h.tape, h.output, by simpa using h.size, fun k hk hn => (heap_setCell_other w' p k u (fun e => hn (by subst e; exact hp hk))).trans (h.block k hk hn)⟩
theorem Turned.setRow (h : Turned F w w') {g : Nat} (hg : g < w.heap.size → F g) (cs : Array Value) : Turned F w (w'.setRow g cs) :=
  ⟨h.os, h.tape, h.output, by simpa using h.size, fun k hk hn => (setRow_other w' g k cs (fun e => hn (by subst e; exact hg hk))).trans (h.block k hk hn)⟩
theorem Turned.drew (h : Turned F w w') : Turned F w w'.drew := ⟨h.os, h.tape, h.output, h.size, h.block⟩
theorem Turned.drewN (h : Turned F w w') (n : Nat) : Turned F w (w'.drewN n) := ⟨h.os, h.tape, h.output, h.size, h.block⟩

theorem OwnL.turned_ {base : Nat} {v : Value} {l : List α} (h : OwnL K w base v l) (ht : Turned F w w') (hn : ∀ k, v.ownBlock = some k → ¬ F k) : OwnL K w' base v l :=
  h.of_block fun k hk => ht.block k (h.lt_ k hk).2 (hn k hk)
theorem Lv.turned_ {B : Nat} {v : Value} {l : List α} (h : Lv K w B v l) (ht : Turned F w w') (hn : ∀ k, k < B → ¬ F k) : Lv K w' B v l := by
  obtain ⟨A, c, e, h1, h2, h3, h4, h5⟩ := h
  refine ⟨A, c, e, h1, h2, h3, h4, fun hp => ?_⟩
  obtain ⟨b, off, e, hl, hc⟩ := h5 hp
  exact ⟨b, off, e, hl, fun j u hj => ht.cell (hc j u hj) (hn b hl)⟩
theorem Lv.turnedB_ {B : Nat} {v : Value} {l : List α} (h : Lv K w B v l) (ht : Turned F w w') (hn : 0 < l.length → ∀ k, v.ownBlock = some k → ¬ F k) : Lv K w' B v l := by
  obtain ⟨A, c, e, h1, h2, h3, h4, h5⟩ := h
  refine ⟨A, c, e, h1, h2, h3, h4, fun hp => ?_⟩
  obtain ⟨b, off, eA, hl, hc⟩ := h5 hp
  refine ⟨b, off, eA, hl, fun j u hj => ht.cell (hc j u hj) (hn hp b ?_)⟩
  subst e eA
  rfl
theorem Lv.blk_ {B : Nat} {v : Value} {l : List α} (h : Lv K w B v l) (hp : 0 < l.length) {k : Nat} (hk : v.ownBlock = some k) : k < B := by
  obtain ⟨A, c, e, h1, h2, h3, h4, h5⟩ := h
  obtain ⟨b, off, eA, hl, hc⟩ := h5 hp
  subst e eA
  have e : b = k := Option.some.inj hk
  omega
/-- An element's cells, side by side. -/
theorem Lv.mid_ {A : Option Addr} {n c B : Nat} {l : List α} (h : Lv K w B (.slice A n c) l) {k : Nat} (hk : k < l.length) :
    ∃ b off x, A = some ⟨b, off, none⟩ ∧ b < B ∧ K.ok x ∧ l[k]? = some x ∧ w.rangeAt b (off + k * K.size) (K.enc x) := by
  obtain ⟨b, off, x, h1, h2, h3, h4, h5⟩ := h.at_ hk
  exact ⟨b, off, x, h1, h2, h3, h4, fun j u hj => by rw [Nat.add_assoc]; exact h5 j u hj⟩
/-- A slice's end. -/
theorem Lv.drop_ {A : Option Addr} {n c B : Nat} {l : List α} (h : Lv K w B (.slice A n c) l) {k : Nat} (hk : k ≤ l.length) : Lv K w B (.slice (A.map (·.add (k * K.size))) (n - k) (c - k)) (l.drop k) := by
  obtain ⟨A', c', e, h1, h2, h3, h4, h5⟩ := h
  injection e with e1 e2 e3
  subst e1 e2 e3
  refine ⟨_, _, by rw [List.length_drop], by rw [List.length_drop]; omega, by omega, fun hA => ?_, fun x hx => h4 x (List.mem_of_mem_drop hx), fun hp => ?_⟩
  · cases A with
    | none => have := h3 rfl; omega
    | some a => simp at hA
  · rw [List.length_drop] at hp
    obtain ⟨b, off, rfl, hb, hc⟩ := h5 (by omega)
    refine ⟨b, off + k * K.size, by simp [add_addr], hb, fun j u hj => ?_⟩
    have e : K.flat l = K.flat (l.take k) ++ K.flat (l.drop k) := by rw [← flat_app, List.take_append_drop]
    have e2 : (K.flat (l.take k)).length = k * K.size := by rw [flat_len, List.length_take, Nat.min_eq_left hk]
    have := hc (k * K.size + j) u (by rw [e, List.getElem?_append_right (by omega), e2, Nat.add_sub_cancel_left]; exact hj)
    rw [← Nat.add_assoc] at this
    exact this
end
end Go.Proofs.Ytkialijipcbgkaa
namespace Go.Proofs.Ytkialijipcbgkaa
open Go.RowKit
set_option linter.unusedVariables false

section
variable {P : Program} {α : Type}
theorem addr_none (a : Addr) : a.add 0 = a := by unfold Addr.add; split <;> simp_all
theorem elem_size (K : El P α) (he : P.elem K.s = K.e) (w : World) : (sizeOf (P.elem K.s)).run P w = .ok K.size w := by
  obtain ⟨i, hi, _, hs, _⟩ := info_parts K.info
  rw [he]
  simp [sizeOf, typeInfo, hi, hs]
theorem cut_to (K : El P α) (he : P.elem K.s = K.e) (A : Option Addr) (n c m : Nat) (h : m ≤ c) (w : World) :
    (Instr.slice K.s (.slice A n c) none (some (.int .i64 (m : Nat))) none).run P w = .ok (.slice A m c) w := by
  have hu : P.underlying K.s = some (.slice (P.elem K.s)) := by rw [he]; exact K.under
  rw [run_slice_h (P := P) w K.s A n c hu .i64 (m : Nat) (by omega) (by omega), elem_size K he]
  simp only [Result.andThen, sliced, Int.toNat_natCast, Nat.zero_mul, Nat.sub_zero]
  have e : A.map (·.add 0) = A := by cases A <;> simp [addr_none]
  simp [addr_none]
theorem cutAt_to (K : El P α) (he : P.elem K.s = K.e) (A : Option Addr) (n c m : Nat) (h : m ≤ c) (w : World) :
    (Instr.sliceAt K.s (.slice A n c) none (some (.int .i64 (m : Nat))) none).run P w = .ok (.slice A m c) w := by
  have hu : P.underlying K.s = some (.slice (P.elem K.s)) := by rw [he]; exact K.under
  rw [run_sliceAt_slice (P := P) w _ _ _ _ _ hu]
  exact cut_to K he A n c m h w
theorem cut_from (K : El P α) (he : P.elem K.s = K.e) (A : Option Addr) (n c m : Nat) (h : m ≤ n) (hn : n ≤ c) :
    ∃ A', (∀ w, (Instr.slice K.s (.slice A n c) (some (.int .i64 (m : Nat))) none none).run P w = .ok (.slice A' (n - m) (c - m)) w) ∧
      (∀ w, (Instr.sliceAt K.s (.slice A n c) (some (.int .i64 (m : Nat))) none none).run P w = .ok (.slice A' (n - m) (c - m)) w) ∧
      (∀ w B (l : List α), Lv K w B (.slice A n c) l → Lv K w B (.slice A' (n - m) (c - m)) (l.drop m)) ∧
      (Value.slice A' (n - m) (c - m)).ownBlock = (Value.slice A n c).ownBlock := by
  have hu : P.underlying K.s = some (.slice (P.elem K.s)) := by rw [he]; exact K.under
  have h1 : ∀ w, (Instr.slice K.s (.slice A n c) (some (.int .i64 (m : Nat))) none none).run P w = .ok (.slice (if c = m then A else A.map (·.add (m * K.size))) (n - m) (c - m)) w := by
    intro w
    rw [run_slice_l (P := P) w K.s A n c hu .i64 (m : Nat) (by omega) (by omega), elem_size K he]
    simp only [Result.andThen, sliced, Int.toNat_natCast]
  refine ⟨_, h1, fun w => ?_, fun w B l hl => ?_, ?_⟩
  · rw [run_sliceAt_slice (P := P) w _ _ _ _ _ hu]
    exact h1 w
  · obtain ⟨e1, e2, e3⟩ := hl.len_
    by_cases hc : c = m
    · rw [if_pos hc]
      have e : l.drop m = [] := List.drop_of_length_le (by omega)
      rw [e, show n - m = 0 by omega, show c - m = 0 by omega]
      obtain ⟨A0, c0, ee, _, _, hnil, _⟩ := hl
      injection ee with ee1 _ ee3
      subst ee1 ee3
      exact ⟨A, 0, rfl, by simp, by simp [maxLen], by simp, by simp, by simp⟩
    · rw [if_neg hc]
      exact hl.drop_ (by omega)
  · by_cases hc : c = m
    · rw [if_pos hc]; cases A <;> rfl
    · rw [if_neg hc]
      cases A with
      | none => rfl
      | some a => simp [Value.ownBlock, Addr.add]; split <;> rfl
end
end Go.Proofs.Ytkialijipcbgkaa
namespace Go.Proofs.Ytkialijipcbgkaa
open Go.RowKit
set_option linter.unusedVariables false

set_option maxHeartbeats 2000000 in
theorem rbegin_any (P : List Vo.Pc) (v : Value) (l : List Nat) (u : Value) (B : Nat) (w : World) (hv : Lv pK w B v P) (hu : Lv yK w B u l) (hB : B ≤ w.heap.size) :
    Calls Try.prog 68 #[.agg #[v], u] w (IsLE iK (Bp.beginE P l) w) := by
  obtain ⟨W, hW⟩ : ∃ W, w.alloc (.cells #[v] 41) = W := ⟨_, rfl⟩
  obtain ⟨d0, hsz, hb⟩ := boxed hW
  have hbs := hb.size
  have HM := Lib.hid (rmay_voc P v B W (hv.below_ hb hB) (Nat.le_trans hB hb.size))
  have HV := Lib.hid hv
  have HU := Lib.hid hu
  have HB0 := Lib.hid hb
  have HBB := Lib.hid hB
  have HSZ := Lib.hid hsz
  obtain ⟨A, c, rfl, -, -, -, -, -⟩ := hv
  obtain ⟨A2, c2, rfl, k1, k2, -, -, -⟩ := hu
  have hll : l.length ≤ 9223372036854775807 := by simp only [maxLen] at k2; omega
  clear hb hsz hB k1 k2
  by_cases hm : Vo.May P
  · rw [decide_eq_true hm] at HM
    by_cases hbig : 4096 < l.length
    · have HX : Hid (Bp.beginE P l = ([], 3)) := by unfold Hid Bp.beginE; rw [if_pos hm, if_pos hbig]
      have hbi : (4096 : Int) < (l.length : Int) := by omega
      clear hm hbig
      go_enter Try.func68, Try.ntmps68
      go_wp2_with (fail)
      refine (HM.out).mono ?_
      rintro e w1 ⟨rfl, hb1⟩
      have HB1 := Lib.hid (HB0.out.trans (hb1.mono HB0.out.size))
      clear hb1 HM
      go_wp2
      go_ret2
      exact IsLE.none_b HX.out rfl HB1.out
    · have HX : Hid (Bp.beginE P l = (Bp.beginL P l, 0)) := by unfold Hid Bp.beginE; rw [if_pos hm, if_neg hbig]
      have hbi : ¬ (4096 : Int) < (l.length : Int) := by omega
      have hle := (Vo.may_iff.1 hm).1
      have hok : ∀ q ∈ P, q.byte < 256 := fun q hq => (HV.out.ok_ q hq).1
      have HTK : Hid (∀ c, c < 256 → (Bp.toks P)[c]? = some ((Vo.tokenOf P c : Nat) : Int)) := fun c hc => Bp.toks_at hm hok hc
      have HTL : Hid (∀ c, c < 256 → Vo.tokenOf P c < P.length) := fun c hc => Vo.tokenOf_lt hm hok hc
      have HTo : Hid (∀ w', Below w.heap.size w w' → Calls Try.prog 94 #[.agg #[.slice A P.length c]] w' (IsL1 iK (Bp.toks P) w')) := fun w' hb => rtokens_any P _ B w' (HV.out.below_ hb HBB.out) (Nat.le_trans HBB.out hb.size) hle
      have hln : l.length ≤ 4096 := by omega
      clear hm hok hbig
      go_enter Try.func68, Try.ntmps68
      go_wp2_with (fail)
      refine (HM.out).mono ?_
      rintro e w1 ⟨rfl, hb1⟩
      have HB1 := Lib.hid (HB0.out.trans (hb1.mono HB0.out.size))
      have d1 : w1.cell? ⟨w.heap.size, 0, none⟩ = some (.slice A P.length c) := (hb1.cell (p := ⟨w.heap.size, 0, none⟩) (by show w.heap.size < _; have := HSZ.out; omega)).trans d0
      have HT1 := Lib.hid (HTo.out w1 HB1.out)
      clear hb1 HM HTo
      go_wp2_with (fail)
      refine (HT1.out).mono ?_
      rintro e w2 ⟨At, ct, rfl, ho, hb2⟩
      have hs2 := HB1.out.size
      have HB2 := Lib.hid (HB1.out.trans (hb2.mono hs2))
      have hs3 := HB2.out.size
      have HT2 := Lib.hid (show Lv iK w2 w2.heap.size _ _ from ho.form_)
      have h256 := Bp.toks_len P
      obtain ⟨tk, htk⟩ : ∃ t, Bp.toks P = t := ⟨_, rfl⟩
      rw [htk] at HT2 HTK h256 ⊢
      rw [h256] at HT2 ⊢
      obtain ⟨z, hz⟩ : ∃ z, w2.heap.size = z := ⟨_, rfl⟩
      have HZ := Lib.hid hz
      rw [hz] at HT2 hs3
      clear ho hb2 HT1 hs2 hz htk
      go_wp2
      go_loopw [7, 8] (fun s i wr => ∃ (k : Nat) (Ak : Option Addr) (ck : Nat), k ≤ l.length ∧ i = .int .i64 k ∧ s = .slice Ak k ck ∧ Hid (OwnL iK wr z (.slice Ak k ck) (Bp.beginL P (l.take k))) ∧ Hid (Below z w2 wr)) (fun _ i _ => l.length - (intOf i).toNat)
      case atStart => exact ⟨0, none, 0, Nat.zero_le _, rfl, rfl, OwnL.nil_ _ _ _, Below.refl _ _⟩
      case round =>
        obtain ⟨k, Ak, ck, hk, rfl, rfl, HO, hbr⟩ := hrel
        clear d1
        by_cases hlt : k < l.length
        · obtain ⟨b, off, x, rfl, hbB, hx, hq, hcx⟩ := (HU.out.below_ (HB2.out.trans (hbr.out.mono hs3)) HBB.out).byte_ hlt
          have hx8 : x < 256 := hx
          have hxt := HTK.out x hx8
          have htl := HTL.out x hx8
          obtain ⟨bt, offt, y, rfl, hbt, hy, hyq, hct⟩ := (HT2.out.below_ hbr.out (Nat.le_refl _)).int_ (k := x) (by rw [h256]; exact hx8)
          have hye : y = ((Vo.tokenOf P x : Nat) : Int) := by rw [hxt] at hyq; exact (Option.some.inj hyq).symm
          have hyI : I64 y := hy
          have HBL : Hid (Bp.beginL P (l.take (k + 1)) = Bp.beginL P (l.take k) ++ [y]) := by unfold Hid Bp.beginL; rw [take_snoc hq, List.map_append, hye]; rfl
          have hki : (k : Int) < (l.length : Int) := by omega
          have hxi : (x : Int) < 256 := by omega
          have hkn : (Bp.beginL P (l.take k)).length = k := by unfold Bp.beginL; rw [List.length_map, List.length_take]; omega
          obtain ⟨bl, hbl⟩ : ∃ t, Bp.beginL P (l.take k) = t := ⟨_, rfl⟩
          rw [hbl] at HO HBL hkn
          have wk : IntKind.i64.wrap ((k : Int) + 1) = (k : Int) + 1 := by rw [IntKind.wrap_i64]; omega
          have hzr : z ≤ wr.heap.size := by have := hbr.out.size; have := HZ.out; omega
          have HKN := Lib.hid hkn
          clear hx hq hxt hyq hy hye hbB hbt hbl hkn htl
          go_wp2_with (at_builtin; go_must (refine wpList_push_m _ iK rfl _ _ rfl z _ rfl bl HO.out rfl y hyI _ rfl _ rfl (by rw [HKN.out]; show _ * 8 ≤ _; omega) (by rw [HKN.out]; simp only [maxLen]; omega) hzr ?_; rw [HKN.out]; intro A3 c3 w7 hA hG hM))
          have HBr : Hid (Below z w2 w7) := hbr.out.grown hG hzr (fun j hj => (HO.out.lt_ j hj).1)
          have HOr := Lib.hid hA
          clear hA hG hM HO hbr
          go_wp2
          go_roundw
          case rel => exact ⟨k + 1, A3, c3, hlt, by go_num, rfl, by unfold Hid; rw [HBL.out]; exact HOr.out, HBr.out⟩
          case measure => simp [intOf]; omega
        · have hkn : k = l.length := by omega
          have hki : ¬ (k : Int) < (l.length : Int) := by omega
          subst hkn
          rw [List.take_length] at HO
          have HLN : Hid ((Bp.beginL P l).length = l.length) := Bp.begin_len
          clear hlt hk
          go_wp2
          go_ret2
          exact IsLE.of HX.out (by rw [HLN.out]) rfl (HO.out.mono_ (by have := HZ.out; have := HB2.out.size; omega)) (HB2.out.trans (hbr.out.mono hs3))
  · rw [decide_eq_false hm] at HM
    have HX : Hid (Bp.beginE P l = ([], 11)) := by unfold Hid Bp.beginE; rw [if_neg hm]
    clear hm
    go_enter Try.func68, Try.ntmps68
    go_wp2_with (fail)
    refine (HM.out).mono ?_
    rintro e w1 ⟨rfl, hb1⟩
    have HB1 := Lib.hid (HB0.out.trans (hb1.mono HB0.out.size))
    clear hb1 HM
    go_wp2
    go_ret2
    exact IsLE.none_b HX.out rfl HB1.out

theorem iK_elm : Try.prog.elem iK.s = iK.e := by kernel_rfl

set_option maxHeartbeats 2000000 in
theorem rjoined_any (l : List Int) (u : Value) (x : Nat) (t : Int) (B : Nat) (w : World) (hu : Lv iK w B u l) (hB : B ≤ w.heap.size) (hx : x + 1 < l.length) (hl : l.length ≤ 4096) (ht : I64 t) :
    Calls Try.prog 70 #[u, .int .i64 (x : Nat), .int .i64 t] w (IsL1 iK (Bp.joined l x t) w) := by
  obtain ⟨A, c, rfl, k1, k2, -, -, -⟩ := id hu
  obtain ⟨y, hy⟩ : ∃ y, x + 2 = y := ⟨_, rfl⟩
  have wx : IntKind.i64.wrap ((x : Int) + 2) = (y : Int) := by rw [IntKind.wrap_i64]; omega
  obtain ⟨A', f1, f2, f3, _⟩ := cut_from iK iK_elm A l.length c y (by omega) k1
  have g1 := cut_to iK iK_elm A l.length c x (by omega)
  have g2 := cutAt_to iK iK_elm A l.length c x (by omega)
  have HF := Lib.hid (f3 _ _ _ hu)
  have htk := hu.take_ (k := x) (by omega)
  have HX : Hid (Bp.joined l x t = l.take x ++ (t :: l.drop y)) := by unfold Hid Bp.joined; rw [hy]
  obtain ⟨J, hJ⟩ : ∃ J, Bp.joined l x t = J := ⟨_, rfl⟩
  obtain ⟨p, hp⟩ : ∃ p, l.take x = p := ⟨_, rfl⟩
  obtain ⟨d, hd⟩ : ∃ d, l.drop y = d := ⟨_, rfl⟩
  have htl : p.length = x := by rw [← hp, List.length_take]; omega
  have hdl : d.length = l.length - y := by rw [← hd, List.length_drop]
  have HL : Hid (p.length + d.length ≤ 8192) := by unfold Hid; omega
  obtain ⟨dn, hdn⟩ : ∃ dn, l.length - y = dn := ⟨_, rfl⟩
  rw [hdn] at f1 f2 HF
  rw [hp] at htk
  rw [hd] at HF
  rw [hJ, hp, hd] at HX
  rw [hJ]
  have HTK := Lib.hid htk
  have HTI := Lib.hid ht
  have HBB := Lib.hid hB
  change ∀ w, (Instr.slice 25 (.slice A l.length c) none (some (.int .i64 (x : Nat))) none).run Try.prog w = _ at g1
  change ∀ w, (Instr.sliceAt 25 (.slice A l.length c) none (some (.int .i64 (x : Nat))) none).run Try.prog w = _ at g2
  change ∀ w, (Instr.slice 25 (.slice A l.length c) (some (.int .i64 (y : Nat))) none none).run Try.prog w = _ at f1
  change ∀ w, (Instr.sliceAt 25 (.slice A l.length c) (some (.int .i64 (y : Nat))) none none).run Try.prog w = _ at f2
  clear hp hd f3 htk htl hdl hdn hu ht hB hJ hy
  go_enter Try.func70, Try.ntmps70
  go_wp2_with (at_builtin; go_must (refine wpList_append_l _ iK rfl _ _ rfl w.heap.size (.slice none 0 0) rfl [] (OwnL.nil_ _ _ _) (.slice A x c) rfl B p HTK.out (by have := HL.out; show _ * 8 ≤ _; simp only [List.length_nil]; omega) (by have := HL.out; simp only [List.length_nil, maxLen]; omega) (Nat.le_refl _) ?_))
  intro A5 c5 w5 hA hG
  have HG5 := Lib.hid ((Below.refl w.heap.size w).grown hG (Nat.le_refl _) (by intro k hk; cases hk))
  have HA5 := Lib.hid hA
  clear hA hG
  go_wp2_with (at_builtin; go_must (refine wpList_push_l _ iK rfl _ _ rfl w.heap.size (.slice A5 p.length c5) rfl p HA5.out rfl t HTI.out _ rfl _ rfl (by have := HL.out; show _ * 8 ≤ _; omega) (by have := HL.out; simp only [maxLen]; omega) HG5.out.size ?_))
  intro A6 c6 w6 hA hG
  have HG6 := Lib.hid (HG5.out.grown hG HG5.out.size (fun k hk => (HA5.out.lt_ k hk).1))
  have HA6 := Lib.hid hA
  have HF6 := Lib.hid (HF.out.below_ HG6.out HBB.out)
  clear hA hG HA5 HG5
  go_wp2_with (at_builtin; go_must (refine wpList_append_l _ iK rfl _ _ rfl w.heap.size (.slice A6 (p.length + 1) c6) rfl (p ++ [t]) HA6.out _ rfl B d HF6.out (by have := HL.out; show _ * 8 ≤ _; simp; omega) (by have := HL.out; simp [maxLen]; omega) HG6.out.size ?_))
  intro A7 c7 w7 hA hG
  have HG7 := Lib.hid (HG6.out.grown hG HG6.out.size (fun k hk => (HA6.out.lt_ k hk).1))
  have e7 := HX.out
  subst e7
  go_wp2
  go_ret
  have e8 : (p ++ t :: d).length = p.length + (d.length + 1) := by rw [List.length_append, List.length_cons]
  exact ⟨A7, c7, by rw [e8]; rfl, by rw [e8]; exact hA, HG7.out⟩
end Go.Proofs.Ytkialijipcbgkaa
