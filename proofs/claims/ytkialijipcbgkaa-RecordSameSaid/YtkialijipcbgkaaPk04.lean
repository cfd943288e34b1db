/-
  RVoA: stookref08.seen: what stood ahead of a piece: its memory, and the function byte.
  RVoB: stookref08.seen.join.
  RVoC: stookref08.Sizes, Check, May.
  VoMathC: Plain mathematics of chapter 8: the bytes that are there; what is found first.
-/
import Derived.Test.YtkialijipcbgkaaPk03
import Derived.Test.YtkialijipcbgkaaPk01
import Derived.Deep.QuietTactic
import Derived.BigQuiet
import Derived.BigRegion
namespace Go.Proofs.Ytkialijipcbgkaa
open Go.RowKit
set_option linter.unusedVariables false

/-- The cells of a seen. -/
def seenCells (v : Value) (bs : List Bool) (m : Nat) : List Value := v :: (bs.map Value.bool ++ [.int .i64 (m : Nat)])
/-- A seen at block sb: its list of sizes (an own slice), its bytes, how many. -/
structure SeenR (w : World) (sb base : Nat) (v : Value) (sz : List Int) (bs : List Bool) (m : Nat) : Prop where
  head : w.heap[sb]? = some (.cells (seenCells v bs m).toArray 132 (0, 0))
  len : bs.length = 256
  own : OwnL iK w base v sz
  apart : v.ownBlock ≠ some sb
  low : base ≤ sb

section
variable {w w' : World} {sb base m : Nat} {v v' : Value} {sz sz' : List Int} {bs : List Bool}
theorem SeenR.slice_ (h : SeenR w sb base v sz bs m) : w.cell? ⟨sb, 0, none⟩ = some v := by
  rw [cell_of_row _ sb 0 _ _ _ h.head]; rfl
theorem SeenR.bool_ (h : SeenR w sb base v sz bs m) {b : Nat} {t : Bool} (hb : bs[b]? = some t) : w.cell? ⟨sb, 1 + b, none⟩ = some (.bool t) := by
  have hlt := (List.getElem?_eq_some_iff.1 hb).1
  rw [cell_of_row _ sb (1 + b) _ _ _ h.head, List.getElem?_toArray, seenCells, Nat.add_comm, List.getElem?_cons_succ, List.getElem?_append_left (by simpa using hlt), List.getElem?_map, hb]; rfl
theorem SeenR.many_ (h : SeenR w sb base v sz bs m) : w.cell? ⟨sb, 257, none⟩ = some (.int .i64 (m : Nat)) := by
  rw [cell_of_row _ sb 257 _ _ _ h.head, List.getElem?_toArray, seenCells, List.getElem?_cons_succ, List.getElem?_append_right (by simp [h.len])]
  simp [h.len]
theorem SeenR.cool_ (h : SeenR w sb base v sz bs m) (j : Nat) : w.frozen? ⟨sb, j, none⟩ = false := frozen_of_row w sb j _ _ h.head
theorem SeenR.lt_ (h : SeenR w sb base v sz bs m) : sb < w.heap.size := (Array.getElem?_eq_some_iff.1 h.head).1
theorem SeenR.alloc_ (h : SeenR w sb base v sz bs m) (o : Obj) : SeenR (w.alloc o) sb base v sz bs m :=
  ⟨(heap_alloc_old w o h.lt_).trans h.head, h.len, h.own.alloc_ o, h.apart, h.low⟩
theorem SeenR.drewN_ (h : SeenR w sb base v sz bs m) (n : Nat) : SeenR (w.drewN n) sb base v sz bs m := ⟨h.head, h.len, h.own, h.apart, h.low⟩
theorem SeenR.drew_ (h : SeenR w sb base v sz bs m) : SeenR w.drew sb base v sz bs m := ⟨h.head, h.len, h.own, h.apart, h.low⟩
theorem seen_set_bool (v : Value) (bs : List Bool) (m : Nat) {b : Nat} (hb : b < bs.length) (t : Bool) : (seenCells v bs m).set (1 + b) (.bool t) = seenCells v (bs.set b t) m := by
  unfold seenCells
  rw [Nat.add_comm, List.set_cons_succ, List.set_append_left _ _ (by simpa using hb), ← List.map_set]
theorem seen_set_many (v : Value) (bs : List Bool) (m m' : Nat) (hb : bs.length = 256) : (seenCells v bs m).set 257 (.int .i64 (m' : Nat)) = seenCells v bs m' := by
  unfold seenCells
  rw [List.set_cons_succ, List.set_append_right _ _ (by simp [hb])]
  simp [hb]
theorem seen_set_slice (v v' : Value) (bs : List Bool) (m : Nat) : (seenCells v bs m).set 0 v' = seenCells v' bs m := rfl
theorem SeenR.other_ (h : SeenR w sb base v sz bs m) (j : Nat) (u : Value) : OwnL iK (w.setCell ⟨sb, j, none⟩ u) base v sz :=
  h.own.of_block (fun k hk => heap_setCell_other w ⟨sb, j, none⟩ k u (fun e => h.apart (by rw [hk, e])))
theorem SeenR.setBool_ (h : SeenR w sb base v sz bs m) {b : Nat} (hb : b < 256) (t : Bool) : SeenR (w.setCell ⟨sb, 1 + b, none⟩ (.bool t)) sb base v sz (bs.set b t) m := by
  refine ⟨?_, by rw [List.length_set]; exact h.len, h.other_ _ _, h.apart, h.low⟩
  rw [heap_setCell_same w sb _ _ _ _ h.head, ← seen_set_bool v bs m (by rw [h.len]; exact hb) t]
  simp
theorem SeenR.setMany_ (h : SeenR w sb base v sz bs m) (m' : Nat) : SeenR (w.setCell ⟨sb, 257, none⟩ (.int .i64 (m' : Nat))) sb base v sz bs m' := by
  refine ⟨?_, h.len, h.other_ _ _, h.apart, h.low⟩
  rw [heap_setCell_same w sb _ _ _ _ h.head, ← seen_set_many v bs m m' h.len]
  simp
/-- What append turned leaves the seen's own block. -/
theorem SeenR.grown_ (h : SeenR w sb base v sz bs m) (hg : w.grownBy w' v.ownBlock) : w'.cell? ⟨sb, 0, none⟩ = some v ∧ w'.frozen? ⟨sb, 0, none⟩ = false := by
  have hh := (hg.block sb h.lt_ (fun e => h.apart e.symm)).trans h.head
  exact ⟨by rw [cell_of_row _ sb 0 _ _ _ hh]; rfl, frozen_of_row w' sb 0 _ _ hh⟩
/-- The list of sizes is had anew. -/
theorem SeenR.setSlice_ (h : SeenR w sb base v sz bs m) (hg : w.grownBy w' v.ownBlock) (ho : OwnL iK w' base v' sz') (hm : Moved w v v') : SeenR (w'.setCell ⟨sb, 0, none⟩ v') sb base v' sz' bs m := by
  have hap : v'.ownBlock ≠ some sb := fun e => by
    rcases hm sb e with h1 | h1
    · exact h.apart h1
    · have := h.lt_; omega
  have hh := (hg.block sb h.lt_ (fun e => h.apart e.symm)).trans h.head
  refine ⟨?_, h.len, ho.of_block (fun k hk => heap_setCell_other w' ⟨sb, 0, none⟩ k v' (fun e => hap (by rw [hk, e]))), hap, h.low⟩
  rw [heap_setCell_same w' sb 0 _ _ _ hh]
  simp [seenCells]
end

namespace Vo
/-- Which bytes are there. -/
def bits (D : List Pc) : List Bool := (List.range 256).map (fun b => D.any (fun q => !q.join && q.byte == b))
def sizes (D : List Pc) : List Int := (texts D).map (fun t => (t.length : Int))
theorem bits_len (D : List Pc) : (bits D).length = 256 := by simp [bits]
theorem bits_at {D : List Pc} {b : Nat} (h : b < 256) : (bits D)[b]? = some (D.any (fun q => !q.join && q.byte == b)) := by simp [bits, h]
theorem bits_byte {D : List Pc} {p : Pc} (hj : p.join = false) (h : p.byte < 256) : bits (D ++ [p]) = (bits D).set p.byte true := by
  refine List.ext_getElem? fun j => ?_
  rw [List.getElem?_set, bits_len]
  by_cases hj2 : j < 256
  · rw [bits_at hj2, List.any_append]
    by_cases e : p.byte = j
    · subst e; simp [hj, h]
    · rw [if_neg e, bits_at hj2]
      simp [hj, e]
  · rw [List.getElem?_eq_none (by rw [bits_len]; omega), if_neg (by omega), List.getElem?_eq_none (by rw [bits_len]; omega)]
theorem bits_join {D : List Pc} {p : Pc} (hj : p.join = true) : bits (D ++ [p]) = bits D := by
  unfold bits
  simp [hj]
theorem bytesOf_byte {D : List Pc} {p : Pc} (hj : p.join = false) : bytesOf (D ++ [p]) = bytesOf D + 1 := by simp [bytesOf, hj]
theorem bytesOf_join {D : List Pc} {p : Pc} (hj : p.join = true) : bytesOf (D ++ [p]) = bytesOf D := by simp [bytesOf, hj]
theorem sizes_snoc (D : List Pc) (p : Pc) : sizes (D ++ [p]) = sizes D ++ [((tx (texts D) p).length : Int)] := by simp [sizes, texts_snoc]
theorem sizes_len (D : List Pc) : (sizes D).length = D.length := by simp [sizes, texts_len]
theorem sizes_byte {D : List Pc} {p : Pc} (hj : p.join = false) : sizes (D ++ [p]) = sizes D ++ [1] := by
  rw [sizes_snoc, tx, if_neg (by rw [hj]; simp)]; rfl
theorem bytesOf_le (D : List Pc) : bytesOf D ≤ D.length := List.length_filter_le _ _
theorem hasByte_bits {D : List Pc} {p : Pc} : hasByte D p = D.any (fun q => !q.join && q.byte == p.byte) := rfl
end Vo

/-- A seen behind the pieces D. -/
def SeenAt (w : World) (sb base : Nat) (D : List Vo.Pc) : Prop := ∃ v, SeenR w sb base v (Vo.sizes D) (Vo.bits D) (Vo.bytesOf D)
/-- What byte and join answer. -/
def IsSeen (sb base : Nat) (D : List Vo.Pc) (p : Vo.Pc) (w : World) (e : Ending) (w' : World) : Prop :=
  e = .returned (.int .i64 (Vo.errAt D p : Nat)) ∧ SeenAt w' sb base (if Vo.errAt D p = 0 then D ++ [p] else D) ∧ Below base w w'
theorem IsSeen.bad {sb base : Nat} {D : List Vo.Pc} {p : Vo.Pc} {w w' : World} {x : Int} {n : Nat} (h : Vo.errAt D p = n) (hn : n ≠ 0) (hx : x = (n : Int)) (hs : SeenAt w' sb base D) (hb : Below base w w') : IsSeen sb base D p w (.returned (.int .i64 x)) w' := by
  subst hx
  exact ⟨by rw [h], by rw [h, if_neg hn]; exact hs, hb⟩

set_option maxHeartbeats 1000000 in
theorem rsbyte_any (sb base : Nat) (D : List Vo.Pc) (p : Vo.Pc) (w : World) (hp : PcOk p) (hj : p.join = false) (hD : D.length ≤ 4096) (hb : base ≤ w.heap.size) (h : SeenAt w sb base D) :
    Calls Try.prog 93 #[.pointer (some ⟨sb, 0, none⟩), pcV p] w (IsSeen sb base D p w) := by
  obtain ⟨j, b, l, r, k⟩ := p
  obtain ⟨hpb, hpl, hpr, hpk⟩ := hp
  simp only at hj hpb hpl hpr hpk
  subst hj
  obtain ⟨v, hv⟩ := h
  obtain ⟨A, c, rfl, _⟩ := hv.own.form_
  rw [Vo.sizes_len] at hv
  -- the parameter's box
  obtain ⟨o, ho⟩ : ∃ o : Obj, o = .cells #[.bool false, .int .u8 (b : Nat), .int .i64 l, .int .i64 r, .int .u32 (k : Nat)] 85 := ⟨_, rfl⟩
  obtain ⟨W, hW⟩ : ∃ W, w.alloc o = W := ⟨_, rfl⟩
  have hcell : ∀ (i : Nat) (u : Value), #[.bool false, .int .u8 (b : Nat), .int .i64 l, .int .i64 r, .int .u32 (k : Nat)][i]? = some u → W.cell? ⟨w.heap.size, i, none⟩ = some u := fun i u hi => by
    subst hW ho
    rw [cell_of_row _ w.heap.size i _ _ _ (heap_alloc_new w _)]
    exact hi
  have c1 := hcell 1 _ rfl
  have c2 := hcell 2 _ rfl
  have c3 := hcell 3 _ rfl
  have c4 := hcell 4 _ rfl
  have hvW : SeenR W sb base (.slice A D.length c) (Vo.sizes D) (Vo.bits D) (Vo.bytesOf D) := by rw [← hW]; exact hv.alloc_ _
  have hbW : Below base w W := by rw [← hW]; exact (Below.refl _ _).alloc hb _
  have hsW : base ≤ W.heap.size := Nat.le_trans hb hbW.size
  subst ho
  unfold pcV
  clear hcell
  by_cases hbad : l ≠ 0 ∨ r ≠ 0 ∨ k ≠ 0
  · have HX : Hid (Vo.errAt D ⟨false, b, l, r, k⟩ = 5) := by unfold Hid Vo.errAt; rw [if_neg (by simp), if_pos hbad]
    have HS := Lib.hid hvW
    have HB := Lib.hid hbW
    clear hvW hbW hv
    have fin : IsSeen sb base D ⟨false, b, l, r, k⟩ w (.returned (.int .i64 5)) W := IsSeen.bad HX.out (by decide) rfl ⟨_, HS.out⟩ HB.out
    have FIN := Lib.hid fin
    clear fin
    rcases Decidable.em (l = 0) with rfl | h1
    · rcases Decidable.em (r = 0) with rfl | h2
      · have h3 : ((k : Int) != 0) = true := by rw [bne_iff_ne]; omega
        clear hbad
        go_enter Try.func93, Try.ntmps93
        go_wp2
        go_ret
        exact FIN.out
      · have h3 : (r != 0) = true := by rw [bne_iff_ne]; exact h2
        clear hbad h2
        go_enter Try.func93, Try.ntmps93
        go_wp2
        go_ret
        exact FIN.out
    · have h3 : (l != 0) = true := by rw [bne_iff_ne]; exact h1
      clear hbad h1
      go_enter Try.func93, Try.ntmps93
      go_wp2
      go_ret
      exact FIN.out
  · obtain ⟨rfl, rfl, rfl⟩ : l = 0 ∧ r = 0 ∧ k = 0 := by omega
    clear hbad
    have hW0 : w.alloc (.cells #[.bool false, .int .u8 (b : Nat), .int .i64 0, .int .i64 0, .int .u32 0] 85) = W := hW
    have c40 : W.cell? ⟨w.heap.size, 4, none⟩ = some (.int .u32 0) := c4
    clear hW c4
    have hbit := hvW.bool_ (Vo.bits_at (D := D) hpb)
    have hbi : (b : Int) < 256 := by omega
    cases ht : Vo.hasByte D ⟨false, b, 0, 0, 0⟩ with
    | true =>
      have HX : Hid (Vo.errAt D ⟨false, b, 0, 0, 0⟩ = 8) := by unfold Hid Vo.errAt; rw [if_neg (by simp), if_neg (by simp), if_pos ht]
      rw [Vo.hasByte_bits] at ht
      simp only at ht
      rw [ht] at hbit
      have HS := Lib.hid hvW
      have HB := Lib.hid hbW
      clear ht hvW hbW hv
      go_enter Try.func93, Try.ntmps93
      go_wp2
      go_quiet (fail)
      go_wp2
      go_ret
      exact IsSeen.bad HX.out (by decide) rfl ⟨_, HS.out.drewN_ _⟩ (below_drewN HB.out _)
    | false =>
      have HX : Hid (Vo.errAt D ⟨false, b, 0, 0, 0⟩ = 0) := by unfold Hid Vo.errAt; rw [if_neg (by simp), if_neg (by simp), if_neg (by rw [ht]; simp)]
      rw [Vo.hasByte_bits] at ht
      simp only at ht
      rw [ht] at hbit
      have HS := Lib.hid hvW
      have HB := Lib.hid hbW
      clear ht hvW hbW hv
      go_enter Try.func93, Try.ntmps93
      go_wp2
      go_quiet (fail)
      generalize hW9 : W.drewN _ = w9
      have HS9 : Hid (SeenR w9 sb base (.slice A D.length c) (Vo.sizes D) (Vo.bits D) (Vo.bytesOf D)) := by unfold Hid; rw [← hW9]; exact HS.out.drewN_ _
      have HB9 : Hid (Below base w w9) := by unfold Hid; rw [← hW9]; exact below_drewN HB.out _
      have hc1 : w9.cell? ⟨w.heap.size, 1, none⟩ = some (.int .u8 (b : Nat)) := by rw [← hW9]; exact c1
      have hbit9 := HS9.out.bool_ (Vo.bits_at (D := D) hpb)
      have hcl := HS9.out.cool_ (1 + b)
      clear hW9 hW0 c1 c2 c3 c40 hbit
      go_wp2
      go_region
      obtain ⟨W2, hW2⟩ : ∃ W2, (w9.setCell ⟨sb, 1 + b, none⟩ (.bool true)).drew = W2 := ⟨_, rfl⟩
      have HS2 : Hid (SeenR W2 sb base (.slice A D.length c) (Vo.sizes D) ((Vo.bits D).set b true) (Vo.bytesOf D)) := by unfold Hid; rw [← hW2]; exact (HS9.out.setBool_ hpb true).drew_
      have HB2 : Hid (Below base w W2) := by unfold Hid; rw [← hW2]; exact (HB9.out.setCell (p := ⟨sb, 1 + b, none⟩) HS9.out.low _).drew
      obtain ⟨m, hm⟩ : ∃ m, Vo.bytesOf D = m := ⟨_, rfl⟩
      have HM := Lib.hid hm
      have hm2 : m ≤ 4096 := by rw [← hm]; exact Nat.le_trans (Vo.bytesOf_le D) hD
      rw [hm] at HS2
      have hcm := HS2.out.many_
      have hfm := HS2.out.cool_ 257
      obtain ⟨W3, hW3⟩ : ∃ W3, W2.setCell ⟨sb, 257, none⟩ (.int .i64 ((m : Int) + 1)) = W3 := ⟨_, rfl⟩
      have HS3 : Hid (SeenR W3 sb base (.slice A D.length c) (Vo.sizes D) ((Vo.bits D).set b true) (m + 1)) := by unfold Hid; rw [← hW3]; exact HS2.out.setMany_ (m + 1)
      have HB3 : Hid (Below base w W3) := by unfold Hid; rw [← hW3]; exact HB2.out.setCell (p := ⟨sb, 257, none⟩) HS2.out.low _
      have hc0 := HS3.out.slice_
      have hI : I64 (1 : Int) := by unfold I64; omega
      have HL : Hid ((Vo.sizes D).length = D.length) := Vo.sizes_len D
      have hb3 : base ≤ W3.heap.size := Nat.le_trans hb HB3.out.size
      rw [hW2]
      clear hW2 hcl hbit9 hc1 hm HS9 HB9
      go_wp2_with (at_builtin; go_must (refine wpList_push_m _ iK rfl _ _ rfl base _ rfl (Vo.sizes D) HS3.out.own rfl (1 : Int) hI _ rfl _ rfl (by rw [HL.out]; show _ * 8 ≤ _; omega) (by rw [HL.out]; simp only [maxLen]; omega) hb3 ?_; intro A3 c3 w4 hA hG hM; have hc4 := (HS3.out.grown_ hG).1; have hf4 := (HS3.out.grown_ hG).2))
      have HS5 := HS3.out.setSlice_ hG hA hM
      have HB5 := (HB3.out.grown hG hb3 (fun k hk => (HS3.out.own.lt_ k hk).1)).setCell (p := ⟨sb, 0, none⟩) HS3.out.low (.slice A3 (D.length + 1) c3)
      rw [HL.out] at HS5 ⊢
      have HS6 := Lib.hid HS5
      have HB6 := Lib.hid HB5
      clear HS5 HB5 hA hG hM hc4 hf4
      go_wp2
      go_ret
      refine ⟨by rw [HX.out]; rfl, ?_, HB6.out⟩
      rw [HX.out, if_pos rfl]
      refine ⟨.slice A3 (D.length + 1) c3, ?_⟩
      rw [Vo.sizes_byte rfl, Vo.bits_byte rfl hpb, Vo.bytesOf_byte rfl, HM.out]
      exact HS6.out
end Go.Proofs.Ytkialijipcbgkaa
namespace Go.Proofs.Ytkialijipcbgkaa
open Go.RowKit
set_option linter.unusedVariables false

namespace Vo
/-- Is q a join of the same two, or of that rank? -/
def twin (p q : Pc) : Bool := q.join && ((q.left == p.left && q.right == p.right) || q.rank == p.rank)
theorem hasJoin_snoc {P : List Pc} {i : Nat} {p q : Pc} (h : P[i]? = some q) : hasJoin (P.take (i + 1)) p = (hasJoin (P.take i) p || twin p q) := by
  unfold hasJoin
  rw [take_snoc h, List.any_append]
  simp [twin]
theorem hasJoin_mem {P : List Pc} {i k : Nat} {p q : Pc} (h : P[i]? = some q) (hi : i < k) (ht : twin p q = true) : hasJoin (P.take k) p = true := by
  unfold hasJoin
  rw [List.any_eq_true]
  refine ⟨q, List.mem_of_getElem? (i := i) (by rw [List.getElem?_take, if_pos hi]; exact h), ht⟩
theorem sizes_at {D : List Pc} {t : Nat} (ht : t < D.length) : (sizes D)[t]? = some ((text D t).length : Int) := by
  unfold sizes text
  rw [List.getElem?_map, List.getD_eq_getElem?_getD, List.getElem?_eq_getElem (by rw [texts_len]; exact ht)]
  rfl
theorem tx_join {D : List Pc} {p : Pc} (hj : p.join = true) : tx (texts D) p = text D p.left.toNat ++ text D p.right.toNat := by
  unfold tx text
  rw [if_pos hj]
theorem errAt_five {D : List Pc} {p : Pc} (hj : p.join = true) (h : p.byte ≠ 0) : errAt D p = 5 := by unfold errAt; rw [if_pos hj, if_pos h]
theorem errAt_two {D : List Pc} {p : Pc} (hj : p.join = true) (h : p.byte = 0) (h2 : p.left < 0 ∨ (D.length : Int) ≤ p.left ∨ p.right < 0 ∨ (D.length : Int) ≤ p.right) : errAt D p = 2 := by
  unfold errAt; rw [if_pos hj, if_neg (by simpa using h), if_pos h2]
theorem errAt_rest {D : List Pc} {p : Pc} (hj : p.join = true) (h : p.byte = 0) (h2 : ¬ (p.left < 0 ∨ (D.length : Int) ≤ p.left ∨ p.right < 0 ∨ (D.length : Int) ≤ p.right)) :
    errAt D p = if 256 < (tx (texts D) p).length then 3 else if hasJoin D p = true then 8 else 0 := by
  unfold errAt; rw [if_pos hj, if_neg (by simpa using h), if_neg h2]
end Vo

theorem SeenR.below_ {w w' : World} {sb base m : Nat} {v : Value} {sz : List Int} {bs : List Bool} (h : SeenR w sb base v sz bs m) (hb : Below w.heap.size w w') : SeenR w' sb base v sz bs m :=
  ⟨(hb.block sb h.lt_).trans h.head, h.len, h.own.below_ hb (Nat.le_refl _), h.apart, h.low⟩

set_option maxRecDepth 100000 in
set_option maxHeartbeats 4000000 in
theorem rsjoin_any (sb base B : Nat) (P : List Vo.Pc) (k : Nat) (p : Vo.Pc) (v : Value) (w : World) (hv : Lv pK w B v P) (hB : B ≤ base) (hk : P[k]? = some p) (hj : p.join = true) (hP : P.length ≤ 4096) (hG : Vo.Good (P.take k)) (hb : base ≤ w.heap.size) (h : SeenAt w sb base (P.take k)) :
    Calls Try.prog 92 #[.pointer (some ⟨sb, 0, none⟩), .agg #[v], .int .i64 (k : Nat)] w (IsSeen sb base (P.take k) p w) := by
  have hkl : k < P.length := (List.getElem?_eq_some_iff.1 hk).1
  have hv0 := hv
  obtain ⟨A, c, rfl, _, _, _⟩ := hv
  obtain ⟨b, off, p', rfl, hbB, hpok, hp', c0, c1, c2, c3, c4⟩ := hv0.piece_ hkl
  rw [hk] at hp'
  obtain rfl := Option.some.inj hp'
  have HPOK := Lib.hid hpok
  obtain ⟨hpb, hpl, hpr, hpk⟩ := hpok
  obtain ⟨x, hx⟩ := h
  have hDl : (P.take k).length = k := by rw [List.length_take]; omega
  obtain ⟨A2, cx, rfl, _⟩ := hx.own.form_
  rw [Vo.sizes_len, hDl] at hx
  obtain ⟨xj, xb, xl, xr, xk⟩ := p
  simp only at hj hpb hpl hpr hpk c0 c1 c2 c3 c4
  subst hj
  have hkn : (k : Int) < (P.length : Int) := by omega
  have hbw : b < w.heap.size := by omega
  have hkc : (k : Int) < 4096 := by omega
  -- the two boxes
  obtain ⟨W, hW⟩ : ∃ W, (w.alloc (.cells #[.slice (some ⟨b, off, none⟩) P.length c] 41)).alloc (.cells #[.bool true, .int .u8 (xb : Nat), .int .i64 xl, .int .i64 xr, .int .u32 (xk : Nat)] 85) = W := ⟨_, rfl⟩
  have d0 : W.cell? ⟨w.heap.size, 0, none⟩ = some (.slice (some ⟨b, off, none⟩) P.length c) := by
    rw [← hW, cell_of_row _ w.heap.size 0 _ _ _ ((heap_alloc_old _ _ (by simp)).trans (heap_alloc_new w _))]; rfl
  have hcell : ∀ (i : Nat) (u : Value), #[.bool true, .int .u8 (xb : Nat), .int .i64 xl, .int .i64 xr, .int .u32 (xk : Nat)][i]? = some u → W.cell? ⟨w.heap.size + 1, i, none⟩ = some u := fun i u hi => by
    have e : (w.alloc (.cells #[.slice (some ⟨b, off, none⟩) P.length c] 41)).heap.size = w.heap.size + 1 := by simp
    rw [← hW, ← e, cell_of_row _ _ i _ _ _ (heap_alloc_new _ _)]
    exact hi
  have e1 := hcell 1 _ rfl
  have e2 := hcell 2 _ rfl
  have e3 := hcell 3 _ rfl
  have e4 := hcell 4 _ rfl
  clear hcell
  have HXW : Hid (SeenR W sb base (.slice A2 k cx) (Vo.sizes (P.take k)) (Vo.bits (P.take k)) (Vo.bytesOf (P.take k))) := by unfold Hid; rw [← hW]; exact (hx.alloc_ _).alloc_ _
  have HBW : Hid (Below base w W) := by unfold Hid; rw [← hW]; exact ((Below.refl _ _).alloc hb _).alloc (by simp; omega) _
  have HVW : Hid (Lv pK W B (.slice (some ⟨b, off, none⟩) P.length c) P) := by unfold Hid; exact hv0.below_ HBW.out hB
  have hsz : W.heap.size = w.heap.size + 2 := by rw [← hW]; simp
  have HSZ := Lib.hid hsz
  have HH := Lib.hid hx
  clear hx hsz
  by_cases hbyte : xb = 0
  · subst hbyte
    have hW0 : (w.alloc (.cells #[.slice (some ⟨b, off, none⟩) P.length c] 41)).alloc (.cells #[.bool true, .int .u8 0, .int .i64 xl, .int .i64 xr, .int .u32 (xk : Nat)] 85) = W := hW
    have c10 : w.cell? ⟨b, off + k * 5 + 1, none⟩ = some (.int .u8 0) := c1
    have e10 : W.cell? ⟨w.heap.size + 1, 1, none⟩ = some (.int .u8 0) := e1
    clear hW c1 e1
    by_cases hbad : xl < 0 ∨ (k : Int) ≤ xl ∨ xr < 0 ∨ (k : Int) ≤ xr
    · have fin : IsSeen sb base (P.take k) ⟨true, 0, xl, xr, xk⟩ w (.returned (.int .i64 2)) W := IsSeen.bad (Vo.errAt_two rfl rfl (by rw [hDl]; exact hbad)) (by decide) rfl ⟨_, HXW.out⟩ HBW.out
      have FIN := Lib.hid fin
      clear fin
      rcases Decidable.em (xl < 0) with h1 | h1
      · clear hbad
        go_enter Try.func92, Try.ntmps92
        go_wp2
        go_ret
        exact FIN.out
      · rcases Decidable.em ((k : Int) ≤ xl) with h2 | h2
        · clear hbad
          go_enter Try.func92, Try.ntmps92
          go_wp2
          go_ret
          exact FIN.out
        · rcases Decidable.em (xr < 0) with h3 | h3
          · clear hbad
            go_enter Try.func92, Try.ntmps92
            go_wp2
            go_ret
            exact FIN.out
          · have h4 : (k : Int) ≤ xr := by omega
            clear hbad
            go_enter Try.func92, Try.ntmps92
            go_wp2
            go_ret
            exact FIN.out
    · have HE := Lib.hid (Vo.errAt_rest (D := P.take k) (p := ⟨true, 0, xl, xr, xk⟩) rfl rfl (by rw [hDl]; exact hbad))
      obtain ⟨L, rfl⟩ := Int.eq_ofNat_of_zero_le (show 0 ≤ xl by omega)
      obtain ⟨R, rfl⟩ := Int.eq_ofNat_of_zero_le (show 0 ≤ xr by omega)
      have hL : L < k := by omega
      have hR : R < k := by omega
      have hLi : (L : Int) < (k : Int) := by omega
      have hRi : (R : Int) < (k : Int) := by omega
      clear hbad
      have hzl := Vo.sizes_at (D := P.take k) (t := L) (by omega)
      have hzr := Vo.sizes_at (D := P.take k) (t := R) (by omega)
      have htl := Vo.text_size hG (t := L) (by omega)
      have htr := Vo.text_size hG (t := R) (by omega)
      have htx : (Vo.tx (Vo.texts (P.take k)) ⟨true, 0, (L : Int), (R : Int), xk⟩).length = (Vo.text (P.take k) L).length + (Vo.text (P.take k) R).length := by
        rw [Vo.tx_join rfl, List.length_append]; simp
      rw [htx] at HE
      have HTX := Lib.hid htx
      clear htx
      obtain ⟨sl, hsl⟩ : ∃ n, (Vo.text (P.take k) L).length = n := ⟨_, rfl⟩
      obtain ⟨sr, hsr⟩ : ∃ n, (Vo.text (P.take k) R).length = n := ⟨_, rfl⟩
      rw [hsl] at hzl htl HE HTX
      rw [hsr] at hzr htr HE HTX
      obtain ⟨g, y1, rfl, -, -, -, hy1, hs1, -⟩ := HXW.out.own.int_ (k := L) (by rw [Vo.sizes_len]; omega)
      rw [hzl] at hy1
      obtain rfl := Option.some.inj hy1
      obtain ⟨y2, hy2, hs2⟩ := HXW.out.own.was_ (k := R) (by rw [Vo.sizes_len]; omega)
      rw [hzr] at hy2
      obtain rfl := Option.some.inj hy2
      have hsb := HXW.out.slice_
      clear hzl hzr hy1 hy2 hsl hsr
      by_cases hbig : 256 < sl + sr
      · have HX : Hid (Vo.errAt (P.take k) ⟨true, 0, (L : Int), (R : Int), xk⟩ = 3) := by unfold Hid; rw [HE.out, if_pos hbig]
        have hbi : (256 : Int) < (sl : Int) + (sr : Int) := by omega
        clear hbig
        go_enter Try.func92, Try.ntmps92
        go_wp2
        go_quiet (fail)
        go_wp2
        go_ret
        exact IsSeen.bad HX.out (by decide) rfl ⟨_, HXW.out.drewN_ _⟩ (below_drewN HBW.out _)
      · rw [if_neg hbig] at HE
        have hbi : ¬ (256 : Int) < (sl : Int) + (sr : Int) := by omega
        clear hbig
        go_enter Try.func92, Try.ntmps92
        go_wp2
        go_quiet (fail)
        generalize hW9 : W.drewN _ = w9
        have HX9 : Hid (SeenR w9 sb base (.slice (some ⟨g, 0, none⟩) k cx) (Vo.sizes (P.take k)) (Vo.bits (P.take k)) (Vo.bytesOf (P.take k))) := by unfold Hid; rw [← hW9]; exact HXW.out.drewN_ _
        have HB9 : Hid (Below base w w9) := by unfold Hid; rw [← hW9]; exact below_drewN HBW.out _
        have hsz9 : w9.heap.size = w.heap.size + 2 := by rw [← hW9]; exact HSZ.out
        have f0 : w9.cell? ⟨w.heap.size, 0, none⟩ = some (.slice (some ⟨b, off, none⟩) P.length c) := by rw [← hW9]; exact d0
        have f2 : w9.cell? ⟨w.heap.size + 1, 2, none⟩ = some (.int .i64 (L : Nat)) := by rw [← hW9]; exact e2
        have f3 : w9.cell? ⟨w.heap.size + 1, 3, none⟩ = some (.int .i64 (R : Nat)) := by rw [← hW9]; exact e3
        have f4 : w9.cell? ⟨w.heap.size + 1, 4, none⟩ = some (.int .u32 (xk : Nat)) := by rw [← hW9]; exact e4
        have HSZ9 := Lib.hid hsz9
        clear hW9 hsz9 d0 e10 e2 e3 e4 hs1 hs2 hsb c0 c10 c2 c3 c4 hW0 HXW HBW HVW HSZ
        go_wp2
        go_loopw [9] (fun s wr => ∃ i : Nat, i ≤ k ∧ s = .int .i64 i ∧ Hid (Vo.hasJoin (P.take i) ⟨true, 0, (L : Int), (R : Int), xk⟩ = false) ∧ Below w9.heap.size w9 wr) (fun s _ => k - (intOf s).toNat)
        case atStart => exact ⟨0, by omega, rfl, rfl, Below.refl _ _⟩
        case round =>
          obtain ⟨i, hi, rfl, HJ, hbr⟩ := hrel
          have hbs := HSZ9.out
          have HBr := Lib.hid hbr
          have HBw := Lib.hid (HB9.out.trans (hbr.mono (Nat.le_trans hb HB9.out.size)))
          have g0 : wr.cell? ⟨w.heap.size, 0, none⟩ = some (.slice (some ⟨b, off, none⟩) P.length c) := (hbr.cell (p := ⟨w.heap.size, 0, none⟩) (by show w.heap.size < _; omega)).trans f0
          have g2 : wr.cell? ⟨w.heap.size + 1, 2, none⟩ = some (.int .i64 (L : Nat)) := (hbr.cell (p := ⟨w.heap.size + 1, 2, none⟩) (by show w.heap.size + 1 < _; omega)).trans f2
          have g3 : wr.cell? ⟨w.heap.size + 1, 3, none⟩ = some (.int .i64 (R : Nat)) := (hbr.cell (p := ⟨w.heap.size + 1, 3, none⟩) (by show w.heap.size + 1 < _; omega)).trans f3
          have g4 : wr.cell? ⟨w.heap.size + 1, 4, none⟩ = some (.int .u32 (xk : Nat)) := (hbr.cell (p := ⟨w.heap.size + 1, 4, none⟩) (by show w.heap.size + 1 < _; omega)).trans f4
          have hwr : w.heap.size + 2 ≤ wr.heap.size := by have := hbr.size; omega
          have HXr : Hid (SeenR wr sb base (.slice (some ⟨g, 0, none⟩) k cx) (Vo.sizes (P.take k)) (Vo.bits (P.take k)) (Vo.bytesOf (P.take k))) := HX9.out.below_ hbr
          clear f0 f2 f3 f4 HX9 hbr
          by_cases hik : i < k
          · obtain ⟨b', off', q, e, _, hqok, hq, q0, q1, q2, q3, q4⟩ := (hv0.below_ HBw.out hB).piece_ (k := i) (by omega)
            obtain ⟨rfl, rfl⟩ : b = b' ∧ off = off' := by injection e with e; injection e with e1 e2; exact ⟨e1, e2⟩
            obtain ⟨qj, qb, ql, qr, qk⟩ := q
            simp only at q0 q1 q2 q3 q4
            have hii : (i : Int) < (P.length : Int) := by omega
            have hiki : (i : Int) < (k : Int) := by omega
            have HS := Lib.hid (Vo.hasJoin_snoc (p := ⟨true, 0, (L : Int), (R : Int), xk⟩) hq)
            have HM := Lib.hid (fun h => Vo.hasJoin_mem (k := k) (p := ⟨true, 0, (L : Int), (R : Int), xk⟩) hq hik h)
            have HK : Hid (i + 1 ≤ k) := hik
            -- q's box
            obtain ⟨W3, hW3⟩ : ∃ W3, wr.alloc (.cells #[.bool qj, .int .u8 (qb : Nat), .int .i64 ql, .int .i64 qr, .int .u32 (qk : Nat)] 85) = W3 := ⟨_, rfl⟩
            have HB3 : Hid (Below w9.heap.size w9 W3) := by unfold Hid; rw [← hW3]; exact HBr.out.alloc HBr.out.size _
            have HX3 : Hid (SeenR W3 sb base (.slice (some ⟨g, 0, none⟩) k cx) (Vo.sizes (P.take k)) (Vo.bits (P.take k)) (Vo.bytesOf (P.take k))) := by unfold Hid; rw [← hW3]; exact HXr.out.alloc_ _
            have HBw3 : Hid (Below base w W3) := by unfold Hid; rw [← hW3]; exact HBw.out.alloc (Nat.le_trans hb HBw.out.size) _
            have hcell : ∀ (j : Nat) (u : Value), #[.bool qj, .int .u8 (qb : Nat), .int .i64 ql, .int .i64 qr, .int .u32 (qk : Nat)][j]? = some u → W3.cell? ⟨wr.heap.size, j, none⟩ = some u := fun j u hj => by
              rw [← hW3, cell_of_row _ wr.heap.size j _ _ _ (heap_alloc_new wr _)]
              exact hj
            have k0 := hcell 0 _ rfl
            have k2 := hcell 2 _ rfl
            have k3 := hcell 3 _ rfl
            have k4 := hcell 4 _ rfl
            have g2' : W3.cell? ⟨w.heap.size + 1, 2, none⟩ = some (.int .i64 (L : Nat)) := by rw [← hW3, ← g2]; exact World.cell?_alloc_past _ _ _ (by show w.heap.size + 1 < _; omega)
            have g3' : W3.cell? ⟨w.heap.size + 1, 3, none⟩ = some (.int .i64 (R : Nat)) := by rw [← hW3, ← g3]; exact World.cell?_alloc_past _ _ _ (by show w.heap.size + 1 < _; omega)
            have g4' : W3.cell? ⟨w.heap.size + 1, 4, none⟩ = some (.int .u32 (xk : Nat)) := by rw [← hW3, ← g4]; exact World.cell?_alloc_past _ _ _ (by show w.heap.size + 1 < _; omega)
            clear hcell hq hik hqok e
            cases qj with
            | false =>
              have HJ2 : Hid (Vo.hasJoin (P.take (i + 1)) ⟨true, 0, (L : Int), (R : Int), xk⟩ = false) := by unfold Hid; rw [HS.out, HJ.out]; simp [Vo.twin, *]
              clear HM HS
              go_wp2
              go_roundw
              case rel => exact ⟨i + 1, HK.out, by go_num, HJ2.out, HB3.out⟩
              case measure => simp [intOf]; omega
            | true =>
              by_cases h1 : ql = (L : Int)
              · subst h1
                by_cases h2 : qr = (R : Int)
                · subst h2
                  have HX : Hid (Vo.errAt (P.take k) ⟨true, 0, (L : Int), (R : Int), xk⟩ = 8) := by unfold Hid; rw [HE.out, if_pos (HM.out (by simp [Vo.twin, *]))]
                  clear HM HS
                  go_wp2
                  go_ret
                  exact IsSeen.bad HX.out (by decide) rfl ⟨_, HX3.out⟩ HBw3.out
                · have h2b : (qr == (R : Int)) = false := by rw [beq_eq_false_iff_ne]; exact h2
                  by_cases h3 : qk = xk
                  · obtain rfl := h3.symm
                    clear h2
                    have HX : Hid (Vo.errAt (P.take k) ⟨true, 0, (L : Int), (R : Int), xk⟩ = 8) := by unfold Hid; rw [HE.out, if_pos (HM.out (by simp [Vo.twin, *]))]
                    clear HM HS
                    go_wp2
                    go_ret
                    exact IsSeen.bad HX.out (by decide) rfl ⟨_, HX3.out⟩ HBw3.out
                  · have h3b : ((qk : Int) == (xk : Int)) = false := by rw [beq_eq_false_iff_ne]; omega
                    have h3c : (qk == xk) = false := by rw [beq_eq_false_iff_ne]; exact h3
                    clear h2 h3
                    have HJ2 : Hid (Vo.hasJoin (P.take (i + 1)) ⟨true, 0, (L : Int), (R : Int), xk⟩ = false) := by unfold Hid; rw [HS.out, HJ.out]; simp [Vo.twin, *]
                    clear HM HS
                    go_wp2
                    go_roundw
                    case rel => exact ⟨i + 1, HK.out, by go_num, HJ2.out, HB3.out⟩
                    case measure => simp [intOf]; omega
              · have h1b : (ql == (L : Int)) = false := by rw [beq_eq_false_iff_ne]; exact h1
                by_cases h3 : qk = xk
                · obtain rfl := h3.symm
                  clear h1
                  have HX : Hid (Vo.errAt (P.take k) ⟨true, 0, (L : Int), (R : Int), xk⟩ = 8) := by unfold Hid; rw [HE.out, if_pos (HM.out (by simp [Vo.twin, *]))]
                  clear HM HS
                  go_wp2
                  go_ret
                  exact IsSeen.bad HX.out (by decide) rfl ⟨_, HX3.out⟩ HBw3.out
                · have h3b : ((qk : Int) == (xk : Int)) = false := by rw [beq_eq_false_iff_ne]; omega
                  have h3c : (qk == xk) = false := by rw [beq_eq_false_iff_ne]; exact h3
                  clear h1 h3
                  have HJ2 : Hid (Vo.hasJoin (P.take (i + 1)) ⟨true, 0, (L : Int), (R : Int), xk⟩ = false) := by unfold Hid; rw [HS.out, HJ.out]; simp [Vo.twin, *]
                  clear HM HS
                  go_wp2
                  go_roundw
                  case rel => exact ⟨i + 1, HK.out, by go_num, HJ2.out, HB3.out⟩
                  case measure => simp [intOf]; omega
          · obtain rfl : i = k := by omega
            have hki : ¬ (i : Int) < (i : Int) := by omega
            have HX : Hid (Vo.errAt (P.take i) ⟨true, 0, (L : Int), (R : Int), xk⟩ = 0) := by unfold Hid; rw [HE.out, if_neg (by rw [HJ.out]; simp)]
            have hc0 := HXr.out.slice_
            have hI : I64 ((sl : Int) + (sr : Int)) := by unfold I64; omega
            have HL : Hid ((Vo.sizes (P.take i)).length = i) := by unfold Hid; rw [Vo.sizes_len]; exact hDl
            have hb3 : base ≤ wr.heap.size := Nat.le_trans hb HBw.out.size
            go_wp2_with (at_builtin; go_must (refine wpList_push_m _ iK rfl _ _ rfl base _ rfl (Vo.sizes (P.take i)) HXr.out.own rfl ((sl : Int) + (sr : Int)) hI _ rfl _ rfl (by rw [HL.out]; show _ * 8 ≤ _; omega) (by rw [HL.out]; simp only [maxLen]; omega) hb3 ?_; intro A3 c3 w4 hA hG hM; have hc4 := (HXr.out.grown_ hG).1; have hf4 := (HXr.out.grown_ hG).2))
            have HS5 := HXr.out.setSlice_ hG hA hM
            have HB5 := (HBw.out.grown hG hb3 (fun k hk => (HXr.out.own.lt_ k hk).1)).setCell (p := ⟨sb, 0, none⟩) HXr.out.low (.slice A3 (i + 1) c3)
            rw [HL.out] at HS5 ⊢
            have HS6 := Lib.hid HS5
            have HB6 := Lib.hid HB5
            clear HS5 HB5 hA hG hM hc4 hf4
            go_wp2
            go_ret
            refine ⟨by rw [HX.out]; rfl, ?_, HB6.out⟩
            rw [HX.out, if_pos rfl]
            refine ⟨.slice A3 (i + 1) c3, ?_⟩
            rw [Vo.sizes_snoc, HTX.out, Vo.bits_join rfl, Vo.bytesOf_join rfl]
            exact HS6.out
  · have hxb : ((xb : Int) != 0) = true := by rw [bne_iff_ne]; omega
    have FIN := Lib.hid (show IsSeen sb base (P.take k) ⟨true, xb, xl, xr, xk⟩ w (.returned (.int .i64 5)) W from IsSeen.bad (Vo.errAt_five rfl hbyte) (by decide) rfl ⟨_, HXW.out⟩ HBW.out)
    clear hbyte
    go_enter Try.func92, Try.ntmps92
    go_wp2
    go_ret
    exact FIN.out
end Go.Proofs.Ytkialijipcbgkaa
namespace Go.Proofs.Ytkialijipcbgkaa
open Go.RowKit
set_option linter.unusedVariables false

/-- What Sizes answers (the sizes themselves are told by nobody). -/
def IsSizes (P : List Vo.Pc) (w : World) (e : Ending) (w' : World) : Prop :=
  ∃ u, e = .returned (.tuple #[u, .int .i64 ((Vo.check P).1 : Nat), .int .i64 ((Vo.check P).2 : Nat)]) ∧ Below w.heap.size w w'

/-- .. and the sizes, where nothing is wrong. -/
def IsSizesF (P : List Vo.Pc) (w : World) (e : Ending) (w' : World) : Prop :=
  ∃ u, e = .returned (.tuple #[u, .int .i64 ((Vo.check P).1 : Nat), .int .i64 ((Vo.check P).2 : Nat)]) ∧ Below w.heap.size w w' ∧ ((Vo.check P).1 = 0 → Lv iK w' w'.heap.size u (Vo.sizes P))
theorem IsSizesF.bad {P : List Vo.Pc} {w w' : World} {u : Value} {E k : Nat} (h : Vo.check P = (E, k)) (he : E ≠ 0) (hb : Below w.heap.size w w') : IsSizesF P w (.returned (.tuple #[u, .int .i64 (E : Nat), .int .i64 (k : Nat)])) w' :=
  ⟨u, by rw [h], hb, fun h0 => absurd (by rw [h] at h0; exact h0) he⟩

theorem seen_zero : Try.zeroCells132 = (seenCells (.slice none 0 0) (List.replicate 256 false) 0).toArray := by kernel_rfl
namespace Vo
theorem check_scan {P : List Pc} (h : ¬ 4096 < P.length) {e k : Nat} (hs : scan [] P = (e, k)) (he : e ≠ 0) : check P = (e, k) := by
  unfold check
  rw [if_neg h, if_pos (by rw [hs]; exact he), hs]
theorem check_good {P : List Pc} (h : ¬ 4096 < P.length) (hg : Good P) : check P = if bytesOf P < 256 then (7, P.length) else (0, 0) := by
  unfold check
  rw [if_neg h, if_neg (by simpa using scan_good.2 hg)]
theorem good_snoc {P : List Pc} {k : Nat} {p : Pc} (hg : Good (P.take k)) (hk : P[k]? = some p) (h : errAt (P.take k) p = 0) : Good (P.take (k + 1)) := by
  intro i q hq
  have hkl : k < P.length := (List.getElem?_eq_some_iff.1 hk).1
  have hi : i < k + 1 := by
    have := (List.getElem?_eq_some_iff.1 hq).1
    rw [List.length_take] at this; omega
  rw [List.getElem?_take, if_pos hi] at hq
  rw [List.take_take, Nat.min_eq_left (by omega)]
  by_cases e : i = k
  · subst e
    rw [hk] at hq
    rw [← Option.some.inj hq]
    exact h
  · have := hg i q (by rw [List.getElem?_take, if_pos (by omega)]; exact hq)
    rwa [List.take_take, Nat.min_eq_left (by omega)] at this
theorem scan_step {P : List Pc} {k : Nat} {p : Pc} (hk : P[k]? = some p) : scan (P.take k) (P.drop k) = if errAt (P.take k) p = 0 then scan (P.take (k + 1)) (P.drop (k + 1)) else (errAt (P.take k) p, k) := by
  have hkl : k < P.length := (List.getElem?_eq_some_iff.1 hk).1
  rw [drop_at hk, scan, take_snoc hk, List.length_take, Nat.min_eq_left (by omega)]
end Vo

theorem IsSeen.good_ {sb base : Nat} {D : List Vo.Pc} {p : Vo.Pc} {w w' : World} {e : Ending} (h : IsSeen sb base D p w e w') (he : Vo.errAt D p = 0) : e = .returned (.int .i64 0) ∧ SeenAt w' sb base (D ++ [p]) ∧ Below base w w' := by
  obtain ⟨h1, h2, h3⟩ := h
  rw [he] at h1
  rw [he, if_pos rfl] at h2
  exact ⟨h1, h2, h3⟩
theorem IsSeen.bad_ {sb base : Nat} {D : List Vo.Pc} {p : Vo.Pc} {w w' : World} {e : Ending} {n : Nat} (h : IsSeen sb base D p w e w') (he : Vo.errAt D p = n) : e = .returned (.int .i64 (n : Nat)) ∧ Below base w w' := by
  obtain ⟨h1, _, h3⟩ := h
  rw [he] at h1
  exact ⟨h1, h3⟩

set_option maxRecDepth 100000 in
set_option maxHeartbeats 4000000 in
theorem rsizes_full (P : List Vo.Pc) (v : Value) (B : Nat) (w : World) (hv : Lv pK w B v P) (hB : B ≤ w.heap.size) :
    Calls Try.prog 67 #[.agg #[v]] w (IsSizesF P w) := by
  have hv0 := hv
  obtain ⟨A, c, rfl, h1, h2, _, _⟩ := hv
  have hl : P.length ≤ 9223372036854775807 := by simp only [maxLen] at h2; omega
  clear h1 h2
  by_cases hbig : 4096 < P.length
  · have HX : Hid (Vo.check P = (3, 0)) := by unfold Hid Vo.check; rw [if_pos hbig]
    go_enter Try.func67, Try.ntmps67
    go_wp2
    go_ret3
    exact IsSizesF.bad HX.out (by decide) ((Below.refl _ _).alloc (Nat.le_refl _) _)
  · have HBig := Lib.hid hbig
    have hle : P.length ≤ 4096 := by omega
    obtain ⟨W, hW⟩ : ∃ W, (w.alloc (.cells #[.slice A P.length c] 41)).alloc (.cells Try.zeroCells132 132) = W := ⟨_, rfl⟩
    have d0 : W.cell? ⟨w.heap.size, 0, none⟩ = some (.slice A P.length c) := by
      rw [← hW, cell_of_row _ w.heap.size 0 _ _ _ ((heap_alloc_old _ _ (by simp)).trans (heap_alloc_new w _))]; rfl
    have hs1 : (w.alloc (.cells #[.slice A P.length c] 41)).heap.size = w.heap.size + 1 := by simp
    have HS0 : Hid (SeenAt W (w.heap.size + 1) (w.heap.size + 1) (P.take 0)) := by
      refine ⟨.slice none 0 0, ?_, Vo.bits_len _, OwnL.nil_ _ _ _, by simp [Value.ownBlock], Nat.le_refl _⟩
      have hh := heap_alloc_new (w.alloc (.cells #[.slice A P.length c] 41)) (.cells Try.zeroCells132 132)
      rw [hs1, hW, seen_zero] at hh
      exact hh
    have HB0 : Hid (Below w.heap.size w W) := by unfold Hid; rw [← hW]; exact ((Below.refl _ _).alloc (Nat.le_refl _) _).alloc (by simp) _
    have HSZ : Hid (W.heap.size = w.heap.size + 2) := by unfold Hid; rw [← hW]; simp
    clear hbig hs1
    go_enter Try.func67, Try.ntmps67
    go_wp2
    go_loopw [6] (fun i wr => ∃ k : Nat, k ≤ P.length ∧ i = .int .i64 k ∧ Hid (Vo.Good (P.take k)) ∧ Hid (Vo.scan [] P = Vo.scan (P.take k) (P.drop k)) ∧ Hid (SeenAt wr (w.heap.size + 1) (w.heap.size + 1) (P.take k)) ∧ Below (w.heap.size + 1) W wr) (fun i _ => P.length - (intOf i).toNat)
    case atStart => exact ⟨0, by omega, rfl, by intro i p h; simp at h, rfl, HS0.out, Below.refl _ _⟩
    case round =>
      obtain ⟨k, hk, rfl, HG, HSc, HS, hbr⟩ := hrel
      have HBr := Lib.hid hbr
      have HBw := Lib.hid (HB0.out.trans (hbr.mono (Nat.le_succ _)))
      have hd0 : wr.cell? ⟨w.heap.size, 0, none⟩ = some (.slice A P.length c) := (hbr.cell (p := ⟨w.heap.size, 0, none⟩) (Nat.lt_succ_self _)).trans d0
      have hsr : w.heap.size + 1 ≤ wr.heap.size := by have := hbr.size; have := HSZ.out; omega
      have HVr := Lib.hid (hv0.below_ HBw.out hB)
      clear HS0 hbr d0
      by_cases hlt : k < P.length
      · obtain ⟨b, off, p, rfl, hbB, hpok, hq, c0, c1, c2, c3, c4⟩ := HVr.out.piece_ hlt
        have hki : (k : Int) < (P.length : Int) := by omega
        cases hj : p.join with
        | true =>
          rw [hj] at c0
          have HC := Lib.hid (rsjoin_any (w.heap.size + 1) (w.heap.size + 1) B P k p _ wr HVr.out (by omega) hq hj hle HG.out hsr HS.out)
          by_cases he : Vo.errAt (P.take k) p = 0
          · have HC1 := Lib.hid (HC.out.mono fun e w' h => h.good_ he)
            have HG2 := Lib.hid (Vo.good_snoc HG.out hq he)
            have HSc2 : Hid (Vo.scan [] P = Vo.scan (P.take (k + 1)) (P.drop (k + 1))) := by unfold Hid; rw [HSc.out, Vo.scan_step hq, if_pos he]
            have HQ := Lib.hid (take_snoc hq)
            clear HC he hq HG HSc
            go_wp2_with (fail)
            refine (HC1.out).mono ?_
            rintro e w1 ⟨rfl, hs, hb⟩
            have HS2 : Hid (SeenAt w1 (w.heap.size + 1) (w.heap.size + 1) (P.take (k + 1))) := by unfold Hid; rw [HQ.out]; exact hs
            have HB2 := Lib.hid (HBr.out.trans hb)
            clear hs hb HC1
            go_wp2
            go_roundw
            case rel => exact ⟨k + 1, hlt, by go_num, HG2.out, HSc2.out, HS2.out, HB2.out⟩
            case measure => simp [intOf]; omega
          · obtain ⟨E, hE⟩ : ∃ E, Vo.errAt (P.take k) p = E := ⟨_, rfl⟩
            have HC1 := Lib.hid (HC.out.mono fun e w' h => h.bad_ hE)
            have HX : Hid (Vo.check P = (E, k)) := Vo.check_scan HBig.out (by rw [HSc.out, Vo.scan_step hq, if_neg he, hE]) (by rw [← hE]; exact he)
            rw [hE] at he
            have HNE := Lib.hid he
            have heb : ((E : Int) != 0) = true := by rw [bne_iff_ne]; omega
            clear HC he hE hq HG HSc
            go_wp2_with (fail)
            refine (HC1.out).mono ?_
            rintro e w1 ⟨rfl, hb⟩
            have HB2 := Lib.hid (HBw.out.trans (hb.mono (Nat.le_succ _)))
            clear hb HC1
            go_wp2
            go_ret3
            exact IsSizesF.bad HX.out HNE.out HB2.out
        | false =>
          rw [hj] at c0
          have HC := Lib.hid (rsbyte_any (w.heap.size + 1) (w.heap.size + 1) (P.take k) p wr hpok hj (by rw [List.length_take]; omega) hsr HS.out)
          unfold pcV at HC
          rw [hj] at HC
          by_cases he : Vo.errAt (P.take k) p = 0
          · have HC1 := Lib.hid (HC.out.mono fun e w' h => h.good_ he)
            have HG2 := Lib.hid (Vo.good_snoc HG.out hq he)
            have HSc2 : Hid (Vo.scan [] P = Vo.scan (P.take (k + 1)) (P.drop (k + 1))) := by unfold Hid; rw [HSc.out, Vo.scan_step hq, if_pos he]
            have HQ := Lib.hid (take_snoc hq)
            clear HC he hq HG HSc
            go_wp2_with (fail)
            refine (HC1.out).mono ?_
            rintro e w1 ⟨rfl, hs, hb⟩
            have HS2 : Hid (SeenAt w1 (w.heap.size + 1) (w.heap.size + 1) (P.take (k + 1))) := by unfold Hid; rw [HQ.out]; exact hs
            have HB2 := Lib.hid (HBr.out.trans hb)
            clear hs hb HC1
            go_wp2
            go_roundw
            case rel => exact ⟨k + 1, hlt, by go_num, HG2.out, HSc2.out, HS2.out, HB2.out⟩
            case measure => simp [intOf]; omega
          · obtain ⟨E, hE⟩ : ∃ E, Vo.errAt (P.take k) p = E := ⟨_, rfl⟩
            have HC1 := Lib.hid (HC.out.mono fun e w' h => h.bad_ hE)
            have HX : Hid (Vo.check P = (E, k)) := Vo.check_scan HBig.out (by rw [HSc.out, Vo.scan_step hq, if_neg he, hE]) (by rw [← hE]; exact he)
            rw [hE] at he
            have HNE := Lib.hid he
            have heb : ((E : Int) != 0) = true := by rw [bne_iff_ne]; omega
            clear HC he hE hq HG HSc
            go_wp2_with (fail)
            refine (HC1.out).mono ?_
            rintro e w1 ⟨rfl, hb⟩
            have HB2 := Lib.hid (HBw.out.trans (hb.mono (Nat.le_succ _)))
            clear hb HC1
            go_wp2
            go_ret3
            exact IsSizesF.bad HX.out HNE.out HB2.out
      · obtain rfl : k = P.length := by omega
        have hG := HG.out
        rw [List.take_length] at hG
        have HX := Lib.hid (Vo.check_good HBig.out hG)
        have hS := HS.out
        rw [List.take_length] at hS
        obtain ⟨x, hx⟩ := hS
        have hm := hx.many_
        have hs := hx.slice_
        have HOW := Lib.hid hx.own
        clear hG hx
        by_cases hmany : Vo.bytesOf P < 256
        · rw [if_pos hmany] at HX
          have hmi : (Vo.bytesOf P : Int) < 256 := by omega
          obtain ⟨m, hme⟩ : ∃ m, Vo.bytesOf P = m := ⟨_, rfl⟩
          rw [hme] at hm hmi
          clear hmany hme
          go_wp2
          go_quiet (fail)
          go_wp2
          go_ret3
          exact IsSizesF.bad HX.out (by decide) (below_drewN HBw.out _)
        · rw [if_neg hmany] at HX
          have hmi : ¬ (Vo.bytesOf P : Int) < 256 := by omega
          obtain ⟨m, hme⟩ : ∃ m, Vo.bytesOf P = m := ⟨_, rfl⟩
          rw [hme] at hm hmi
          clear hmany hme
          go_wp2
          go_ret3
          exact ⟨_, by rw [HX.out]; rfl, HBw.out, fun _ => HOW.out.form_⟩
theorem rsizes_any (P : List Vo.Pc) (v : Value) (B : Nat) (w : World) (hv : Lv pK w B v P) (hB : B ≤ w.heap.size) :
    Calls Try.prog 67 #[.agg #[v]] w (IsSizes P w) :=
  (rsizes_full P v B w hv hB).mono fun _ _ ⟨u, h1, h2, _⟩ => ⟨u, h1, h2⟩
end Go.Proofs.Ytkialijipcbgkaa
namespace Go.Proofs.Ytkialijipcbgkaa
set_option linter.unusedVariables false

namespace Vo
def expandE (P : List Pc) (t : Int) : List Nat × Nat := if May P then (if t < 0 ∨ (P.length : Int) ≤ t then ([], 2) else (text P t.toNat, 0)) else ([], 11)
/-- The first token that is this byte. -/
def tokenOf (P : List Pc) (c : Nat) : Nat := P.findIdx (fun q => !q.join && q.byte == c)
def byteE (P : List Pc) (c : Nat) : Nat × Nat := if May P then (tokenOf P c, 0) else (0, 11)
end Vo
namespace Vo
theorem good_app {l : List Pc} {x : Pc} (h : Good (l ++ [x])) : Good l ∧ errAt l x = 0 := by
  constructor
  · have := h.take l.length
    rwa [List.take_left] at this
  · have := h l.length x (by simp)
    rwa [List.take_left] at this
/-- The bytes that are there. -/
def theBytes (P : List Pc) : List Nat := (P.filter (fun q => !q.join)).map (fun q => q.byte)
theorem theBytes_mem {P : List Pc} {b : Nat} : b ∈ theBytes P ↔ ∃ q ∈ P, q.join = false ∧ q.byte = b := by
  simp [theBytes, and_assoc]
theorem theBytes_nodup {P : List Pc} (h : Good P) : (theBytes P).Nodup := by
  revert h
  refine snoc_ind (C := fun P => Good P → (theBytes P).Nodup) (by simp [theBytes]) (fun l x ih h => ?_) P
  obtain ⟨h1, h2⟩ := good_app h
  have hl := ih h1
  cases hj : x.join with
  | true => simpa [theBytes, hj] using hl
  | false =>
    have e : theBytes (l ++ [x]) = theBytes l ++ [x.byte] := by simp [theBytes, hj]
    rw [e, List.nodup_append]
    refine ⟨hl, by simp, ?_⟩
    intro a ha b hb
    simp at hb
    subst hb
    intro e2
    subst e2
    obtain ⟨_, _, _, h6⟩ := errAt_byte hj h2
    obtain ⟨q, hq, hqj, hqb⟩ := theBytes_mem.1 ha
    have : hasByte l x = true := by
      unfold hasByte
      rw [List.any_eq_true]
      exact ⟨q, hq, by simp [hqj, hqb]⟩
    rw [this] at h6
    cases h6
/-- Each byte is there. -/
theorem byte_there {P : List Pc} (h : May P) (hok : ∀ q ∈ P, q.byte < 256) {c : Nat} (hc : c < 256) : ∃ q ∈ P, q.join = false ∧ q.byte = c := by
  obtain ⟨_, hg, hm⟩ := may_iff.1 h
  rw [← theBytes_mem]
  by_cases hin : c ∈ theBytes P
  · exact hin
  · have := List.Nodup.length_le_of_subset (l₁ := c :: theBytes P) (l₂ := List.range 256) (List.nodup_cons.2 ⟨hin, theBytes_nodup hg⟩) (by
      intro y hy
      rcases List.mem_cons.1 hy with rfl | hy
      · exact List.mem_range.2 hc
      · obtain ⟨q, hq, _, rfl⟩ := theBytes_mem.1 hy
        exact List.mem_range.2 (hok q hq))
    rw [List.length_range, List.length_cons] at this
    have e : (theBytes P).length = bytesOf P := by simp [theBytes, bytesOf]
    omega
theorem tokenOf_lt {P : List Pc} (h : May P) (hok : ∀ q ∈ P, q.byte < 256) {c : Nat} (hc : c < 256) : tokenOf P c < P.length := by
  obtain ⟨q, hq, hj, hb⟩ := byte_there h hok hc
  exact List.findIdx_lt_length_of_exists ⟨q, hq, by simp [hj, hb]⟩
theorem first_not {P : List Pc} {f : Pc → Bool} {k : Nat} {q : Pc} (h : k < P.findIdx f) (hq : P[k]? = some q) : f q = false := by
  have hk : k < P.length := (List.getElem?_eq_some_iff.1 hq).1
  have h2 := List.not_of_lt_findIdx h
  rw [List.getElem?_eq_getElem hk] at hq
  rw [Option.some.inj hq] at h2
  simpa using h2
theorem first_is {P : List Pc} {f : Pc → Bool} {q : Pc} (hq : P[P.findIdx f]? = some q) : f q = true := by
  have hk : P.findIdx f < P.length := (List.getElem?_eq_some_iff.1 hq).1
  have h2 := List.findIdx_getElem (w := hk)
  rw [List.getElem?_eq_getElem hk] at hq
  rwa [Option.some.inj hq] at h2
theorem first_le {P : List Pc} {f : Pc → Bool} : P.findIdx f ≤ P.length := List.findIdx_le_length
/-- The first join of these two. -/
def joinOf (P : List Pc) (l r : Int) : Nat := P.findIdx (fun q => q.join && q.left == l && q.right == r)
def findE (P : List Pc) (l r : Int) : Nat × Bool := if joinOf P l r < P.length then (joinOf P l r, true) else (0, false)
end Vo
end Go.Proofs.Ytkialijipcbgkaa
