/-
  stookref08.seen: what stood ahead of a piece: its memory, and the function byte.
-/
import Derived.Test.YtgkmlcghkkpgpaaKPiece
import Derived.Test.YtgkmlcghkkpgpaaLAns
import Derived.Test.YtgkmlcghkkpgpaaMem
import Derived.Deep.QuietTactic
import Derived.BigQuiet
import Derived.BigRegion
namespace Go.Proofs.Ytgkmlcghkkpgpaa
open Go.RowKit
set_option linter.unusedVariables false

/-- The cells of a seen. -/
def seenCells (v : Value) (bs : List Bool) (m : Nat) : List Value := v :: (bs.map Value.bool ++ [.int .i64 (m : Nat)])
/-- A seen at block sb: its list of sizes (an own slice), its bytes, how many. -/
structure SeenR (w : World) (sb base : Nat) (v : Value) (sz : List Int) (bs : List Bool) (m : Nat) : Prop where
  head : w.heap[sb]? = some (.cells (seenCells v bs m).toArray 85 (0, 0))
  len : bs.length = 256
  own : OwnL iK w base v sz
  apart : v.ownBlock ≠ some sb
  low : base ≤ sb

section
variable {w w' : World} {sb base m : Nat} {v v' : Value} {sz sz' : List Int} {bs : List Bool}
theorem SeenR.slice_ (h : SeenR w sb base v sz bs m) : w.cell? ⟨sb, 0, none⟩ = some v := by
  rw [cell_of_row _ sb 0 _ _ _ h.head]; rfl
theorem SeenR.bool_ (h : SeenR w sb base v sz bs m) {b : Nat} {t : Bool} (hb : bs[b]? = some t) : w.cell? ⟨sb, 1 + b, none⟩ = some (.bool t) := by
  have hlt := (List.getElem?_eq_some_iff.1 hb).1
  rw [cell_of_row _ sb (1 + b) _ _ _ h.head, List.getElem?_toArray, seenCells, Nat.add_comm, List.getElem?_cons_succ, List.getElem?_append_left (by simpa using hlt), List.getElem?_map, hb]; rfl
theorem SeenR.many_ (h : SeenR w sb base v sz bs m) : w.cell? ⟨sb, 257, none⟩ = some (.int .i64 (m : Nat)) := by
  rw [cell_of_row _ sb 257 _ _ _ h.head, List.getElem?_toArray, seenCells, List.getElem?_cons_succ, List.getElem?_append_right (by simp [h.len])]
  simp [h.len]
theorem SeenR.cool_ (h : SeenR w sb base v sz bs m) (j : Nat) : w.frozen? ⟨sb, j, none⟩ = false := frozen_of_row w sb j _ _ h.head
theorem SeenR.lt_ (h : SeenR w sb base v sz bs m) : sb < w.heap.size := (Array.getElem?_eq_some_iff.1 h.head).1
theorem SeenR.alloc_ (h : SeenR w sb base v sz bs m) (o : Obj) : SeenR (w.alloc o) sb base v sz bs m :=
  ⟨(heap_alloc_old w o h.lt_).trans h.head, h.len, h.own.alloc_ o, h.apart, h.low⟩
theorem SeenR.drewN_ (h : SeenR w sb base v sz bs m) (n : Nat) : SeenR (w.drewN n) sb base v sz bs m := ⟨h.head, h.len, h.own, h.apart, h.low⟩
theorem SeenR.drew_ (h : SeenR w sb base v sz bs m) : SeenR w.drew sb base v sz bs m := ⟨h.head, h.len, h.own, h.apart, h.low⟩
theorem seen_set_bool (v : Value) (bs : List Bool) (m : Nat) {b : Nat} (hb : b < bs.length) (t : Bool) : (seenCells v bs m).set (1 + b) (.bool t) = seenCells v (bs.set b t) m := by
  unfold seenCells
  rw [Nat.add_comm, List.set_cons_succ, List.set_append_left _ _ (by simpa using hb), ← List.map_set]
theorem seen_set_many (v : Value) (bs : List Bool) (m m' : Nat) (hb : bs.length = 256) : (seenCells v bs m).set 257 (.int .i64 (m' : Nat)) = seenCells v bs m' := by
  unfold seenCells
  rw [List.set_cons_succ, List.set_append_right _ _ (by simp [hb])]
  simp [hb]
theorem seen_set_slice (v v' : Value) (bs : List Bool) (m : Nat) : (seenCells v bs m).set 0 v' = seenCells v' bs m := rfl
theorem SeenR.other_ (h : SeenR w sb base v sz bs m) (j : Nat) (u : Value) : OwnL iK (w.setCell ⟨sb, j, none⟩ u) base v sz :=
  h.own.of_block (fun k hk => heap_setCell_other w ⟨sb, j, none⟩ k u (fun e => h.apart (by rw [hk, e])))
theorem SeenR.setBool_ (h : SeenR w sb base v sz bs m) {b : Nat} (hb : b < 256) (t : Bool) : SeenR (w.setCell ⟨sb, 1 + b, none⟩ (.bool t)) sb base v sz (bs.set b t) m := by
  refine ⟨?_, by rw [List.length_set]; exact h.len, h.other_ _ _, h.apart, h.low⟩
  rw [heap_setCell_same w sb _ _ _ _ h.head, ← seen_set_bool v bs m (by rw [h.len]; exact hb) t]
  simp
theorem SeenR.setMany_ (h : SeenR w sb base v sz bs m) (m' : Nat) : SeenR (w.setCell ⟨sb, 257, none⟩ (.int .i64 (m' : Nat))) sb base v sz bs m' := by
  refine ⟨?_, h.len, h.other_ _ _, h.apart, h.low⟩
  rw [heap_setCell_same w sb _ _ _ _ h.head, ← seen_set_many v bs m m' h.len]
  simp
/-- What append turned leaves the seen's own block. -/
theorem SeenR.grown_ (h : SeenR w sb base v sz bs m) (hg : w.grownBy w' v.ownBlock) : w'.cell? ⟨sb, 0, none⟩ = some v ∧ w'.frozen? ⟨sb, 0, none⟩ = false := by
  have hh := (hg.block sb h.lt_ (fun e => h.apart e.symm)).trans h.head
  exact ⟨by rw [cell_of_row _ sb 0 _ _ _ hh]; rfl, frozen_of_row w' sb 0 _ _ hh⟩
/-- The list of sizes is had anew. -/
theorem SeenR.setSlice_ (h : SeenR w sb base v sz bs m) (hg : w.grownBy w' v.ownBlock) (ho : OwnL iK w' base v' sz') (hm : Moved w v v') : SeenR (w'.setCell ⟨sb, 0, none⟩ v') sb base v' sz' bs m := by
  have hap : v'.ownBlock ≠ some sb := fun e => by
    rcases hm sb e with h1 | h1
    · exact h.apart h1
    · have := h.lt_; omega
  have hh := (hg.block sb h.lt_ (fun e => h.apart e.symm)).trans h.head
  refine ⟨?_, h.len, ho.of_block (fun k hk => heap_setCell_other w' ⟨sb, 0, none⟩ k v' (fun e => hap (by rw [hk, e]))), hap, h.low⟩
  rw [heap_setCell_same w' sb 0 _ _ _ hh]
  simp [seenCells]
end

namespace Vo
/-- Which bytes are there. -/
def bits (D : List Pc) : List Bool := (List.range 256).map (fun b => D.any (fun q => !q.join && q.byte == b))
def sizes (D : List Pc) : List Int := (texts D).map (fun t => (t.length : Int))
theorem bits_len (D : List Pc) : (bits D).length = 256 := by simp [bits]
theorem bits_at {D : List Pc} {b : Nat} (h : b < 256) : (bits D)[b]? = some (D.any (fun q => !q.join && q.byte == b)) := by simp [bits, h]
theorem bits_byte {D : List Pc} {p : Pc} (hj : p.join = false) (h : p.byte < 256) : bits (D ++ [p]) = (bits D).set p.byte true := by
  refine List.ext_getElem? fun j => ?_
  rw [List.getElem?_set, bits_len]
  by_cases hj2 : j < 256
  · rw [bits_at hj2, List.any_append]
    by_cases e : p.byte = j
    · subst e; simp [hj, h]
    · rw [if_neg e, bits_at hj2]
      simp [hj, e]
  · rw [List.getElem?_eq_none (by rw [bits_len]; omega), if_neg (by omega), List.getElem?_eq_none (by rw [bits_len]; omega)]
theorem bits_join {D : List Pc} {p : Pc} (hj : p.join = true) : bits (D ++ [p]) = bits D := by
  unfold bits
  simp [hj]
theorem bytesOf_byte {D : List Pc} {p : Pc} (hj : p.join = false) : bytesOf (D ++ [p]) = bytesOf D + 1 := by simp [bytesOf, hj]
theorem bytesOf_join {D : List Pc} {p : Pc} (hj : p.join = true) : bytesOf (D ++ [p]) = bytesOf D := by simp [bytesOf, hj]
theorem sizes_snoc (D : List Pc) (p : Pc) : sizes (D ++ [p]) = sizes D ++ [((tx (texts D) p).length : Int)] := by simp [sizes, texts_snoc]
theorem sizes_len (D : List Pc) : (sizes D).length = D.length := by simp [sizes, texts_len]
theorem sizes_byte {D : List Pc} {p : Pc} (hj : p.join = false) : sizes (D ++ [p]) = sizes D ++ [1] := by
  rw [sizes_snoc, tx, if_neg (by rw [hj]; simp)]; rfl
theorem bytesOf_le (D : List Pc) : bytesOf D ≤ D.length := List.length_filter_le _ _
theorem hasByte_bits {D : List Pc} {p : Pc} : hasByte D p = D.any (fun q => !q.join && q.byte == p.byte) := rfl
end Vo

/-- A seen behind the pieces D. -/
def SeenAt (w : World) (sb base : Nat) (D : List Vo.Pc) : Prop := ∃ v, SeenR w sb base v (Vo.sizes D) (Vo.bits D) (Vo.bytesOf D)
/-- What byte and join answer. -/
def IsSeen (sb base : Nat) (D : List Vo.Pc) (p : Vo.Pc) (w : World) (e : Ending) (w' : World) : Prop :=
  e = .returned (.int .i64 (Vo.errAt D p : Nat)) ∧ SeenAt w' sb base (if Vo.errAt D p = 0 then D ++ [p] else D) ∧ Below base w w'
theorem IsSeen.bad {sb base : Nat} {D : List Vo.Pc} {p : Vo.Pc} {w w' : World} {x : Int} {n : Nat} (h : Vo.errAt D p = n) (hn : n ≠ 0) (hx : x = (n : Int)) (hs : SeenAt w' sb base D) (hb : Below base w w') : IsSeen sb base D p w (.returned (.int .i64 x)) w' := by
  subst hx
  exact ⟨by rw [h], by rw [h, if_neg hn]; exact hs, hb⟩

set_option maxHeartbeats 1000000 in
theorem rsbyte_any (sb base : Nat) (D : List Vo.Pc) (p : Vo.Pc) (w : World) (hp : PcOk p) (hj : p.join = false) (hD : D.length ≤ 4096) (hb : base ≤ w.heap.size) (h : SeenAt w sb base D) :
    Calls Try.prog 56 #[.pointer (some ⟨sb, 0, none⟩), pcV p] w (IsSeen sb base D p w) := by
  obtain ⟨j, b, l, r, k⟩ := p
  obtain ⟨hpb, hpl, hpr, hpk⟩ := hp
  simp only at hj hpb hpl hpr hpk
  subst hj
  obtain ⟨v, hv⟩ := h
  obtain ⟨A, c, rfl, _⟩ := hv.own.form_
  rw [Vo.sizes_len] at hv
  -- the parameter's box
  obtain ⟨o, ho⟩ : ∃ o : Obj, o = .cells #[.bool false, .int .u8 (b : Nat), .int .i64 l, .int .i64 r, .int .u32 (k : Nat)] 33 := ⟨_, rfl⟩
  obtain ⟨W, hW⟩ : ∃ W, w.alloc o = W := ⟨_, rfl⟩
  have hcell : ∀ (i : Nat) (u : Value), #[.bool false, .int .u8 (b : Nat), .int .i64 l, .int .i64 r, .int .u32 (k : Nat)][i]? = some u → W.cell? ⟨w.heap.size, i, none⟩ = some u := fun i u hi => by
    subst hW ho
    rw [cell_of_row _ w.heap.size i _ _ _ (heap_alloc_new w _)]
    exact hi
  have c1 := hcell 1 _ rfl
  have c2 := hcell 2 _ rfl
  have c3 := hcell 3 _ rfl
  have c4 := hcell 4 _ rfl
  have hvW : SeenR W sb base (.slice A D.length c) (Vo.sizes D) (Vo.bits D) (Vo.bytesOf D) := by rw [← hW]; exact hv.alloc_ _
  have hbW : Below base w W := by rw [← hW]; exact (Below.refl _ _).alloc hb _
  have hsW : base ≤ W.heap.size := Nat.le_trans hb hbW.size
  subst ho
  unfold pcV
  clear hcell
  by_cases hbad : l ≠ 0 ∨ r ≠ 0 ∨ k ≠ 0
  · have HX : Hid (Vo.errAt D ⟨false, b, l, r, k⟩ = 5) := by unfold Hid Vo.errAt; rw [if_neg (by simp), if_pos hbad]
    have HS := Lib.hid hvW
    have HB := Lib.hid hbW
    clear hvW hbW hv
    have fin : IsSeen sb base D ⟨false, b, l, r, k⟩ w (.returned (.int .i64 5)) W := IsSeen.bad HX.out (by decide) rfl ⟨_, HS.out⟩ HB.out
    have FIN := Lib.hid fin
    clear fin
    rcases Decidable.em (l = 0) with rfl | h1
    · rcases Decidable.em (r = 0) with rfl | h2
      · have h3 : ((k : Int) != 0) = true := by rw [bne_iff_ne]; omega
        clear hbad
        go_enter Try.func56, Try.ntmps56
        go_wp2
        go_ret
        exact FIN.out
      · have h3 : (r != 0) = true := by rw [bne_iff_ne]; exact h2
        clear hbad h2
        go_enter Try.func56, Try.ntmps56
        go_wp2
        go_ret
        exact FIN.out
    · have h3 : (l != 0) = true := by rw [bne_iff_ne]; exact h1
      clear hbad h1
      go_enter Try.func56, Try.ntmps56
      go_wp2
      go_ret
      exact FIN.out
  · obtain ⟨rfl, rfl, rfl⟩ : l = 0 ∧ r = 0 ∧ k = 0 := by omega
    clear hbad
    have hW0 : w.alloc (.cells #[.bool false, .int .u8 (b : Nat), .int .i64 0, .int .i64 0, .int .u32 0] 33) = W := hW
    have c40 : W.cell? ⟨w.heap.size, 4, none⟩ = some (.int .u32 0) := c4
    clear hW c4
    have hbit := hvW.bool_ (Vo.bits_at (D := D) hpb)
    have hbi : (b : Int) < 256 := by omega
    cases ht : Vo.hasByte D ⟨false, b, 0, 0, 0⟩ with
    | true =>
      have HX : Hid (Vo.errAt D ⟨false, b, 0, 0, 0⟩ = 8) := by unfold Hid Vo.errAt; rw [if_neg (by simp), if_neg (by simp), if_pos ht]
      rw [Vo.hasByte_bits] at ht
      simp only at ht
      rw [ht] at hbit
      have HS := Lib.hid hvW
      have HB := Lib.hid hbW
      clear ht hvW hbW hv
      go_enter Try.func56, Try.ntmps56
      go_wp2
      go_quiet (fail)
      go_wp2
      go_ret
      exact IsSeen.bad HX.out (by decide) rfl ⟨_, HS.out.drewN_ _⟩ (below_drewN HB.out _)
    | false =>
      have HX : Hid (Vo.errAt D ⟨false, b, 0, 0, 0⟩ = 0) := by unfold Hid Vo.errAt; rw [if_neg (by simp), if_neg (by simp), if_neg (by rw [ht]; simp)]
      rw [Vo.hasByte_bits] at ht
      simp only at ht
      rw [ht] at hbit
      have HS := Lib.hid hvW
      have HB := Lib.hid hbW
      clear ht hvW hbW hv
      go_enter Try.func56, Try.ntmps56
      go_wp2
      go_quiet (fail)
      generalize hW9 : W.drewN _ = w9
      have HS9 : Hid (SeenR w9 sb base (.slice A D.length c) (Vo.sizes D) (Vo.bits D) (Vo.bytesOf D)) := by unfold Hid; rw [← hW9]; exact HS.out.drewN_ _
      have HB9 : Hid (Below base w w9) := by unfold Hid; rw [← hW9]; exact below_drewN HB.out _
      have hc1 : w9.cell? ⟨w.heap.size, 1, none⟩ = some (.int .u8 (b : Nat)) := by rw [← hW9]; exact c1
      have hbit9 := HS9.out.bool_ (Vo.bits_at (D := D) hpb)
      have hcl := HS9.out.cool_ (1 + b)
      clear hW9 hW0 c1 c2 c3 c40 hbit
      go_wp2
      go_region
      obtain ⟨W2, hW2⟩ : ∃ W2, (w9.setCell ⟨sb, 1 + b, none⟩ (.bool true)).drew = W2 := ⟨_, rfl⟩
      have HS2 : Hid (SeenR W2 sb base (.slice A D.length c) (Vo.sizes D) ((Vo.bits D).set b true) (Vo.bytesOf D)) := by unfold Hid; rw [← hW2]; exact (HS9.out.setBool_ hpb true).drew_
      have HB2 : Hid (Below base w W2) := by unfold Hid; rw [← hW2]; exact (HB9.out.setCell (p := ⟨sb, 1 + b, none⟩) HS9.out.low _).drew
      obtain ⟨m, hm⟩ : ∃ m, Vo.bytesOf D = m := ⟨_, rfl⟩
      have HM := Lib.hid hm
      have hm2 : m ≤ 4096 := by rw [← hm]; exact Nat.le_trans (Vo.bytesOf_le D) hD
      rw [hm] at HS2
      have hcm := HS2.out.many_
      have hfm := HS2.out.cool_ 257
      obtain ⟨W3, hW3⟩ : ∃ W3, W2.setCell ⟨sb, 257, none⟩ (.int .i64 ((m : Int) + 1)) = W3 := ⟨_, rfl⟩
      have HS3 : Hid (SeenR W3 sb base (.slice A D.length c) (Vo.sizes D) ((Vo.bits D).set b true) (m + 1)) := by unfold Hid; rw [← hW3]; exact HS2.out.setMany_ (m + 1)
      have HB3 : Hid (Below base w W3) := by unfold Hid; rw [← hW3]; exact HB2.out.setCell (p := ⟨sb, 257, none⟩) HS2.out.low _
      have hc0 := HS3.out.slice_
      have hI : I64 (1 : Int) := by unfold I64; omega
      have HL : Hid ((Vo.sizes D).length = D.length) := Vo.sizes_len D
      have hb3 : base ≤ W3.heap.size := Nat.le_trans hb HB3.out.size
      rw [hW2]
      clear hW2 hcl hbit9 hc1 hm HS9 HB9
      go_wp2_with (at_builtin; go_must (refine wpList_push_m _ iK rfl _ _ rfl base _ rfl (Vo.sizes D) HS3.out.own rfl (1 : Int) hI _ rfl _ rfl (by rw [HL.out]; show _ * 8 ≤ _; omega) (by rw [HL.out]; simp only [maxLen]; omega) hb3 ?_; intro A3 c3 w4 hA hG hM; have hc4 := (HS3.out.grown_ hG).1; have hf4 := (HS3.out.grown_ hG).2))
      have HS5 := HS3.out.setSlice_ hG hA hM
      have HB5 := (HB3.out.grown hG hb3 (fun k hk => (HS3.out.own.lt_ k hk).1)).setCell (p := ⟨sb, 0, none⟩) HS3.out.low (.slice A3 (D.length + 1) c3)
      rw [HL.out] at HS5 ⊢
      have HS6 := Lib.hid HS5
      have HB6 := Lib.hid HB5
      clear HS5 HB5 hA hG hM hc4 hf4
      go_wp2
      go_ret
      refine ⟨by rw [HX.out]; rfl, ?_, HB6.out⟩
      rw [HX.out, if_pos rfl]
      refine ⟨.slice A3 (D.length + 1) c3, ?_⟩
      rw [Vo.sizes_byte rfl, Vo.bits_byte rfl hpb, Vo.bytesOf_byte rfl, HM.out]
      exact HS6.out
end Go.Proofs.Ytgkmlcghkkpgpaa
