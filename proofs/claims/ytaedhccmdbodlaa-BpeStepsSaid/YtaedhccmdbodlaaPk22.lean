/-
  BqMem: bpe.row: a row while its pairs are joined: its memory; goesFirst.
  BqZero: A great row of zeros: its cells, told in halves of halves.
  BqNewM: bpe.newRow's mathematics: a row of tokens between two that are none; the places ahead and behind.
-/
import Derived.Test.YtaedhccmdbodlaaPk15
import Derived.Test.YtaedhccmdbodlaaPk12
import Derived.Test.YtaedhccmdbodlaaPk06
import Derived.Test.YtaedhccmdbodlaaPk17
import Derived.Test.YtaedhccmdbodlaaPk21
import Derived.Test.YtaedhccmdbodlaaPk07
import Derived.Test.YtaedhccmdbodlaaProg
import Derived.WalkKit
import Derived.Laws.CopyOwn
namespace Go.Proofs.Ytaedhccmdbodlaa
open Go.RowKit Go.Maps
set_option linter.unusedVariables false

namespace Bp
open Vo (Pc)
/-- The joins of a vocabulary that may be. -/
theorem jn_grows {P : List Pc} (hg : Vo.Good P) : Grows (jn P) where
  up := by
    intro x y t r h
    obtain ⟨T, q, rfl, hq, hj, rfl, rfl, -, -⟩ := jn_some h
    have hl := (List.getElem?_eq_some_iff.1 hq).1
    have he := (Vo.errAt_join hj (hg T q hq))
    have hlen : (P.take T).length = T := by rw [List.length_take]; omega
    have := he.2
    rw [hlen] at this
    omega
  inj := fun h h' => (jn_rank hg h h').2
end Bp

def mpJ : MpK Try.prog (Int × Int) (Int × Nat) := mpTwo 71 75 3 77 .i64 .i64 .u32 Try.underlying71 pair_arr Try.underlying3 pair_size pair_law (fun w => by kernel_rfl)

/-- The order of the queue. -/
theorem less_pairs (w : World) (F : Nat → Prop) : Less prV PrOk 50 #[] Bp.ltP w F := by
  refine ⟨enters_of Try.func50 (by kernel_rfl) rfl, ?_⟩
  rintro ⟨a1, a2, a3, a4, a5, a6⟩ ⟨b1, b2, b3, b4, b5, b6⟩ ha hb w' _
  show Calls Try.prog _ #[.agg #[.int .i64 a1, .int .i64 a2, .int .i64 a3, .int .i64 a4, .int .i64 a5, .int .u32 (a6 : Nat)], .agg #[.int .i64 b1, .int .i64 b2, .int .i64 b3, .int .i64 b4, .int .i64 b5, .int .u32 (b6 : Nat)]] w' _
  clear ha hb
  by_cases h : a6 = b6
  · subst h
    have HX : Hid (Bp.ltP ⟨a1, a2, a3, a4, a5, a6⟩ ⟨b1, b2, b3, b4, b5, a6⟩ = decide (a3 < b3)) := by unfold Hid Bp.ltP Bp.ltW; simp
    have hne : ((a6 : Int) != (a6 : Int)) = false := by simp
    go_enter Try.func50, Try.ntmps50
    go_wp2
    go_ret
    exact ⟨by rw [HX.out]; rfl, ((Below.refl _ _).alloc (Nat.le_refl _) _).alloc (by simp) _⟩
  · have HX : Hid (Bp.ltP ⟨a1, a2, a3, a4, a5, a6⟩ ⟨b1, b2, b3, b4, b5, b6⟩ = decide (a6 < b6)) := by
      unfold Hid Bp.ltP Bp.ltW
      rw [decide_eq_decide]
      simp only
      omega
    have hne : ((a6 : Int) != (b6 : Int)) = true := by rw [bne_iff_ne]; omega
    go_enter Try.func50, Try.ntmps50
    go_wp2
    go_ret
    exact ⟨by rw [HX.out]; rfl, ((Below.refl _ _).alloc (Nat.le_refl _) _).alloc (by simp) _⟩

/-- The cells of a row: what stands at the places, the places ahead, the places behind, the joins, what waits. -/
def rowC (T A N : List Int) (mb qb : Nat) : List Value := (T ++ (A ++ N)).map (.int .i64) ++ [.map (some mb), .pointer (some ⟨qb, 0, none⟩)]
/-- A row at block rb. -/
structure RowQ (w : World) (rb : Nat) (T A N : List Int) (mb qb : Nat) : Prop where
  head : w.heap[rb]? = some (.cells (rowC T A N mb qb).toArray 83 (0, 0))
  lt : T.length = 4098
  la : A.length = 4098
  ln : N.length = 4098
  ok : ∀ x ∈ T, I64 x
section
variable {w w' : World} {rb mb qb i : Nat} {T A N : List Int} {x : Int}
theorem RowQ.lt_ (h : RowQ w rb T A N mb qb) : rb < w.heap.size := (Array.getElem?_eq_some_iff.1 h.head).1
theorem RowQ.block_ (h : RowQ w rb T A N mb qb) (hb : w'.heap[rb]? = w.heap[rb]?) : RowQ w' rb T A N mb qb := ⟨hb.trans h.head, h.lt, h.la, h.ln, h.ok⟩
theorem RowQ.cool_ (h : RowQ w rb T A N mb qb) (j : Nat) : w.frozen? ⟨rb, j, none⟩ = false := frozen_of_row w rb j _ _ h.head
theorem RowQ.int_ (h : RowQ w rb T A N mb qb) {j : Nat} (hx : (T ++ (A ++ N))[j]? = some x) : w.cell? ⟨rb, j, none⟩ = some (.int .i64 x) := by
  have hl := (List.getElem?_eq_some_iff.1 hx).1
  rw [cell_of_row _ rb j _ _ _ h.head, List.getElem?_toArray, rowC, List.getElem?_append_left (by simpa using hl), List.getElem?_map, hx]
  rfl
theorem RowQ.tok_ (h : RowQ w rb T A N mb qb) (hx : T[i]? = some x) : w.cell? ⟨rb, i, none⟩ = some (.int .i64 x) := by
  have hl := (List.getElem?_eq_some_iff.1 hx).1
  exact h.int_ (by rw [List.getElem?_append_left hl]; exact hx)
theorem RowQ.ahead_ (h : RowQ w rb T A N mb qb) (hx : A[i]? = some x) : w.cell? ⟨rb, 4098 + i, none⟩ = some (.int .i64 x) := by
  have hl := (List.getElem?_eq_some_iff.1 hx).1
  refine h.int_ ?_
  rw [List.getElem?_append_right (by rw [h.lt]; omega), h.lt, Nat.add_sub_cancel_left, List.getElem?_append_left hl]
  exact hx
theorem RowQ.behind_ (h : RowQ w rb T A N mb qb) (hx : N[i]? = some x) : w.cell? ⟨rb, 8196 + i, none⟩ = some (.int .i64 x) := by
  refine h.int_ ?_
  rw [List.getElem?_append_right (by rw [h.lt]; omega), h.lt, List.getElem?_append_right (by rw [h.la]; omega), h.la, show 8196 + i - 4098 - 4098 = i by omega]
  exact hx
theorem row_tail (hT : T.length = 4098) (hA : A.length = 4098) (hN : N.length = 4098) (j : Nat) : (rowC T A N mb qb).toArray[12294 + j]? = [Value.map (some mb), .pointer (some ⟨qb, 0, none⟩)][j]? := by
  have hl : ((T ++ (A ++ N)).map (Value.int .i64)).length = 12294 := by simp [hT, hA, hN]
  rw [List.getElem?_toArray, rowC, List.getElem?_append_right (by rw [hl]; omega), hl, Nat.add_sub_cancel_left]
theorem RowQ.map_ (h : RowQ w rb T A N mb qb) : w.cell? ⟨rb, 12294, none⟩ = some (.map (some mb)) := by
  rw [cell_of_row _ rb 12294 _ _ _ h.head, row_tail h.lt h.la h.ln 0]; rfl
theorem RowQ.queue_ (h : RowQ w rb T A N mb qb) : w.cell? ⟨rb, 12295, none⟩ = some (.pointer (some ⟨qb, 0, none⟩)) := by
  rw [cell_of_row _ rb 12295 _ _ _ h.head, row_tail h.lt h.la h.ln 1]; rfl
theorem row_set (hi : i < (T ++ (A ++ N)).length) (x : Int) : (rowC T A N mb qb).set i (.int .i64 x) = ((T ++ (A ++ N)).set i x).map (.int .i64) ++ [.map (some mb), .pointer (some ⟨qb, 0, none⟩)] := by
  unfold rowC
  rw [List.set_append_left _ _ (by simpa using hi), ← List.map_set]
theorem RowQ.setTok_ (h : RowQ w rb T A N mb qb) (hi : i < 4098) {x : Int} (hx : I64 x) : RowQ (w.setCell ⟨rb, i, none⟩ (.int .i64 x)) rb (T.set i x) A N mb qb := by
  refine ⟨?_, by rw [List.length_set]; exact h.lt, h.la, h.ln, fun y hy => ?_⟩
  · rw [heap_setCell_same w rb i _ _ _ h.head, List.setIfInBounds_toArray, row_set (by simp [h.lt, h.la, h.ln]; omega), List.set_append_left _ _ (by rw [h.lt]; exact hi)]
    rfl
  · rcases List.mem_or_eq_of_mem_set hy with h1 | h1
    · exact h.ok y h1
    · rw [h1]; exact hx
theorem RowQ.setAhead_ (h : RowQ w rb T A N mb qb) (hi : i < 4098) (x : Int) : RowQ (w.setCell ⟨rb, 4098 + i, none⟩ (.int .i64 x)) rb T (A.set i x) N mb qb := by
  refine ⟨?_, h.lt, by rw [List.length_set]; exact h.la, h.ln, h.ok⟩
  rw [heap_setCell_same w rb _ _ _ _ h.head, List.setIfInBounds_toArray, row_set (by simp [h.lt, h.la, h.ln]; omega), List.set_append_right _ _ (by rw [h.lt]; omega), h.lt, Nat.add_sub_cancel_left, List.set_append_left _ _ (by rw [h.la]; exact hi)]
  rfl
theorem RowQ.setBehind_ (h : RowQ w rb T A N mb qb) (hi : i < 4098) (x : Int) : RowQ (w.setCell ⟨rb, 8196 + i, none⟩ (.int .i64 x)) rb T A (N.set i x) mb qb := by
  refine ⟨?_, h.lt, h.la, by rw [List.length_set]; exact h.ln, h.ok⟩
  rw [heap_setCell_same w rb _ _ _ _ h.head, List.setIfInBounds_toArray, row_set (by simp [h.lt, h.la, h.ln]; omega), List.set_append_right _ _ (by rw [h.lt]; omega), h.lt, List.set_append_right _ _ (by rw [h.la]; omega), h.la, show 8196 + i - 4098 - 4098 = i by omega]
  rfl
theorem RowQ.drew_ (h : RowQ w rb T A N mb qb) : RowQ w.drew rb T A N mb qb := h.block_ rfl
end
/-- A row with its joins and its queue: what waits, how many came to wait; the blocks of both are told. -/
def RowT (w : World) (rb mb qb base : Nat) (F : Nat → Prop) (J : Int → Int → Option (Int × Nat)) (T A N : List Int) (S : List Pr) (m : Nat) : Prop :=
  ∃ (k : Nat), RowQ w rb T A N mb qb ∧ IsMp mpJ w mb k (fun x => J x.1 x.2) ∧ IsQP w F qb 50 #[] Bp.ltP S m ∧ ¬ F rb ∧ ¬ F mb ∧ base ≤ rb ∧ base ≤ mb ∧ ∀ j, F j → base ≤ j
/-- A row with its joins and its queue. -/
def RowS (w : World) (rb base : Nat) (J : Int → Int → Option (Int × Nat)) (T A N : List Int) (S : List Pr) (m : Nat) : Prop :=
  ∃ (mb qb : Nat) (F : Nat → Prop), RowT w rb mb qb base F J T A N S m
/-- How long a slice is. -/
def lenV : Value → Nat
  | .slice _ n _ => n
  | _ => 0
section
variable {w w' : World} {rb base m : Nat} {J : Int → Int → Option (Int × Nat)} {T A N : List Int} {S : List Pr}
section
variable {mb qb : Nat} {F G : Nat → Prop}
theorem RowT.row_ (h : RowT w rb mb qb base F J T A N S m) : RowQ w rb T A N mb qb := by
  obtain ⟨k, h1, -⟩ := h
  exact h1
theorem RowT.mlt_ (h : RowT w rb mb qb base F J T A N S m) : mb < w.heap.size := by
  obtain ⟨k, -, h1, -⟩ := h
  exact h1.lt_
theorem RowT.flt_ (h : RowT w rb mb qb base F J T A N S m) : ∀ j, F j → j < w.heap.size := by
  obtain ⟨k, -, -, h1, -⟩ := h
  exact h1.lt_
theorem RowT.turned_ (h : RowT w rb mb qb base F J T A N S m) (ht : Turned G w w') (h1 : ¬ G rb) (h2 : ¬ G mb) (h3 : ∀ j, j < w.heap.size → F j → ¬ G j) : RowT w' rb mb qb base F J T A N S m := by
  obtain ⟨k, g1, g2, g3, g4, g5, g6, g7, g8⟩ := h
  exact ⟨k, g1.block_ (ht.block rb g1.lt_ h1), g2.of_block (ht.block mb g2.lt_ h2), g3.turned_ ht h3, g4, g5, g6, g7, g8⟩
theorem RowT.to_ (h : RowT w rb mb qb base F J T A N S m) (hb : Below w.heap.size w w') : RowT w' rb mb qb base F J T A N S m :=
  h.turned_ (Turned.of_below hb) (by have := h.row_.lt_; omega) (by have := h.mlt_; omega) (fun j hj _ hk => by omega)
/-- What waits stands in its order. -/
theorem RowT.order_ (h : RowT w rb mb qb base F J T A N S m) : Qu.Row Bp.ltP S := by
  obtain ⟨k, -, -, ⟨A0, n, c, A, -, -, -, -, h5, -⟩, -⟩ := h
  exact h5.row
/-- The first of those that wait goes out. -/
theorem ppop_row (h : RowT w rb mb qb base F J T A N S m) (hm : m ≤ 4194304) :
    Calls Try.prog 52 #[.pointer (some ⟨qb, 0, none⟩)] w (fun e w' => e = .returned (.tuple #[prV (S.headD (⟨0, 0, 0, 0, 0, 0⟩ : Pr)), .bool (!S.isEmpty)]) ∧ ∃ F' : Nat → Prop, RowT w' rb mb qb base F' J T A N S.tail m ∧ Turned F w w' ∧ ∀ j, F' j → F j ∨ w.heap.size ≤ j) := by
  have hmlt := h.mlt_
  obtain ⟨k, h1, h2, h3, h4, h5, h6, h7, h8⟩ := h
  refine (ppopP h3 Bp.ltP_order (less_pairs _ _) hm).mono ?_
  rintro e w' ⟨he, F', hq, ht, hF⟩
  have hbs : base ≤ w.heap.size := by omega
  refine ⟨he, F', ⟨k, h1.block_ (ht.block rb h1.lt_ h4), h2.of_block (ht.block mb h2.lt_ h5), hq, fun h => ?_, fun h => ?_, h6, h7, fun j h => ?_⟩, ht, hF⟩
  · rcases hF rb h with h | h
    · exact h4 h
    · have := h1.lt_
      omega
  · rcases hF mb h with h | h
    · exact h5 h
    · omega
  · rcases hF j h with h | h
    · exact h8 j h
    · omega
end
theorem RowS.to_ (h : RowS w rb base J T A N S m) (hb : Below w.heap.size w w') : RowS w' rb base J T A N S m := by
  obtain ⟨mb, qb, F, h⟩ := h
  exact ⟨mb, qb, F, h.to_ hb⟩
theorem RowS.lt_ (h : RowS w rb base J T A N S m) : rb < w.heap.size := by
  obtain ⟨mb, qb, F, k, h1, -⟩ := h
  exact h1.lt_
theorem RowS.len_ (h : RowS w rb base J T A N S m) : T.length = 4098 ∧ A.length = 4098 ∧ N.length = 4098 := by
  obtain ⟨mb, qb, F, k, h1, -⟩ := h
  exact ⟨h1.lt, h1.la, h1.ln⟩
end
end Go.Proofs.Ytaedhccmdbodlaa
namespace Go.Proofs.Ytaedhccmdbodlaa
open Go.RowKit
set_option linter.unusedVariables false

namespace Zc
def isZ (v : Value) : Bool := match v with
  | .int k x => (match k with | .i64 => true | _ => false) && (match x with | .ofNat n => Nat.beq n 0 | .negSucc _ => false)
  | _ => false
theorem isZ_eq {v : Value} (h : isZ v = true) : v = .int .i64 0 := by
  unfold isZ at h
  split at h
  · rename_i k x
    rw [Bool.and_eq_true] at h
    obtain ⟨h1, h2⟩ := h
    split at h1
    · split at h2
      · rename_i n
        have := Nat.eq_of_beq_eq_true h2
        subst this
        rfl
      · cases h2
    · cases h1
  · cases h
/-- One zero, and what stands behind it. -/
def one (l : List Value) : Option (List Value) := match l with
  | [] => none
  | a :: r => bif isZ a then some r else none
def twice (f : List Value → Option (List Value)) (l : List Value) : Option (List Value) := match f l with
  | none => none
  | some r => f r
/-- Of so many zeros it tells what stands behind them. -/
def Tells (f : List Value → Option (List Value)) (n : Nat) : Prop := ∀ l r, f l = some r → l = List.replicate n (.int .i64 0) ++ r
theorem one_tells : Tells one 1 := by
  intro l r h
  unfold one at h
  split at h
  · cases h
  · rename_i a r'
    cases ha : isZ a with
    | false => rw [ha] at h; cases h
    | true =>
      rw [ha] at h
      cases h
      rw [isZ_eq ha]
      rfl
theorem Tells.twice {f : List Value → Option (List Value)} {n : Nat} (h : Tells f n) : Tells (twice f) (n + n) := by
  intro l r he
  unfold Zc.twice at he
  split at he
  · cases he
  · rename_i r' h1
    rw [h l r' h1, h r' r he, ← List.append_assoc, List.replicate_append_replicate]
def two := twice one
def b2 := twice two
def b3 := twice b2
def b4 := twice b3
def b5 := twice b4
def b6 := twice b5
def b7 := twice b6
def b8 := twice b7
def b9 := twice b8
def b10 := twice b9
def b11 := twice b10
def b12 := twice b11
def b13 := twice b12
theorem two_tells : Tells two 2 := one_tells.twice
theorem b2_tells : Tells b2 4 := two_tells.twice
theorem b12_tells : Tells b12 4096 := (((((((((b2_tells.twice).twice).twice).twice).twice).twice).twice).twice).twice).twice
theorem b13_tells : Tells b13 8192 := b12_tells.twice
/-- 8192 and 4096 and 4 and 2: 12294. -/
def all (l : List Value) : Option (List Value) := match b13 l with
  | none => none
  | some r => match b12 r with
    | none => none
    | some r => match b2 r with
      | none => none
      | some r => two r
theorem all_tells : Tells all 12294 := by
  intro l r he
  unfold all at he
  split at he
  · cases he
  · rename_i r1 h1
    split at he
    · cases he
    · rename_i r2 h2
      split at he
      · cases he
      · rename_i r3 h3
        rw [b13_tells _ _ h1, b12_tells _ _ h2, b2_tells _ _ h3, two_tells _ _ he]
        rw [← List.append_assoc, ← List.append_assoc, ← List.append_assoc, List.replicate_append_replicate, List.replicate_append_replicate, List.replicate_append_replicate]
end Zc

theorem zero_all : Zc.all Try.zeroCells83.toList = some [Value.map none, Value.pointer none] := by kernel_rfl
theorem zero_cells_row : Try.zeroCells83 = (List.replicate 12294 (Value.int .i64 0) ++ [Value.map none, Value.pointer none]).toArray := by
  rw [← Zc.all_tells _ _ zero_all]
end Go.Proofs.Ytaedhccmdbodlaa
namespace Go.Proofs.Ytaedhccmdbodlaa
open Go.RowKit Go.Maps
set_option linter.unusedVariables false

namespace Bp
/-- The places ahead, the places behind, as far as the first k are laid. -/
def aTo : Nat → List Int
  | 0 => List.replicate 4098 0
  | k + 1 => (aTo k).set (k + 1) (k : Int)
def nTo : Nat → List Int
  | 0 => List.replicate 4098 0
  | k + 1 => (nTo k).set k ((k + 1 : Nat) : Int)
theorem aTo_nil : aTo 0 = List.replicate 4098 0 := by rw [aTo]
theorem nTo_nil : nTo 0 = List.replicate 4098 0 := by rw [nTo]
theorem aTo_len : ∀ k, (aTo k).length = 4098
  | 0 => List.length_replicate
  | k + 1 => by rw [aTo, List.length_set]; exact aTo_len k
theorem nTo_len : ∀ k, (nTo k).length = 4098
  | 0 => List.length_replicate
  | k + 1 => by rw [nTo, List.length_set]; exact nTo_len k
theorem aTo_zero : ∀ k, (aTo k)[0]? = some 0
  | 0 => by unfold aTo; rw [List.getElem?_replicate, if_pos (by omega)]
  | k + 1 => by rw [aTo, List.getElem?_set_ne (by omega)]; exact aTo_zero k
theorem aTo_at : ∀ k i, i < k → k ≤ 4097 → (aTo k)[i + 1]? = some (i : Int)
  | 0, i, h, _ => by omega
  | k + 1, i, h, hk => by
    rw [aTo]
    by_cases e : i = k
    · subst e
      rw [List.getElem?_set_self (by rw [aTo_len]; omega)]
    · rw [List.getElem?_set_ne (by omega)]
      exact aTo_at k i (by omega) (by omega)
theorem nTo_at : ∀ k i, i < k → k ≤ 4098 → (nTo k)[i]? = some ((i + 1 : Nat) : Int)
  | 0, i, h, _ => by omega
  | k + 1, i, h, hk => by
    rw [nTo]
    by_cases e : i = k
    · subst e
      rw [List.getElem?_set_self (by rw [nTo_len]; omega)]
    · rw [List.getElem?_set_ne (by omega)]
      exact nTo_at k i (by omega) (by omega)
theorem nTo_rest : ∀ k i, k ≤ i → i < 4098 → (nTo k)[i]? = some 0
  | 0, i, _, h => by unfold nTo; rw [List.getElem?_replicate, if_pos h]
  | k + 1, i, h, hi => by
    rw [nTo, List.getElem?_set_ne (by omega)]
    exact nTo_rest k i (by omega) hi
/-- The tokens between two that are none. -/
def ends (n : Nat) : List Int := ((List.replicate 4098 0).set 0 (-1)).set (n + 1) (-1)
def toksOf (l : List Int) : List Int := (ends l.length).take 1 ++ (l ++ (ends l.length).drop (1 + l.length))
theorem ends_len (n : Nat) : (ends n).length = 4098 := by unfold ends; rw [List.length_set, List.length_set, List.length_replicate]
theorem ends_zero (n : Nat) : (ends n)[0]? = some (-1) := by
  unfold ends
  rw [List.getElem?_set_ne (by omega), List.getElem?_set_self (by rw [List.length_replicate]; omega)]
theorem ends_last {n : Nat} (h : n ≤ 4096) : (ends n)[n + 1]? = some (-1) := by
  unfold ends
  rw [List.getElem?_set_self (by rw [List.length_set, List.length_replicate]; omega)]
theorem ends_ok (n : Nat) : ∀ x ∈ ends n, I64 x := by
  intro x hx
  unfold ends at hx
  rcases List.mem_or_eq_of_mem_set hx with h | rfl
  · rcases List.mem_or_eq_of_mem_set h with h | rfl
    · rw [List.eq_of_mem_replicate h]; unfold I64; omega
    · unfold I64; omega
  · unfold I64; omega
section
variable {l : List Int}
theorem toksOf_len (h : l.length ≤ 4096) : (toksOf l).length = 4098 := by
  unfold toksOf
  rw [List.length_append, List.length_append, List.length_take, List.length_drop, ends_len]
  omega
theorem take_one : ((ends l.length).take 1).length = 1 := by rw [List.length_take, ends_len]; omega
theorem toksOf_zero : at_ (toksOf l) 0 = -1 := by
  refine at_of ?_
  unfold toksOf
  rw [List.getElem?_append_left (by rw [take_one]; omega), List.getElem?_take, if_pos (by omega)]
  exact ends_zero _
theorem toksOf_at (i : Nat) (x : Int) (h : l[i]? = some x) : at_ (toksOf l) (i + 1) = x := by
  refine at_of ?_
  unfold toksOf
  rw [List.getElem?_append_right (by rw [take_one]; omega), take_one, Nat.add_sub_cancel, List.getElem?_append_left (List.getElem?_eq_some_iff.1 h).1]
  exact h
theorem toksOf_last (h : l.length ≤ 4096) : at_ (toksOf l) (l.length + 1) = -1 := by
  refine at_of ?_
  unfold toksOf
  rw [List.getElem?_append_right (by rw [take_one]; omega), take_one, Nat.add_sub_cancel, List.getElem?_append_right (Nat.le_refl _), Nat.sub_self, List.getElem?_drop, Nat.add_zero, Nat.add_comm]
  exact ends_last h
theorem toksOf_ok (hl : ∀ x ∈ l, I64 x) : ∀ x ∈ toksOf l, I64 x := by
  intro x hx
  unfold toksOf at hx
  rcases List.mem_append.1 hx with h | h
  · exact ends_ok _ x (List.mem_of_mem_take h)
  · rcases List.mem_append.1 h with h | h
    · exact hl x h
    · exact ends_ok _ x (List.mem_of_mem_drop h)
end
end Bp

/-- A row of zeros, with its joins and its queue. -/
theorem zero_row (mb qb : Nat) : (Try.zeroCells83.setIfInBounds 12294 (.map (some mb))).setIfInBounds 12295 (.pointer (some ⟨qb, 0, none⟩)) = (rowC (List.replicate 4098 0) (List.replicate 4098 0) (List.replicate 4098 0) mb qb).toArray := by
  rw [zero_cells_row, List.setIfInBounds_toArray, List.setIfInBounds_toArray]
  refine congrArg List.toArray ?_
  unfold rowC
  rw [List.replicate_append_replicate, List.replicate_append_replicate, List.map_replicate]
  have hl : (List.replicate 12294 (Value.int .i64 0)).length = 12294 := List.length_replicate
  have he : (4098 + (4098 + 4098) : Nat) = 12294 := rfl
  rw [he]
  generalize List.replicate 12294 (Value.int .i64 0) = z at hl ⊢
  rw [List.set_append_right _ _ (by omega), List.set_append_right _ _ (by omega), hl]
  rfl
/-- The tokens are copied between the two. -/
theorem row_copy (l : List Int) (hl : l.length ≤ 4096) (A N : List Int) (mb qb : Nat) : splice (rowC (Bp.ends l.length) A N mb qb) 1 (l.map (Value.int .i64)) = rowC (Bp.toksOf l) A N mb qb := by
  have h4 := Bp.ends_len l.length
  unfold splice rowC Bp.toksOf
  rw [List.length_map, List.map_append, List.map_append (l₁ := (Bp.ends l.length).take 1 ++ _)]
  rw [List.append_assoc, List.append_assoc]
  rw [List.take_append_of_le_length (by rw [List.length_map]; omega), List.drop_append_of_le_length (by rw [List.length_map]; omega)]
  rw [List.map_append, List.map_append, List.map_take, List.map_append, List.map_drop]
  simp [List.append_assoc]
end Go.Proofs.Ytaedhccmdbodlaa
