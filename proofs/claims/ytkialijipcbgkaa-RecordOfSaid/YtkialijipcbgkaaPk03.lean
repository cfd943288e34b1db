/-
  KInt: The kind of elements int: slices of int.
  VoMath: Plain mathematics of chapter 8 (vocab): pieces, what is wrong with them, the bytes of tokens.
  KPiece: The kind of elements api.Piece: slices of pieces; a vocabulary's value.
  LAns: Words for what calls answer: a list in new memory, a list and an error.
-/
import Derived.Test.YtkialijipcbgkaaPk02
import Derived.Test.YtkialijipcbgkaaProg
namespace Go.Proofs.Ytkialijipcbgkaa
open Go.RowKit
set_option linter.unusedVariables false

/-- What fits into an int. -/
def I64 (x : Int) : Prop := -9223372036854775808 ≤ x ∧ x < 9223372036854775808
def iK : El Try.prog Int where
  e := 3
  s := 25
  size := 1
  bytes := 8
  zero := .int .i64 0
  z := 0
  enc := fun x => [.int .i64 x]
  ok := I64
  len := fun _ => rfl
  one := fun x u hu => by simp at hu; subst hu; rfl
  okz := by unfold I64; omega
  encz := rfl
  pos := by decide
  under := Try.underlying25
  info := by kernel_rfl

theorem i64_nat {n : Nat} (h : n < 9223372036854775808) : I64 (n : Int) := by unfold I64; omega
theorem i64_wrap {x : Int} (h : I64 x) : IntKind.i64.wrap x = x := by unfold I64 at h; rw [IntKind.wrap_i64]; omega

section
variable {w : World} {base B n c : Nat} {A : Option Addr} {l : List Int}
theorem Lv.int_ (h : Lv iK w B (.slice A n c) l) {k : Nat} (hk : k < l.length) :
    ∃ b off x, A = some ⟨b, off, none⟩ ∧ b < B ∧ I64 x ∧ l[k]? = some x ∧ w.cell? ⟨b, off + k, none⟩ = some (.int .i64 x) := by
  obtain ⟨b, off, x, h1, h2, h3, h4, h5⟩ := h.at_ hk
  have h6 := h5 0 (.int .i64 x) rfl
  refine ⟨b, off, x, h1, h2, h3, h4, ?_⟩
  have e : off + (k * iK.size + 0) = off + k := by show off + (k * 1 + 0) = _; omega
  rw [e] at h6
  exact h6
theorem OwnL.int_ (h : OwnL iK w base (.slice A n c) l) {k : Nat} (hk : k < l.length) :
    ∃ g x, A = some ⟨g, 0, none⟩ ∧ n = l.length ∧ base ≤ g ∧ I64 x ∧ l[k]? = some x ∧ w.cell? ⟨g, k, none⟩ = some (.int .i64 x) ∧ w.frozen? ⟨g, k, none⟩ = false := by
  obtain ⟨g, x, h1, h2, h3, h4, h5, h6, h7⟩ := h.at_ hk
  have h8 := h6 0 (.int .i64 x) rfl
  refine ⟨g, x, h1, h2, h3, h4, h5, ?_, h7 k⟩
  have e : k * iK.size + 0 = k := by show k * 1 + 0 = _; omega
  rw [e] at h8
  exact h8
theorem OwnL.was_ {g : Nat} (h : OwnL iK w base (.slice (some ⟨g, 0, none⟩) n c) l) {k : Nat} (hk : k < l.length) : ∃ x, l[k]? = some x ∧ w.cell? ⟨g, k, none⟩ = some (.int .i64 x) := by
  obtain ⟨g', x, e, _, _, _, h5, h6, _⟩ := h.int_ hk
  injection e with e
  injection e with e
  subst e
  exact ⟨x, h5, h6⟩
theorem OwnL.setInt_ {g : Nat} (h : OwnL iK w base (.slice (some ⟨g, 0, none⟩) n c) l) {j : Nat} (hj : j < l.length) {x : Int} (hx : I64 x) :
    OwnL iK (w.setCell ⟨g, j, none⟩ (.int .i64 x)) base (.slice (some ⟨g, 0, none⟩) n c) (l.set j x) ∧ w.grownBy (w.setCell ⟨g, j, none⟩ (.int .i64 x)) (some g) := h.set_ rfl hj hx rfl
end
end Go.Proofs.Ytkialijipcbgkaa
namespace Go.Proofs.Ytkialijipcbgkaa.Vo

/-- A piece. -/
structure Pc where
  join : Bool
  byte : Nat
  left : Int
  right : Int
  rank : Nat

/-- The bytes of a piece behind tokens of these bytes. -/
def tx (T : List (List Nat)) (p : Pc) : List Nat := if p.join = true then T.getD p.left.toNat [] ++ T.getD p.right.toNat [] else [p.byte]
/-- The bytes of all tokens. -/
def texts (P : List Pc) : List (List Nat) := P.foldl (fun T p => T ++ [tx T p]) []
theorem texts_snoc (P : List Pc) (p : Pc) : texts (P ++ [p]) = texts P ++ [tx (texts P) p] := by simp [texts]
theorem texts_nil : texts [] = [] := rfl
theorem snoc_ind {α : Type} {C : List α → Prop} (h0 : C []) (h1 : ∀ l x, C l → C (l ++ [x])) : ∀ l, C l := by
  intro l
  have : ∀ n (l : List α), l.length = n → C l := by
    intro n
    induction n with
    | zero => intro l h; rw [List.eq_nil_of_length_eq_zero h]; exact h0
    | succ n ih =>
      intro l h
      have hne : l ≠ [] := by intro e; subst e; simp at h
      rw [← List.dropLast_concat_getLast hne]
      exact h1 _ _ (ih _ (by rw [List.length_dropLast]; omega))
  exact this _ l rfl
theorem texts_len (P : List Pc) : (texts P).length = P.length := by
  refine snoc_ind (C := fun P => (texts P).length = P.length) rfl (fun l x h => ?_) P
  rw [texts_snoc, List.length_append, List.length_append, h]; rfl
theorem texts_app (P Q : List Pc) : ∃ R, texts (P ++ Q) = texts P ++ R := by
  refine snoc_ind (C := fun Q => ∃ R, texts (P ++ Q) = texts P ++ R) ⟨[], by simp⟩ (fun l x h => ?_) Q
  obtain ⟨R, h⟩ := h
  exact ⟨R ++ [tx (texts (P ++ l)) x], by rw [← List.append_assoc, texts_snoc, h, List.append_assoc]⟩
theorem texts_take (P : List Pc) (k : Nat) : texts (P.take k) = (texts P).take k := by
  obtain ⟨R, h⟩ := texts_app (P.take k) (P.drop k)
  rw [List.take_append_drop] at h
  have hl := texts_len (P.take k)
  rcases Nat.lt_or_ge k P.length with hk | hk
  · rw [h, List.take_append_of_le_length (by rw [hl, List.length_take]; omega)]
    exact (List.take_of_length_le (by rw [hl, List.length_take]; omega)).symm
  · rw [List.take_of_length_le hk, List.take_of_length_le (by rw [texts_len]; exact hk)]
theorem texts_at {P : List Pc} {k : Nat} {p : Pc} (h : P[k]? = some p) : (texts P)[k]? = some (tx (texts (P.take k)) p) := by
  have hk : k < P.length := (List.getElem?_eq_some_iff.1 h).1
  have e : texts (P.take (k + 1)) = texts (P.take k) ++ [tx (texts (P.take k)) p] := by rw [take_snoc h, texts_snoc]
  rw [texts_take] at e
  have h2 : ((texts P).take (k + 1))[k]? = (texts P)[k]? := by rw [List.getElem?_take, if_pos (by omega)]
  rw [← h2, e, List.getElem?_append_right (by rw [texts_len, List.length_take]; omega), texts_len, List.length_take, Nat.min_eq_left (by omega), Nat.sub_self]
  rfl

/-- Is there a join of these two, or of that rank? -/
def hasJoin (D : List Pc) (p : Pc) : Bool := D.any (fun q => q.join && ((q.left == p.left && q.right == p.right) || q.rank == p.rank))
def hasByte (D : List Pc) (p : Pc) : Bool := D.any (fun q => !q.join && q.byte == p.byte)
/-- What is wrong with a piece behind those of D. -/
def errAt (D : List Pc) (p : Pc) : Nat :=
  if p.join = true then
    (if p.byte ≠ 0 then 5
     else if p.left < 0 ∨ (D.length : Int) ≤ p.left ∨ p.right < 0 ∨ (D.length : Int) ≤ p.right then 2
     else if 256 < (tx (texts D) p).length then 3
     else if hasJoin D p = true then 8 else 0)
  else if p.left ≠ 0 ∨ p.right ≠ 0 ∨ p.rank ≠ 0 then 5
  else if hasByte D p = true then 8 else 0
/-- The first thing that is wrong, and where, behind those of D. -/
def scan (D : List Pc) : List Pc → Nat × Nat
  | [] => (0, D.length)
  | p :: r => if errAt D p = 0 then scan (D ++ [p]) r else (errAt D p, D.length)
def bytesOf (P : List Pc) : Nat := (P.filter (fun q => !q.join)).length
def check (P : List Pc) : Nat × Nat :=
  if 4096 < P.length then (3, 0)
  else if (scan [] P).1 ≠ 0 then scan [] P
  else if bytesOf P < 256 then (7, P.length) else (0, 0)
/-- It may be. -/
def May (P : List Pc) : Prop := (check P).1 = 0
instance (P : List Pc) : Decidable (May P) := Nat.decEq _ _
/-- Nothing is wrong with any piece. -/
def Good (P : List Pc) : Prop := ∀ k p, P[k]? = some p → errAt (P.take k) p = 0
theorem scan_zero {D R : List Pc} : (scan D R).1 = 0 ↔ ∀ k p, R[k]? = some p → errAt (D ++ R.take k) p = 0 := by
  induction R generalizing D with
  | nil => simp [scan]
  | cons p r ih =>
    rw [scan]
    by_cases h : errAt D p = 0
    · rw [if_pos h, ih]
      constructor
      · intro hr k q hk
        cases k with
        | zero => simp at hk; subst hk; simpa using h
        | succ k =>
          simp at hk
          have := hr k q hk
          simpa using this
      · intro hr k q hk
        have := hr (k + 1) q (by simpa using hk)
        simpa using this
    · rw [if_neg h]
      constructor
      · intro h2; exact absurd h2 h
      · intro hr; exact absurd (by simpa using hr 0 p rfl) h
theorem scan_good {P : List Pc} : (scan [] P).1 = 0 ↔ Good P := by
  rw [scan_zero]
  simp [Good]
theorem may_iff {P : List Pc} : May P ↔ P.length ≤ 4096 ∧ Good P ∧ 256 ≤ bytesOf P := by
  unfold May check
  by_cases h1 : 4096 < P.length
  · rw [if_pos h1]; constructor
    · intro h; cases h
    · intro h; omega
  · rw [if_neg h1]
    by_cases h2 : (scan [] P).1 = 0
    · rw [if_neg (by simpa using h2)]
      have hg := scan_good.1 h2
      by_cases h3 : bytesOf P < 256
      · rw [if_pos h3]; constructor
        · intro h; cases h
        · intro h; omega
      · rw [if_neg h3]
        exact ⟨fun _ => ⟨by omega, hg, by omega⟩, fun _ => rfl⟩
    · rw [if_pos h2]
      constructor
      · intro h; exact absurd h h2
      · intro h; exact absurd (scan_good.2 h.2.1) h2
theorem Good.take {P : List Pc} (h : Good P) (n : Nat) : Good (P.take n) := by
  intro k p hk
  have hkn : k < n := by
    have := (List.getElem?_eq_some_iff.1 hk).1
    rw [List.length_take] at this; omega
  rw [List.getElem?_take, if_pos hkn] at hk
  have := h k p hk
  rwa [List.take_take, Nat.min_eq_left (by omega)]
/-- A beginning of one that may be: it may be, or lacks a byte alone. -/
theorem check_take {P : List Pc} (h : May P) {n : Nat} (hn : n ≤ P.length) : (check (P.take n)).1 = 0 ∨ check (P.take n) = (7, n) := by
  obtain ⟨h1, h2, h3⟩ := may_iff.1 h
  have hg := h2.take n
  have hl : (P.take n).length = n := by rw [List.length_take]; omega
  by_cases h4 : bytesOf (P.take n) < 256
  · right
    unfold check
    rw [if_neg (by omega), if_neg (by simpa using scan_good.2 hg), if_pos h4, hl]
  · left
    exact may_iff.2 ⟨by omega, hg, by omega⟩
theorem errAt_join {D : List Pc} {p : Pc} (hj : p.join = true) (h : errAt D p = 0) : p.byte = 0 ∧ 0 ≤ p.left ∧ p.left < D.length ∧ 0 ≤ p.right ∧ p.right < D.length ∧ (tx (texts D) p).length ≤ 256 ∧ hasJoin D p = false := by
  unfold errAt at h
  rw [if_pos hj] at h
  by_cases h1 : p.byte = 0
  · rw [if_neg (by simpa using h1)] at h
    by_cases h2 : p.left < 0 ∨ (D.length : Int) ≤ p.left ∨ p.right < 0 ∨ (D.length : Int) ≤ p.right
    · rw [if_pos h2] at h; cases h
    · rw [if_neg h2] at h
      by_cases h3 : 256 < (tx (texts D) p).length
      · rw [if_pos h3] at h; cases h
      · rw [if_neg h3] at h
        by_cases h4 : hasJoin D p = true
        · rw [if_pos h4] at h; cases h
        · exact ⟨h1, by omega, by omega, by omega, by omega, by omega, by simpa using h4⟩
  · rw [if_pos h1] at h; cases h
theorem errAt_byte {D : List Pc} {p : Pc} (hj : p.join = false) (h : errAt D p = 0) : p.left = 0 ∧ p.right = 0 ∧ p.rank = 0 ∧ hasByte D p = false := by
  unfold errAt at h
  rw [if_neg (by rw [hj]; simp)] at h
  by_cases h1 : p.left ≠ 0 ∨ p.right ≠ 0 ∨ p.rank ≠ 0
  · rw [if_pos h1] at h; cases h
  · rw [if_neg h1] at h
    by_cases h2 : hasByte D p = true
    · rw [if_pos h2] at h; cases h
    · exact ⟨by omega, by omega, by omega, by simpa using h2⟩
/-- The bytes of a token. -/
def text (P : List Pc) (t : Nat) : List Nat := (texts P).getD t []
theorem text_byte {P : List Pc} {t : Nat} {p : Pc} (h : P[t]? = some p) (hj : p.join = false) : text P t = [p.byte] := by
  rw [text, List.getD_eq_getElem?_getD, texts_at h, tx, if_neg (by rw [hj]; simp)]; rfl
theorem text_join {P : List Pc} (hg : Good P) {t : Nat} {p : Pc} (h : P[t]? = some p) (hj : p.join = true) : text P t = text P p.left.toNat ++ text P p.right.toNat ∧ p.left.toNat < t ∧ p.right.toNat < t ∧ 0 ≤ p.left ∧ 0 ≤ p.right := by
  have hk : t < P.length := (List.getElem?_eq_some_iff.1 h).1
  obtain ⟨_, h1, h2, h3, h4, _⟩ := errAt_join hj (hg t p h)
  rw [List.length_take] at h2 h4
  refine ⟨?_, by omega, by omega, h1, h3⟩
  rw [text, List.getD_eq_getElem?_getD, texts_at h, tx, if_pos hj, texts_take]
  simp only [Option.getD_some, text, List.getD_eq_getElem?_getD, List.getElem?_take]
  rw [if_pos (by omega), if_pos (by omega)]
/-- Each token of a good list has from 1 to 256 bytes. -/
theorem text_size {P : List Pc} (hg : Good P) {t : Nat} (ht : t < P.length) : 1 ≤ (text P t).length ∧ (text P t).length ≤ 256 := by
  induction t using Nat.strongRecOn with
  | _ t ih =>
    have h := List.getElem?_eq_getElem ht
    obtain ⟨p, hp⟩ : ∃ p, P[t] = p := ⟨_, rfl⟩
    rw [hp] at h
    cases hj : p.join with
    | false => rw [text_byte h hj]; simp
    | true =>
      obtain ⟨e, h1, h2, _⟩ := text_join hg h hj
      obtain ⟨_, _, _, _, _, h6, _⟩ := errAt_join hj (hg t p h)
      have a := ih _ h1 (by omega)
      have b := ih _ h2 (by omega)
      have e2 : tx (texts (P.take t)) p = text P t := by rw [text, List.getD_eq_getElem?_getD, texts_at h]; rfl
      rw [e2] at h6
      refine ⟨by rw [e, List.length_append]; omega, h6⟩
/-- The first place of which something holds. -/
def firstOf (P : List Pc) (f : Pc → Bool) : Nat := P.findIdx f
end Go.Proofs.Ytkialijipcbgkaa.Vo
namespace Go.Proofs.Ytkialijipcbgkaa
open Go.ChangeShapes Go.WideShapes Go.RowKit
set_option linter.unusedVariables false

def PcOk (x : Vo.Pc) : Prop := x.byte < 256 ∧ I64 x.left ∧ I64 x.right ∧ x.rank < 4294967296
def pcV (x : Vo.Pc) : Value := .agg #[.bool x.join, .int .u8 (x.byte : Nat), .int .i64 x.left, .int .i64 x.right, .int .u32 (x.rank : Nat)]
def pK : El Try.prog Vo.Pc where
  e := 85
  s := 39
  size := 5
  bytes := 32
  zero := .agg #[.bool false, .int .u8 0, .int .i64 0, .int .i64 0, .int .u32 0]
  z := ⟨false, 0, 0, 0, 0⟩
  enc := fun x => [.bool x.join, .int .u8 (x.byte : Nat), .int .i64 x.left, .int .i64 x.right, .int .u32 (x.rank : Nat)]
  ok := PcOk
  len := fun _ => rfl
  one := fun x u hu => by simp at hu; rcases hu with rfl | rfl | rfl | rfl | rfl <;> rfl
  okz := by simp [PcOk, I64]
  encz := rfl
  pos := by decide
  under := Try.underlying39
  info := by kernel_rfl

section
variable {w : World} {base B n c : Nat} {A : Option Addr} {l : List Vo.Pc}
theorem Lv.piece_ (h : Lv pK w B (.slice A n c) l) {k : Nat} (hk : k < l.length) :
    ∃ b off x, A = some ⟨b, off, none⟩ ∧ b < B ∧ PcOk x ∧ l[k]? = some x ∧ w.cell? ⟨b, off + k * 5, none⟩ = some (.bool x.join) ∧ w.cell? ⟨b, off + k * 5 + 1, none⟩ = some (.int .u8 (x.byte : Nat)) ∧
      w.cell? ⟨b, off + k * 5 + 2, none⟩ = some (.int .i64 x.left) ∧ w.cell? ⟨b, off + k * 5 + 3, none⟩ = some (.int .i64 x.right) ∧ w.cell? ⟨b, off + k * 5 + 4, none⟩ = some (.int .u32 (x.rank : Nat)) := by
  obtain ⟨b, off, x, h1, h2, h3, h4, h5⟩ := h.at_ hk
  exact ⟨b, off, x, h1, h2, h3, h4, h5 0 _ rfl, h5 1 _ rfl, h5 2 _ rfl, h5 3 _ rfl, h5 4 _ rfl⟩
end
theorem pieces_in {H : Type} {enc : TypeId × Value → H} {w : World} {sp : Nat → Bool} {held : Bool} {fuel : Nat} {a : Option Addr} {len cap : Nat} {x : DataW H × List MemPlace} (h : DataW.trod enc Try.prog w 0 sp held fuel 39 [.slice a len cap] = some x) :
    ∃ l : List Vo.Pc, l.length = len ∧ Lv pK w w.heap.size (.slice a len cap) l :=
  lv_open pK (by kernel_rfl) (fun fuel cs x h => by
    obtain ⟨hl, hf⟩ := dec_fields Try.underlying85 (by kernel_rfl) (by kernel_rfl) h
    obtain ⟨n0, v0, y0, h0, g0⟩ := hf 0 _ rfl
    obtain ⟨n1, v1, y1, h1, g1⟩ := hf 1 _ rfl
    obtain ⟨n2, v2, y2, h2, g2⟩ := hf 2 _ rfl
    obtain ⟨n3, v3, y3, h3, g3⟩ := hf 3 _ rfl
    obtain ⟨n4, v4, y4, h4, g4⟩ := hf 4 _ rfl
    obtain ⟨a0, rfl⟩ := dec_bool Try.underlying4 g0
    obtain ⟨a1, rfl, w1⟩ := dec_int Try.underlying5 g1
    obtain ⟨a2, rfl, w2⟩ := dec_int Try.underlying3 g2
    obtain ⟨a3, rfl, w3⟩ := dec_int Try.underlying3 g3
    obtain ⟨a4, rfl, w4⟩ := dec_int Try.underlying83 g4
    have b1 := bounds_u8 w1
    have b2 := bounds_i64 w2
    have b3 := bounds_i64 w3
    have b4 := bounds_u32 w4
    obtain ⟨t1, rfl⟩ := Int.eq_ofNat_of_zero_le b1.1
    obtain ⟨t4, rfl⟩ := Int.eq_ofNat_of_zero_le b4.1
    refine ⟨⟨a0, t1, a2, a3, t4⟩, ⟨(by show t1 < 256; omega), (by show -9223372036854775808 ≤ a2 ∧ a2 < 9223372036854775808; omega), (by show -9223372036854775808 ≤ a3 ∧ a3 < 9223372036854775808; omega), (by show t4 < 4294967296; omega)⟩, ?_⟩
    have hl2 : cs.length = 5 := hl
    match cs, hl2 with
    | [c0, c1, c2, c3, c4], _ =>
      simp at h0 h1 h2 h3 h4
      rw [h0, h1, h2, h3, h4]
      rfl) h
end Go.Proofs.Ytkialijipcbgkaa
namespace Go.Proofs.Ytkialijipcbgkaa
open Go.RowKit
set_option linter.unusedVariables false

section
variable {P : Program} {α : Type}
/-- A call that answers this list in new memory, and turns nothing that was there. -/
def IsL1 (K : El P α) (l : List α) (w : World) (e : Ending) (w' : World) : Prop :=
  ∃ A c, e = .returned (.slice A l.length c) ∧ OwnL K w' w.heap.size (.slice A l.length c) l ∧ Below w.heap.size w w'
/-- A call that answers this list in new memory and an error, and turns nothing that was there. -/
def IsLE (K : El P α) (r : List α × Nat) (w : World) (e : Ending) (w' : World) : Prop :=
  ∃ A c, e = .returned (.tuple #[.slice A r.1.length c, .int .i64 r.2]) ∧ OwnL K w' w.heap.size (.slice A r.1.length c) r.1 ∧ Below w.heap.size w w'
/-- A call that answers nothing, and turns but one slice of the caller's own. -/
def IsTurned (v : Value) (w : World) (e : Ending) (w' : World) : Prop := (∃ x, e = .returned x) ∧ w.grownBy w' v.ownBlock
/-- A call that answers an error, and turns nothing that was there. -/
def IsErr (n : Nat) (w : World) (e : Ending) (w' : World) : Prop := e = .returned (.int .i64 (n : Nat)) ∧ Below w.heap.size w w'

variable {K : El P α}
theorem IsLE.none_ {w : World} {r : List α × Nat} {e : Nat} {x : Int} (h : r = ([], e)) (hx : x = (e : Nat)) : IsLE K r w (.returned (.tuple #[.slice none 0 0, .int .i64 x])) w := by
  subst h hx; exact ⟨none, 0, rfl, OwnL.nil_ _ _ _, Below.refl _ _⟩
theorem IsLE.none_b {w w' : World} {r : List α × Nat} {e : Nat} {x : Int} (h : r = ([], e)) (hx : x = (e : Nat)) (hb : Below w.heap.size w w') : IsLE K r w (.returned (.tuple #[.slice none 0 0, .int .i64 x])) w' := by
  subst h hx; exact ⟨none, 0, rfl, OwnL.nil_ _ _ _, hb⟩
theorem IsLE.of {w w' : World} {r : List α × Nat} {y : List α} {e c n : Nat} {x : Int} {A : Option Addr} (h : r = (y, e)) (hn : n = y.length) (hx : x = (e : Nat)) (ho : OwnL K w' w.heap.size (.slice A n c) y) (hb : Below w.heap.size w w') :
    IsLE K r w (.returned (.tuple #[.slice A n c, .int .i64 x])) w' := by subst h hx hn; exact ⟨A, c, rfl, ho, hb⟩
/-- What a call of a list and an error answered, where it is known. -/
theorem IsLE.out_ {w w' : World} {e : Ending} {r : List α × Nat} (h : IsLE K r w e w') {l : List α} {n : Nat} (hr : r = (l, n)) :
    ∃ A c, e = .returned (.tuple #[.slice A l.length c, .int .i64 n]) ∧ OwnL K w' w.heap.size (.slice A l.length c) l ∧ Below w.heap.size w w' := by subst hr; exact h
theorem grownBy_trans {w w1 w2 : World} {r : Option Nat} (h : w.grownBy w1 r) (h2 : w1.grownBy w2 r) : w.grownBy w2 r :=
  ⟨h2.os.trans h.os, h2.tape.trans h.tape, h2.output.trans h.output, Nat.le_trans h.size h2.size, fun k hk hne => (h2.block k (Nat.lt_of_lt_of_le hk h.size) hne).trans (h.block k hk hne)⟩
/-- What a call turned but in blocks from B on, or in the row of one own slice. -/
theorem Below.turned {w w1 w2 : World} {B : Nat} {v : Value} (h : Below B w w1) (hg : w1.grownBy w2 v.ownBlock) (hB : B ≤ w1.heap.size) (hv : ∀ k, v.ownBlock = some k → B ≤ k) : Below B w w2 := h.grown hg hB hv
end
end Go.Proofs.Ytkialijipcbgkaa
