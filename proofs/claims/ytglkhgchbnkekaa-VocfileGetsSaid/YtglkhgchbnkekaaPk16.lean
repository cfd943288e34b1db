/-
  RPut: stookref01.Put answers the bytes of a number, in new memory.
  VfMath: Plain mathematics of chapter 9 (vocfile): a vocabulary's file, how bytes are read, and what follows.
  RVoA: stookref08.seen: what stood ahead of a piece: its memory, and the function byte.
-/
import Derived.Test.YtglkhgchbnkekaaPk15
import Derived.Test.YtglkhgchbnkekaaPk09
import Derived.Test.YtglkhgchbnkekaaPk12
import Derived.Test.YtglkhgchbnkekaaPk13
import Derived.Test.YtglkhgchbnkekaaPk07
import Derived.Test.YtglkhgchbnkekaaPk11
import Derived.Test.YtglkhgchbnkekaaPk01
import Derived.Deep.QuietTactic
import Derived.BigQuiet
import Derived.BigRegion
namespace Go.Proofs.Ytglkhgchbnkekaa
open Go.RowKit
set_option linter.unusedVariables false

theorem OwnB.fresh {w w' : World} {v : Value} {l : List Nat} (h : OwnB w' w.heap.size v l) (hb : Below w.heap.size w w') : IsFresh l w (.returned v) w' := by
  obtain ⟨A, c, rfl, _⟩ := h.form_
  exact ⟨A, c, rfl, h, hb⟩

set_option maxHeartbeats 400000 in
set_option maxRecDepth 100000 in
theorem rput_small (n : Nat) (hn : n < 128) (w : World) :
    Calls Try.prog 27 #[.int .u64 n] w (IsFresh (Mt.put n) w) := by
  have HP := Lib.hid (Mt.put_small hn)
  go_enter Try.func27, Try.ntmps27
  go_wp2
  go_ret
  have h := OwnB.lit_ w (Nat.le_refl _) (c := n) rfl (by omega)
  rw [HP.out]
  exact h.fresh ((Below.refl _ _).alloc (Nat.le_refl _) _)

theorem wrap_div (n : Nat) (hb : Mt.B64 n) : IntKind.u64.wrap ((n : Int) / 128) = ((n / 128 : Nat) : Int) := by
  unfold Mt.B64 at hb
  rw [IntKind.wrap_u64]
  omega

set_option maxHeartbeats 400000 in
set_option maxRecDepth 100000 in
theorem rput_any (k : Nat) : ∀ (n : Nat) (w : World), n < 128 ^ (k + 1) → Mt.B64 n →
    Calls Try.prog 27 #[.int .u64 n] w (IsFresh (Mt.put n) w) := by
  induction k with
  | zero => intro n w h _; exact rput_small n (by simpa using h) w
  | succ k ih =>
    intro n w h hb
    by_cases hn : n < 128
    · exact rput_small n hn w
    · have HP := Lib.hid (Mt.put_step (by omega) hb)
      have hq : n / 128 < 128 ^ (k + 1) := by rw [Nat.div_lt_iff_lt_mul (by decide)]; rw [Nat.pow_succ] at h; exact h
      have HI := Lib.hid (ih (n / 128) (w.alloc (.cells #[.int .u8 ((n : Int) % 128 + 128)] 5)) hq (Mt.b64_div hb))
      have hl := Mt.put_len_le (n / 128)
      have HW := Lib.hid (wrap_div n hb)
      have ho := Lib.hid (OwnB.lit_ w (Nat.le_refl _) (c := n % 128 + 128) (x := (n : Int) % 128 + 128) (by omega) (by omega))
      have hbel := Lib.hid ((Below.refl w.heap.size w).alloc (Nat.le_refl _) (.cells #[.int .u8 ((n : Int) % 128 + 128)] 5))
      clear ih h hb hq
      go_enter Try.func27, Try.ntmps27
      go_wp2_with fail
      rw [HW.out]
      ((with_reducible refine HI.out.mono ?_); rintro e w1 ⟨A, c, rfl, hown, hb1⟩)
      have hsrc := Lib.hid hown.form_
      have ho1 := Lib.hid (ho.out.below_ hb1 (Nat.le_refl _))
      have hb2 := Lib.hid (hbel.out.trans (hb1.mono (by simp)))
      have hsz : w.heap.size ≤ w1.heap.size := by have := hb1.size; simp at this; omega
      clear hown hb1 ho hbel
      go_wp2_with (at_builtin; go_must (refine wpList_append_bytes _ rfl _ _ rfl rfl w.heap.size _ rfl [n % 128 + 128] ho1.out _ rfl _ (Mt.put (n / 128)) hsrc.out (by simp; omega) hsz ?_; intro A2 c2 w2 hA))
      go_ret
      have hO := hA.own
      have hB : Below w.heap.size w w2 := hb2.out.grown hA.grown hsz (fun k hk => (ho1.out.lt_ k hk).1)
      have hf := hO.fresh hB
      rw [HP.out]
      simpa using hf
end Go.Proofs.Ytglkhgchbnkekaa
namespace Go.Proofs.Ytglkhgchbnkekaa.Vf
open Vo (Pc)
set_option linter.unusedVariables false

def magic : List Nat := [115, 116, 111, 111, 107, 118]
/-- A piece's bytes. -/
def pcB (p : Pc) : List Nat := if p.join = true then 1 :: (Mt.put p.left.toNat ++ Mt.put p.right.toNat ++ Mt.put p.rank) else [0, p.byte]
/-- The bytes of pieces. -/
def pcs (P : List Pc) : List Nat := P.flatMap pcB
/-- A file but its sum. -/
def body (P : List Pc) : List Nat := magic ++ Mt.put P.length ++ pcs P
def file (P : List Pc) : List Nat := body P ++ four (Cr.of (body P))
def putE (P : List Pc) : List Nat × Nat := if Vo.May P then (file P, 0) else ([], 11)

/-- What reading tells: an error and its place, or what was read and the place behind it. -/
inductive R (α : Type) where
  | bad (e w : Nat)
  | got (x : α) (a : Nat)
def R.then {α β : Type} : R α → (α → Nat → R β) → R β
  | .bad e w, _ => .bad e w
  | .got x a, f => f x a
/-- A number at a place, at most most. -/
def num (l : List Nat) (a most : Nat) : R Nat :=
  if (Mt.get l (a : Nat)).2.2 ≠ 0 then .bad (Mt.get l (a : Nat)).2.2 a
  else if most < (Mt.get l (a : Nat)).1 then .bad 3 a
  else .got (Mt.get l (a : Nat)).1 (Mt.get l (a : Nat)).2.1
/-- The piece at a place. -/
def rdPc (l : List Nat) (a : Nat) : R Pc :=
  match l[a]? with
  | none => .bad 4 l.length
  | some t =>
    if t = 0 then (match l[a + 1]? with | none => .bad 4 l.length | some c => .got ⟨false, c, 0, 0, 0⟩ (a + 2))
    else if t = 1 then (num l (a + 1) 4095).then fun x a1 => (num l a1 4095).then fun y a2 => (num l a2 4294967295).then fun z a3 => .got ⟨true, 0, (x : Nat), (y : Nat), z⟩ a3
    else .bad 5 a
/-- n pieces from a place on, each with its place. -/
def rdPcs : Nat → List Nat → Nat → R (List (Pc × Nat))
  | 0, _, a => .got [] a
  | n + 1, l, a => (rdPc l a).then fun p a1 => (rdPcs n l a1).then fun Q a2 => .got ((p, a) :: Q) a2
/-- Get: the pieces, the place, the error's number. -/
def getE (l : List Nat) : List Pc × Nat × Nat :=
  if l.take 6 ≠ magic then ([], 0, 5)
  else match num l 6 4096 with
    | .bad e w => ([], w, e)
    | .got n a => match rdPcs n l a with
      | .bad e w => ([], w, e)
      | .got Q s =>
        if l.length - s < 4 then ([], l.length, 4)
        else if (l.drop s).take 4 ≠ four (Cr.of (l.take s)) then ([], s, 6)
        else if s + 4 < l.length then ([], s + 4, 5)
        else if (Vo.check (Q.map Prod.fst)).1 ≠ 0 then ([], (match Q[(Vo.check (Q.map Prod.fst)).2]? with | some q => q.2 | none => s), 11)
        else (Q.map Prod.fst, 0, 0)

/-! Numbers -/
theorem num_put {x y : List Nat} {n most : Nat} (hn : Mt.B64 n) (hm : n ≤ most) : num (x ++ Mt.put n ++ y) x.length most = .got n (x.length + (Mt.put n).length) := by
  unfold num
  rw [Mt.get_put hn, if_neg (by simp), if_neg (by show ¬ most < n; omega)]
theorem num_got {l : List Nat} (hl : ∀ x ∈ l, x < 256) {a most n k : Nat} (h : num l a most = .got n k) : n ≤ most ∧ Mt.B64 n ∧ k = a + (Mt.put n).length ∧ k ≤ l.length ∧ (l.drop a).take (k - a) = Mt.put n ∧ a ≤ l.length := by
  unfold num at h
  rcases Mt.get_cases hl (a : Int) with ⟨e, h1, h2, hg⟩ | ⟨k', n', r, he, h1, h2, h3, h4, hg⟩
  · rw [hg, if_pos (by show e ≠ 0; omega)] at h
    cases h
  · have he : a = k' := by omega
    subst he
    rw [hg, if_neg (by simp)] at h
    split at h
    · cases h
    · rename_i hm
      have hm : ¬ most < n' := hm
      injection h with e1 e2
      have e1 : n' = n := e1
      have e2 : a + (Mt.put n').length = k := e2
      subst e1 e2
      refine ⟨by omega, h2, rfl, h4, ?_, by omega⟩
      rw [h3, Nat.add_sub_cancel_left, List.take_left]
/-- What was read of bytes is read with more behind them. -/
theorem num_more {l : List Nat} (hl : ∀ x ∈ l, x < 256) {a most n k : Nat} (h : num l a most = .got n k) (t : List Nat) : num (l ++ t) a most = .got n k := by
  obtain ⟨h1, h2, h3, h4, h5, h6⟩ := num_got hl h
  have e : l ++ t = l.take a ++ Mt.put n ++ (l.drop k ++ t) := by
    have e1 : l = l.take a ++ ((l.drop a).take (k - a) ++ (l.drop a).drop (k - a)) := by rw [List.take_append_drop, List.take_append_drop]
    rw [h5, List.drop_drop, show a + (k - a) = k by omega] at e1
    rw [List.append_assoc, ← List.append_assoc (Mt.put n), ← List.append_assoc, ← e1]
  have hla : (l.take a).length = a := by rw [List.length_take]; omega
  have := num_put (x := l.take a) (y := l.drop k ++ t) h2 h1
  rw [← e, hla, ← h3] at this
  exact this

/-! Pieces -/
/-- A piece as a file may hold it. -/
def Fits (p : Pc) : Prop := if p.join = true then p.byte = 0 ∧ 0 ≤ p.left ∧ p.left ≤ 4095 ∧ 0 ≤ p.right ∧ p.right ≤ 4095 ∧ p.rank ≤ 4294967295 else p.left = 0 ∧ p.right = 0 ∧ p.rank = 0 ∧ p.byte < 256
theorem b64_of {n : Nat} (h : n ≤ 4294967295) : Mt.B64 n := by unfold Mt.B64; omega
theorem pcB_pos (p : Pc) : 1 ≤ (pcB p).length := by
  unfold pcB
  split
  · simp
  · simp
theorem pcB_lt {p : Pc} (h : Fits p) : ∀ x ∈ pcB p, x < 256 := by
  unfold Fits at h
  unfold pcB
  split at h
  · rename_i hj
    rw [if_pos hj]
    obtain ⟨_, h1, h2, h3, h4, h5⟩ := h
    intro x hx
    rcases List.mem_cons.1 hx with rfl | hx
    · omega
    · rcases List.mem_append.1 hx with hx | hx
      · rcases List.mem_append.1 hx with hx | hx
        · exact Mt.put_lt (b64_of (by omega)) x hx
        · exact Mt.put_lt (b64_of (by omega)) x hx
      · exact Mt.put_lt (b64_of h5) x hx
  · rename_i hj
    rw [if_neg hj]
    intro x hx
    simp at hx
    rcases hx with rfl | rfl <;> omega
theorem rdPc_put {x y : List Nat} {p : Pc} (h : Fits p) : rdPc (x ++ pcB p ++ y) x.length = .got p (x.length + (pcB p).length) := by
  obtain ⟨j, b, l, r, k⟩ := p
  cases j with
  | false =>
    obtain ⟨h1, h2, h3, h4⟩ : l = 0 ∧ r = 0 ∧ k = 0 ∧ b < 256 := h
    subst h1 h2 h3
    have e0 : (x ++ [0, b] ++ y)[x.length]? = some 0 := by simp
    have e1 : (x ++ [0, b] ++ y)[x.length + 1]? = some b := by rw [List.append_assoc, List.getElem?_append_right (by omega)]; simp
    show rdPc (x ++ [0, b] ++ y) x.length = _
    unfold rdPc
    rw [e0]
    simp only [if_true, e1]
    rfl
  | true =>
    obtain ⟨h0, h1, h2, h3, h4, h5⟩ : b = 0 ∧ 0 ≤ l ∧ l ≤ 4095 ∧ 0 ≤ r ∧ r ≤ 4095 ∧ k ≤ 4294967295 := h
    subst h0
    obtain ⟨L, rfl⟩ := Int.eq_ofNat_of_zero_le h1
    obtain ⟨Rr, rfl⟩ := Int.eq_ofNat_of_zero_le h3
    have e : pcB ⟨true, 0, (L : Int), (Rr : Int), k⟩ = [1] ++ Mt.put L ++ Mt.put Rr ++ Mt.put k := by simp [pcB]
    rw [e]
    have n1 := num_put (x := x ++ [1]) (y := Mt.put Rr ++ Mt.put k ++ y) (n := L) (most := 4095) (b64_of (by omega)) (by omega)
    have n2 := num_put (x := x ++ [1] ++ Mt.put L) (y := Mt.put k ++ y) (n := Rr) (most := 4095) (b64_of (by omega)) (by omega)
    have n3 := num_put (x := x ++ [1] ++ Mt.put L ++ Mt.put Rr) (y := y) (n := k) (most := 4294967295) (b64_of h5) h5
    simp only [List.append_assoc, List.length_append, List.length_singleton] at n1 n2 n3 ⊢
    have e0 : (x ++ ([1] ++ (Mt.put L ++ (Mt.put Rr ++ (Mt.put k ++ y)))))[x.length]? = some 1 := by simp
    unfold rdPc
    rw [e0]
    simp only [Nat.one_ne_zero, if_false, if_true]
    rw [n1]
    simp only [R.then]
    rw [Nat.add_assoc, n2]
    simp only
    rw [show x.length + (1 + (Mt.put L).length) + (Mt.put Rr).length = x.length + (1 + ((Mt.put L).length + (Mt.put Rr).length)) by omega, n3]
    simp only
    congr 1
    omega
theorem rdPc_got {l : List Nat} (hl : ∀ x ∈ l, x < 256) {a k : Nat} {p : Pc} (h : rdPc l a = .got p k) : Fits p ∧ k = a + (pcB p).length ∧ k ≤ l.length ∧ (l.drop a).take (k - a) = pcB p := by
  unfold rdPc at h
  cases h0 : l[a]? with
  | none => rw [h0] at h; cases h
  | some t =>
    rw [h0] at h
    have ha : a < l.length := (List.getElem?_eq_some_iff.1 h0).1
    have hda : l.drop a = t :: l.drop (a + 1) := by rw [List.drop_eq_getElem_cons ha]; congr 1; exact (List.getElem?_eq_some_iff.1 h0).2
    simp only at h
    by_cases t0 : t = 0
    · subst t0
      rw [if_pos rfl] at h
      cases h1 : l[a + 1]? with
      | none => rw [h1] at h; cases h
      | some c =>
        rw [h1] at h
        injection h with e1 e2
        subst e1 e2
        have hb : a + 1 < l.length := (List.getElem?_eq_some_iff.1 h1).1
        have hc : c < 256 := hl c (List.mem_of_getElem? h1)
        refine ⟨⟨rfl, rfl, rfl, hc⟩, rfl, by omega, ?_⟩
        rw [hda, List.drop_eq_getElem_cons hb, (List.getElem?_eq_some_iff.1 h1).2]
        simp [pcB]
    · rw [if_neg t0] at h
      by_cases t1 : t = 1
      · subst t1
        rw [if_pos rfl] at h
        cases hn1 : num l (a + 1) 4095 with
        | bad e w => rw [hn1] at h; cases h
        | got x a1 =>
          rw [hn1] at h
          simp only [R.then] at h
          cases hn2 : num l a1 4095 with
          | bad e w => rw [hn2] at h; cases h
          | got y a2 =>
            rw [hn2] at h
            simp only at h
            cases hn3 : num l a2 4294967295 with
            | bad e w => rw [hn3] at h; cases h
            | got z a3 =>
              rw [hn3] at h
              injection h with e1 e2
              subst e1 e2
              obtain ⟨x1, x2, x3, x4, x5, x6⟩ := num_got hl hn1
              obtain ⟨y1, y2, y3, y4, y5, y6⟩ := num_got hl hn2
              obtain ⟨z1, z2, z3, z4, z5, z6⟩ := num_got hl hn3
              have e : pcB ⟨true, 0, (x : Int), (y : Int), z⟩ = 1 :: (Mt.put x ++ Mt.put y ++ Mt.put z) := by simp [pcB]
              refine ⟨⟨rfl, (show (0 : Int) ≤ (x : Int) by omega), (show (x : Int) ≤ 4095 by omega), (show (0 : Int) ≤ (y : Int) by omega), (show (y : Int) ≤ 4095 by omega), z1⟩, ?_, z4, ?_⟩
              · rw [e]; simp; omega
              · rw [e, hda, show a3 - a = (a3 - (a + 1)) + 1 by omega, List.take_succ_cons]
                congr 1
                rw [← x5, ← y5, ← z5]
                have s1 : l.drop a1 = (l.drop (a + 1)).drop (a1 - (a + 1)) := by rw [List.drop_drop]; congr 1; omega
                have s2 : l.drop a2 = (l.drop (a + 1)).drop (a2 - (a + 1)) := by rw [List.drop_drop]; congr 1; omega
                rw [s1, s2]
                generalize l.drop (a + 1) = m
                rw [show a3 - (a + 1) = (a1 - (a + 1)) + ((a2 - a1) + (a3 - a2)) by omega, List.take_add, List.take_add, List.drop_drop, show a1 - (a + 1) + (a2 - a1) = a2 - (a + 1) by omega, List.append_assoc]
      · rw [if_neg t1] at h; cases h
theorem rdPc_more {l : List Nat} (hl : ∀ x ∈ l, x < 256) {a k : Nat} {p : Pc} (h : rdPc l a = .got p k) (t : List Nat) : rdPc (l ++ t) a = .got p k := by
  obtain ⟨h1, h2, h3, h4⟩ := rdPc_got hl h
  have hp := pcB_pos p
  have e : l ++ t = l.take a ++ pcB p ++ (l.drop k ++ t) := by
    have e1 : l = l.take a ++ ((l.drop a).take (k - a) ++ (l.drop a).drop (k - a)) := by rw [List.take_append_drop, List.take_append_drop]
    rw [h4, List.drop_drop, show a + (k - a) = k by omega] at e1
    rw [List.append_assoc, ← List.append_assoc (pcB p), ← List.append_assoc, ← e1]
  have hla : (l.take a).length = a := by rw [List.length_take]; omega
  have := rdPc_put (x := l.take a) (y := l.drop k ++ t) h1
  rw [← e, hla, ← h2] at this
  exact this
end Go.Proofs.Ytglkhgchbnkekaa.Vf
namespace Go.Proofs.Ytglkhgchbnkekaa
open Go.RowKit
set_option linter.unusedVariables false

/-- The cells of a seen. -/
def seenCells (v : Value) (bs : List Bool) (m : Nat) : List Value := v :: (bs.map Value.bool ++ [.int .i64 (m : Nat)])
/-- A seen at block sb: its list of sizes (an own slice), its bytes, how many. -/
structure SeenR (w : World) (sb base : Nat) (v : Value) (sz : List Int) (bs : List Bool) (m : Nat) : Prop where
  head : w.heap[sb]? = some (.cells (seenCells v bs m).toArray 103 (0, 0))
  len : bs.length = 256
  own : OwnL iK w base v sz
  apart : v.ownBlock ≠ some sb
  low : base ≤ sb

section
variable {w w' : World} {sb base m : Nat} {v v' : Value} {sz sz' : List Int} {bs : List Bool}
theorem SeenR.slice_ (h : SeenR w sb base v sz bs m) : w.cell? ⟨sb, 0, none⟩ = some v := by
  rw [cell_of_row _ sb 0 _ _ _ h.head]; rfl
theorem SeenR.bool_ (h : SeenR w sb base v sz bs m) {b : Nat} {t : Bool} (hb : bs[b]? = some t) : w.cell? ⟨sb, 1 + b, none⟩ = some (.bool t) := by
  have hlt := (List.getElem?_eq_some_iff.1 hb).1
  rw [cell_of_row _ sb (1 + b) _ _ _ h.head, List.getElem?_toArray, seenCells, Nat.add_comm, List.getElem?_cons_succ, List.getElem?_append_left (by simpa using hlt), List.getElem?_map, hb]; rfl
theorem SeenR.many_ (h : SeenR w sb base v sz bs m) : w.cell? ⟨sb, 257, none⟩ = some (.int .i64 (m : Nat)) := by
  rw [cell_of_row _ sb 257 _ _ _ h.head, List.getElem?_toArray, seenCells, List.getElem?_cons_succ, List.getElem?_append_right (by simp [h.len])]
  simp [h.len]
theorem SeenR.cool_ (h : SeenR w sb base v sz bs m) (j : Nat) : w.frozen? ⟨sb, j, none⟩ = false := frozen_of_row w sb j _ _ h.head
theorem SeenR.lt_ (h : SeenR w sb base v sz bs m) : sb < w.heap.size := (Array.getElem?_eq_some_iff.1 h.head).1
theorem SeenR.alloc_ (h : SeenR w sb base v sz bs m) (o : Obj) : SeenR (w.alloc o) sb base v sz bs m :=
  ⟨(heap_alloc_old w o h.lt_).trans h.head, h.len, h.own.alloc_ o, h.apart, h.low⟩
theorem SeenR.drewN_ (h : SeenR w sb base v sz bs m) (n : Nat) : SeenR (w.drewN n) sb base v sz bs m := ⟨h.head, h.len, h.own, h.apart, h.low⟩
theorem SeenR.drew_ (h : SeenR w sb base v sz bs m) : SeenR w.drew sb base v sz bs m := ⟨h.head, h.len, h.own, h.apart, h.low⟩
theorem seen_set_bool (v : Value) (bs : List Bool) (m : Nat) {b : Nat} (hb : b < bs.length) (t : Bool) : (seenCells v bs m).set (1 + b) (.bool t) = seenCells v (bs.set b t) m := by
  unfold seenCells
  rw [Nat.add_comm, List.set_cons_succ, List.set_append_left _ _ (by simpa using hb), ← List.map_set]
theorem seen_set_many (v : Value) (bs : List Bool) (m m' : Nat) (hb : bs.length = 256) : (seenCells v bs m).set 257 (.int .i64 (m' : Nat)) = seenCells v bs m' := by
  unfold seenCells
  rw [List.set_cons_succ, List.set_append_right _ _ (by simp [hb])]
  simp [hb]
theorem seen_set_slice (v v' : Value) (bs : List Bool) (m : Nat) : (seenCells v bs m).set 0 v' = seenCells v' bs m := rfl
theorem SeenR.other_ (h : SeenR w sb base v sz bs m) (j : Nat) (u : Value) : OwnL iK (w.setCell ⟨sb, j, none⟩ u) base v sz :=
  h.own.of_block (fun k hk => heap_setCell_other w ⟨sb, j, none⟩ k u (fun e => h.apart (by rw [hk, e])))
theorem SeenR.setBool_ (h : SeenR w sb base v sz bs m) {b : Nat} (hb : b < 256) (t : Bool) : SeenR (w.setCell ⟨sb, 1 + b, none⟩ (.bool t)) sb base v sz (bs.set b t) m := by
  refine ⟨?_, by rw [List.length_set]; exact h.len, h.other_ _ _, h.apart, h.low⟩
  rw [heap_setCell_same w sb _ _ _ _ h.head, ← seen_set_bool v bs m (by rw [h.len]; exact hb) t]
  simp
theorem SeenR.setMany_ (h : SeenR w sb base v sz bs m) (m' : Nat) : SeenR (w.setCell ⟨sb, 257, none⟩ (.int .i64 (m' : Nat))) sb base v sz bs m' := by
  refine ⟨?_, h.len, h.other_ _ _, h.apart, h.low⟩
  rw [heap_setCell_same w sb _ _ _ _ h.head, ← seen_set_many v bs m m' h.len]
  simp
/-- What append turned leaves the seen's own block. -/
theorem SeenR.grown_ (h : SeenR w sb base v sz bs m) (hg : w.grownBy w' v.ownBlock) : w'.cell? ⟨sb, 0, none⟩ = some v ∧ w'.frozen? ⟨sb, 0, none⟩ = false := by
  have hh := (hg.block sb h.lt_ (fun e => h.apart e.symm)).trans h.head
  exact ⟨by rw [cell_of_row _ sb 0 _ _ _ hh]; rfl, frozen_of_row w' sb 0 _ _ hh⟩
/-- The list of sizes is had anew. -/
theorem SeenR.setSlice_ (h : SeenR w sb base v sz bs m) (hg : w.grownBy w' v.ownBlock) (ho : OwnL iK w' base v' sz') (hm : Moved w v v') : SeenR (w'.setCell ⟨sb, 0, none⟩ v') sb base v' sz' bs m := by
  have hap : v'.ownBlock ≠ some sb := fun e => by
    rcases hm sb e with h1 | h1
    · exact h.apart h1
    · have := h.lt_; omega
  have hh := (hg.block sb h.lt_ (fun e => h.apart e.symm)).trans h.head
  refine ⟨?_, h.len, ho.of_block (fun k hk => heap_setCell_other w' ⟨sb, 0, none⟩ k v' (fun e => hap (by rw [hk, e]))), hap, h.low⟩
  rw [heap_setCell_same w' sb 0 _ _ _ hh]
  simp [seenCells]
end

namespace Vo
/-- Which bytes are there. -/
def bits (D : List Pc) : List Bool := (List.range 256).map (fun b => D.any (fun q => !q.join && q.byte == b))
def sizes (D : List Pc) : List Int := (texts D).map (fun t => (t.length : Int))
theorem bits_len (D : List Pc) : (bits D).length = 256 := by simp [bits]
theorem bits_at {D : List Pc} {b : Nat} (h : b < 256) : (bits D)[b]? = some (D.any (fun q => !q.join && q.byte == b)) := by simp [bits, h]
theorem bits_byte {D : List Pc} {p : Pc} (hj : p.join = false) (h : p.byte < 256) : bits (D ++ [p]) = (bits D).set p.byte true := by
  refine List.ext_getElem? fun j => ?_
  rw [List.getElem?_set, bits_len]
  by_cases hj2 : j < 256
  · rw [bits_at hj2, List.any_append]
    by_cases e : p.byte = j
    · subst e; simp [hj, h]
    · rw [if_neg e, bits_at hj2]
      simp [hj, e]
  · rw [List.getElem?_eq_none (by rw [bits_len]; omega), if_neg (by omega), List.getElem?_eq_none (by rw [bits_len]; omega)]
theorem bits_join {D : List Pc} {p : Pc} (hj : p.join = true) : bits (D ++ [p]) = bits D := by
  unfold bits
  simp [hj]
theorem bytesOf_byte {D : List Pc} {p : Pc} (hj : p.join = false) : bytesOf (D ++ [p]) = bytesOf D + 1 := by simp [bytesOf, hj]
theorem bytesOf_join {D : List Pc} {p : Pc} (hj : p.join = true) : bytesOf (D ++ [p]) = bytesOf D := by simp [bytesOf, hj]
theorem sizes_snoc (D : List Pc) (p : Pc) : sizes (D ++ [p]) = sizes D ++ [((tx (texts D) p).length : Int)] := by simp [sizes, texts_snoc]
theorem sizes_len (D : List Pc) : (sizes D).length = D.length := by simp [sizes, texts_len]
theorem sizes_byte {D : List Pc} {p : Pc} (hj : p.join = false) : sizes (D ++ [p]) = sizes D ++ [1] := by
  rw [sizes_snoc, tx, if_neg (by rw [hj]; simp)]; rfl
theorem bytesOf_le (D : List Pc) : bytesOf D ≤ D.length := List.length_filter_le _ _
theorem hasByte_bits {D : List Pc} {p : Pc} : hasByte D p = D.any (fun q => !q.join && q.byte == p.byte) := rfl
end Vo

/-- A seen behind the pieces D. -/
def SeenAt (w : World) (sb base : Nat) (D : List Vo.Pc) : Prop := ∃ v, SeenR w sb base v (Vo.sizes D) (Vo.bits D) (Vo.bytesOf D)
/-- What byte and join answer. -/
def IsSeen (sb base : Nat) (D : List Vo.Pc) (p : Vo.Pc) (w : World) (e : Ending) (w' : World) : Prop :=
  e = .returned (.int .i64 (Vo.errAt D p : Nat)) ∧ SeenAt w' sb base (if Vo.errAt D p = 0 then D ++ [p] else D) ∧ Below base w w'
theorem IsSeen.bad {sb base : Nat} {D : List Vo.Pc} {p : Vo.Pc} {w w' : World} {x : Int} {n : Nat} (h : Vo.errAt D p = n) (hn : n ≠ 0) (hx : x = (n : Int)) (hs : SeenAt w' sb base D) (hb : Below base w w') : IsSeen sb base D p w (.returned (.int .i64 x)) w' := by
  subst hx
  exact ⟨by rw [h], by rw [h, if_neg hn]; exact hs, hb⟩

set_option maxHeartbeats 1000000 in
theorem rsbyte_any (sb base : Nat) (D : List Vo.Pc) (p : Vo.Pc) (w : World) (hp : PcOk p) (hj : p.join = false) (hD : D.length ≤ 4096) (hb : base ≤ w.heap.size) (h : SeenAt w sb base D) :
    Calls Try.prog 65 #[.pointer (some ⟨sb, 0, none⟩), pcV p] w (IsSeen sb base D p w) := by
  obtain ⟨j, b, l, r, k⟩ := p
  obtain ⟨hpb, hpl, hpr, hpk⟩ := hp
  simp only at hj hpb hpl hpr hpk
  subst hj
  obtain ⟨v, hv⟩ := h
  obtain ⟨A, c, rfl, _⟩ := hv.own.form_
  rw [Vo.sizes_len] at hv
  -- the parameter's box
  obtain ⟨o, ho⟩ : ∃ o : Obj, o = .cells #[.bool false, .int .u8 (b : Nat), .int .i64 l, .int .i64 r, .int .u32 (k : Nat)] 45 := ⟨_, rfl⟩
  obtain ⟨W, hW⟩ : ∃ W, w.alloc o = W := ⟨_, rfl⟩
  have hcell : ∀ (i : Nat) (u : Value), #[.bool false, .int .u8 (b : Nat), .int .i64 l, .int .i64 r, .int .u32 (k : Nat)][i]? = some u → W.cell? ⟨w.heap.size, i, none⟩ = some u := fun i u hi => by
    subst hW ho
    rw [cell_of_row _ w.heap.size i _ _ _ (heap_alloc_new w _)]
    exact hi
  have c1 := hcell 1 _ rfl
  have c2 := hcell 2 _ rfl
  have c3 := hcell 3 _ rfl
  have c4 := hcell 4 _ rfl
  have hvW : SeenR W sb base (.slice A D.length c) (Vo.sizes D) (Vo.bits D) (Vo.bytesOf D) := by rw [← hW]; exact hv.alloc_ _
  have hbW : Below base w W := by rw [← hW]; exact (Below.refl _ _).alloc hb _
  have hsW : base ≤ W.heap.size := Nat.le_trans hb hbW.size
  subst ho
  unfold pcV
  clear hcell
  by_cases hbad : l ≠ 0 ∨ r ≠ 0 ∨ k ≠ 0
  · have HX : Hid (Vo.errAt D ⟨false, b, l, r, k⟩ = 5) := by unfold Hid Vo.errAt; rw [if_neg (by simp), if_pos hbad]
    have HS := Lib.hid hvW
    have HB := Lib.hid hbW
    clear hvW hbW hv
    have fin : IsSeen sb base D ⟨false, b, l, r, k⟩ w (.returned (.int .i64 5)) W := IsSeen.bad HX.out (by decide) rfl ⟨_, HS.out⟩ HB.out
    have FIN := Lib.hid fin
    clear fin
    rcases Decidable.em (l = 0) with rfl | h1
    · rcases Decidable.em (r = 0) with rfl | h2
      · have h3 : ((k : Int) != 0) = true := by rw [bne_iff_ne]; omega
        clear hbad
        go_enter Try.func65, Try.ntmps65
        go_wp2
        go_ret
        exact FIN.out
      · have h3 : (r != 0) = true := by rw [bne_iff_ne]; exact h2
        clear hbad h2
        go_enter Try.func65, Try.ntmps65
        go_wp2
        go_ret
        exact FIN.out
    · have h3 : (l != 0) = true := by rw [bne_iff_ne]; exact h1
      clear hbad h1
      go_enter Try.func65, Try.ntmps65
      go_wp2
      go_ret
      exact FIN.out
  · obtain ⟨rfl, rfl, rfl⟩ : l = 0 ∧ r = 0 ∧ k = 0 := by omega
    clear hbad
    have hW0 : w.alloc (.cells #[.bool false, .int .u8 (b : Nat), .int .i64 0, .int .i64 0, .int .u32 0] 45) = W := hW
    have c40 : W.cell? ⟨w.heap.size, 4, none⟩ = some (.int .u32 0) := c4
    clear hW c4
    have hbit := hvW.bool_ (Vo.bits_at (D := D) hpb)
    have hbi : (b : Int) < 256 := by omega
    cases ht : Vo.hasByte D ⟨false, b, 0, 0, 0⟩ with
    | true =>
      have HX : Hid (Vo.errAt D ⟨false, b, 0, 0, 0⟩ = 8) := by unfold Hid Vo.errAt; rw [if_neg (by simp), if_neg (by simp), if_pos ht]
      rw [Vo.hasByte_bits] at ht
      simp only at ht
      rw [ht] at hbit
      have HS := Lib.hid hvW
      have HB := Lib.hid hbW
      clear ht hvW hbW hv
      go_enter Try.func65, Try.ntmps65
      go_wp2
      go_quiet (fail)
      go_wp2
      go_ret
      exact IsSeen.bad HX.out (by decide) rfl ⟨_, HS.out.drewN_ _⟩ (below_drewN HB.out _)
    | false =>
      have HX : Hid (Vo.errAt D ⟨false, b, 0, 0, 0⟩ = 0) := by unfold Hid Vo.errAt; rw [if_neg (by simp), if_neg (by simp), if_neg (by rw [ht]; simp)]
      rw [Vo.hasByte_bits] at ht
      simp only at ht
      rw [ht] at hbit
      have HS := Lib.hid hvW
      have HB := Lib.hid hbW
      clear ht hvW hbW hv
      go_enter Try.func65, Try.ntmps65
      go_wp2
      go_quiet (fail)
      generalize hW9 : W.drewN _ = w9
      have HS9 : Hid (SeenR w9 sb base (.slice A D.length c) (Vo.sizes D) (Vo.bits D) (Vo.bytesOf D)) := by unfold Hid; rw [← hW9]; exact HS.out.drewN_ _
      have HB9 : Hid (Below base w w9) := by unfold Hid; rw [← hW9]; exact below_drewN HB.out _
      have hc1 : w9.cell? ⟨w.heap.size, 1, none⟩ = some (.int .u8 (b : Nat)) := by rw [← hW9]; exact c1
      have hbit9 := HS9.out.bool_ (Vo.bits_at (D := D) hpb)
      have hcl := HS9.out.cool_ (1 + b)
      clear hW9 hW0 c1 c2 c3 c40 hbit
      go_wp2
      go_region
      obtain ⟨W2, hW2⟩ : ∃ W2, (w9.setCell ⟨sb, 1 + b, none⟩ (.bool true)).drew = W2 := ⟨_, rfl⟩
      have HS2 : Hid (SeenR W2 sb base (.slice A D.length c) (Vo.sizes D) ((Vo.bits D).set b true) (Vo.bytesOf D)) := by unfold Hid; rw [← hW2]; exact (HS9.out.setBool_ hpb true).drew_
      have HB2 : Hid (Below base w W2) := by unfold Hid; rw [← hW2]; exact (HB9.out.setCell (p := ⟨sb, 1 + b, none⟩) HS9.out.low _).drew
      obtain ⟨m, hm⟩ : ∃ m, Vo.bytesOf D = m := ⟨_, rfl⟩
      have HM := Lib.hid hm
      have hm2 : m ≤ 4096 := by rw [← hm]; exact Nat.le_trans (Vo.bytesOf_le D) hD
      rw [hm] at HS2
      have hcm := HS2.out.many_
      have hfm := HS2.out.cool_ 257
      obtain ⟨W3, hW3⟩ : ∃ W3, W2.setCell ⟨sb, 257, none⟩ (.int .i64 ((m : Int) + 1)) = W3 := ⟨_, rfl⟩
      have HS3 : Hid (SeenR W3 sb base (.slice A D.length c) (Vo.sizes D) ((Vo.bits D).set b true) (m + 1)) := by unfold Hid; rw [← hW3]; exact HS2.out.setMany_ (m + 1)
      have HB3 : Hid (Below base w W3) := by unfold Hid; rw [← hW3]; exact HB2.out.setCell (p := ⟨sb, 257, none⟩) HS2.out.low _
      have hc0 := HS3.out.slice_
      have hI : I64 (1 : Int) := by unfold I64; omega
      have HL : Hid ((Vo.sizes D).length = D.length) := Vo.sizes_len D
      have hb3 : base ≤ W3.heap.size := Nat.le_trans hb HB3.out.size
      rw [hW2]
      clear hW2 hcl hbit9 hc1 hm HS9 HB9
      go_wp2_with (at_builtin; go_must (refine wpList_push_m _ iK rfl _ _ rfl base _ rfl (Vo.sizes D) HS3.out.own rfl (1 : Int) hI _ rfl _ rfl (by rw [HL.out]; show _ * 8 ≤ _; omega) (by rw [HL.out]; simp only [maxLen]; omega) hb3 ?_; intro A3 c3 w4 hA hG hM; have hc4 := (HS3.out.grown_ hG).1; have hf4 := (HS3.out.grown_ hG).2))
      have HS5 := HS3.out.setSlice_ hG hA hM
      have HB5 := (HB3.out.grown hG hb3 (fun k hk => (HS3.out.own.lt_ k hk).1)).setCell (p := ⟨sb, 0, none⟩) HS3.out.low (.slice A3 (D.length + 1) c3)
      rw [HL.out] at HS5 ⊢
      have HS6 := Lib.hid HS5
      have HB6 := Lib.hid HB5
      clear HS5 HB5 hA hG hM hc4 hf4
      go_wp2
      go_ret
      refine ⟨by rw [HX.out]; rfl, ?_, HB6.out⟩
      rw [HX.out, if_pos rfl]
      refine ⟨.slice A3 (D.length + 1) c3, ?_⟩
      rw [Vo.sizes_byte rfl, Vo.bits_byte rfl hpb, Vo.bytesOf_byte rfl, HM.out]
      exact HS6.out
end Go.Proofs.Ytglkhgchbnkekaa
