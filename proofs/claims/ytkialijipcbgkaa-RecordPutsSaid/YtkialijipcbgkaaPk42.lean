/-
  RcPro: The program's record.
  RcBox: Records in boxes of a law.
  VoPl: The plain vocabulary: it may be.
  TextOf: Bytes that are read as a list, as a string.
-/
import Derived.Test.YtkialijipcbgkaaPk38
import Derived.Test.YtkialijipcbgkaaPk41
import Derived.Test.YtkialijipcbgkaaPk37
import Derived.Deep.RegionHeld
import Derived.Test.YtkialijipcbgkaaPk07
import Derived.Laws.BytesArg

namespace Go.Proofs.Ytkialijipcbgkaa
open Go.RowKit
set_option linter.unusedVariables false
/-- A record's cells in a box below B. -/
def RcAt (w : World) (B g : Nat) (C : Array Value) : Prop := g < B ∧ Rw w g 27 C
theorem RcAt.below_ {w w' : World} {B B' g : Nat} {C : Array Value} (h : RcAt w B g C) (hb : Below B' w w') (hB : B ≤ B') : RcAt w' B g C := ⟨h.1, h.2.below hb (Nat.lt_of_lt_of_le h.1 hB)⟩
theorem RcAt.mono_ {w : World} {B B' g : Nat} {C : Array Value} (h : RcAt w B g C) (hB : B ≤ B') : RcAt w B' g C := ⟨Nat.lt_of_lt_of_le h.1 hB, h.2⟩
theorem rc_stored {w X : World} {N C : Array Value} (hX : (w.alloc (.cells N 27)).setRow w.heap.size C = X) :
    RcAt X X.heap.size w.heap.size C ∧ Below w.heap.size w X := by
  subst hX
  have h1 : Rw (w.alloc (.cells N 27)) w.heap.size 27 N := Rw.new w _ _
  exact ⟨⟨(h1.row C).lt, h1.row C⟩, below_setRow ((Below.refl _ _).alloc (Nat.le_refl _) _) (Nat.le_refl _) _⟩
theorem rc_boxat {w W : World} {C : Array Value} (hW : w.alloc (.cells C 27) = W) : RcAt W W.heap.size w.heap.size C ∧ Below w.heap.size w W := by
  obtain ⟨h1, h2, h3⟩ := rc_boxed hW
  exact ⟨⟨h1.lt, h1⟩, h3⟩
/-- The cells of a record that is fit, under one letter. -/
structure RcVal (C : Array Value) : Prop where
  size : (Try.prog.info? 27).map (·.size) = some C.size
  one : C.all (·.oneCell') = true
  n35 : C.size = 35
theorem rc_val {r : Rc.Rec} {A : Option Addr} {n c : Nat} {C : Array Value} (hf : Rc.Fit r) (hC : rcC r (.slice A n c) = C) : RcVal C := by
  subst hC; exact ⟨rc_sizeof hf, rcC_one rfl, rcC_size hf⟩
theorem Rw.val_ {w : World} {g k : Nat} {t : TypeId} {C : Array Value} {v : Value} (h : Rw w g t C) (hv : C[k]? = some v) : w.cell? ⟨g, k, none⟩ = some v := (h.cell k).trans hv
/-- A load of a whole row that is guarded, where the guard lets it. -/
theorem wpList_load_row_on {P : Program} {ops : Array Oper} {rest : List Oper} {o : Oper} {a : Act} {w : World} {Q : Exit → Act → World → Prop} (hw : Region.wanted o (yielded ops a.tmps) = true) (ty : TypeId) (x : Operand) (ho : o.op = .load ty x)
    (g : Nat) (hx : a.eval x = .pointer (some ⟨g, 0, none⟩)) (t : TypeId) (cs : Array Value) (fr : Nat × Nat) (d : TypeDesc)
    (hg : w.heap[g]? = some (.cells cs t fr)) (hu : P.underlying ty = some d) (hd : (match d with | .struct _ | .array _ _ => true | _ => false) = true) (hi : (P.info? ty).map (·.size) = some cs.size)
    (h : wpList P ops Q rest (a.put o.dst (.agg cs)) w) : wpList P ops Q (o :: rest) a w :=
  wpList_step fun K hK => by
    rw [if_pos hw]
    exact wp_load_row ty x ho g hx t cs fr d hg hu hd hi (hK _ _ h)
/-- A load of a whole row, as an operation of a region that draws. -/
theorem exec_load_row {P : Program} {a : Act} {o : Oper} (ty : TypeId) (x : Operand) (ho : o.op = .load ty x) (g : Nat) (hx : a.eval x = .pointer (some ⟨g, 0, none⟩)) (t : TypeId) (cs : Array Value) (fr : Nat × Nat) (d : TypeDesc) (w : World)
    (hg : w.heap[g]? = some (.cells cs t fr)) (hu : P.underlying ty = some d) (hd : (match d with | .struct _ | .array _ _ => true | _ => false) = true) (hi : (P.info? ty).map (·.size) = some cs.size) :
    (execOp a.eval o).run P w = .ok (.value (.agg cs)) w := by
  unfold execOp
  simp only [ho, hx, Instr.loadAt, Instr.sureAddr, Sem.run_bind, Sem.run_pure, Result.andThen_ok, run_loadVar_row w g t ty cs fr d hg hu hd hi]
theorem rc_n35 : none35.size = 35 := rcC_size Rc.fit_zero
end Go.Proofs.Ytkialijipcbgkaa
namespace Go.Proofs.Ytkialijipcbgkaa.Vo
set_option linter.unusedVariables false

theorem texts_plain (n : Nat) : texts (plain n) = (List.range n).map (fun b => [b]) := by
  induction n with
  | zero => rfl
  | succ n ih => rw [plain_succ, texts_snoc, ih, List.range_succ, List.map_append]; rfl
theorem plain_at {n k : Nat} (h : k < n) : (plain n)[k]? = some ⟨false, k, 0, 0, 0⟩ := by simp [plain, h]
theorem plain_take {n k : Nat} (h : k ≤ n) : (plain n).take k = plain k := by
  unfold plain
  rw [← List.map_take, List.take_range, Nat.min_eq_left h]
theorem good_plain (n : Nat) : Good (plain n) := by
  intro k p hk
  have hl : k < n := by have := (List.getElem?_eq_some_iff.1 hk).1; rwa [plain_len] at this
  rw [plain_at hl] at hk
  obtain rfl := Option.some.inj hk
  rw [plain_take (by omega)]
  unfold errAt
  have hb : hasByte (plain k) ⟨false, k, 0, 0, 0⟩ = false := by
    unfold hasByte
    rw [List.any_eq_false]
    intro q hq
    simp only [plain, List.mem_map, List.mem_range] at hq
    obtain ⟨b, hb, rfl⟩ := hq
    simp
    omega
  rw [if_neg (by simp), if_neg (by simp), if_neg (by rw [hb]; simp)]
theorem bytesOf_plain (n : Nat) : bytesOf (plain n) = n := by
  unfold bytesOf
  rw [List.filter_eq_self.2 (by intro q hq; simp only [plain, List.mem_map, List.mem_range] at hq; obtain ⟨b, hb, rfl⟩ := hq; rfl), plain_len]
theorem may_plain : May (plain 256) := may_iff.2 ⟨by rw [plain_len]; omega, good_plain _, by rw [bytesOf_plain]; exact Nat.le_refl _⟩
end Go.Proofs.Ytkialijipcbgkaa.Vo
namespace Go.Proofs.Ytkialijipcbgkaa
open Go.RowKit
set_option linter.unusedVariables false

/-- A text of bytes that are read as a list. -/
theorem text_of {w : World} {B n c : Nat} {A : Option Addr} {l : List Nat} (h : Lv yK w B (.slice A n c) l) (h0 : 0 < l.length) :
    (convert 28 9 (.slice A n c)).run Try.prog w = .ok (.string (strOfNums (l.map (fun x : Nat => (x : Int))))) w := by
  obtain ⟨hn, _, _⟩ := h.len_
  obtain ⟨b, off, x, rfl, _⟩ := h.byte_ h0
  refine run_convert_bytes_arg w _ 5 Try.underlying28 Try.underlying5 b off n c _ (by simp [hn]) (fun i hi => ?_) _ Try.underlying9
  obtain ⟨b2, off2, y, e, _, _, hy, hc⟩ := h.byte_ (k := i) (by omega)
  obtain ⟨rfl, rfl⟩ : b = b2 ∧ off = off2 := by injection e with e; injection e with e1 e2; exact ⟨e1, e2⟩
  rw [hc]
  congr 2
  simp [List.getD_eq_getElem?_getD, hy]

end Go.Proofs.Ytkialijipcbgkaa
