/- Parts of the proof. -/
import Derived.Test.YtiafeniflkikeaaGreatPk10
import Derived.Test.YtiafeniflkikeaaGreatProg
import Derived.WalkKit
import Derived.Test.YtiafeniflkikeaaGreatPk03
import Derived.Deep.MidRow
import Derived.Test.YtiafeniflkikeaaGreatPk08
import Derived.Laws.CopyOwn
namespace Go.Proofs.YtiafeniflkikeaaGreat
open Go.RowKit
set_option linter.unusedVariables false
theorem equal4 {s t : List Nat} (hs : s.length = 4) (ht : t.length = 4) (hs8 : ∀ x ∈ s, x < 256) (ht8 : ∀ x ∈ t, x < 256) (w : World) :
  (Op.equalIn 10000 167 (.agg (s.map u8).toArray) (.agg (t.map u8).toArray)).run Tryz.prog w = .ok (decide (s = t)) w := by
 have h := run_equalIn_bytes (P := Tryz.prog) w 9998 167 5 4 Tryz.underlying167 Tryz.underlying5 size_of5 (s.map UInt8.ofNat) (t.map UInt8.ofNat) (by simpa using hs) (by simpa using ht)
 rw [cells_u8 hs8, cells_u8 ht8, u8_inj hs8 ht8] at h
 exact h
end Go.Proofs.YtiafeniflkikeaaGreat
namespace Go.Proofs.YtiafeniflkikeaaGreat
open Go.RowKit
set_option linter.unusedVariables false
theorem equalIn_slice_nil (w : World) (d : Nat) (A : Option Addr) (n c : Nat) : (Op.equalIn (d + 1) 40 (.slice A n c) (.slice none 0 0)).run Tryz.prog w = .ok A.isNone w := by
 cases A <;> simp [Op.equalIn, run_underlying Tryz.underlying40]
theorem eql_nil_slice (w : World) (A : Option Addr) (n c : Nat) : (binOp .eql 40 (.slice A n c) (.slice none 0 0)).run Tryz.prog w = .ok (.bool A.isNone) w := by
 simp only [binOp]
 simp [show Op.equal 40 (.slice A n c) (.slice none 0 0) = Op.equalIn (9999 + 1) 40 (.slice A n c) (.slice none 0 0) from rfl, equalIn_slice_nil w 9999 A n c]
end Go.Proofs.YtiafeniflkikeaaGreat
namespace Go.Proofs.YtiafeniflkikeaaGreat
open Go.RowKit
set_option linter.unusedVariables false
theorem exec_load_row {P : Program} {a : Act} {o : Oper} (ty : TypeId) (x : Operand) (ho : o.op = .load ty x) (g : Nat) (hx : a.eval x = .pointer (some ⟨g, 0, none⟩)) (t : TypeId) (cs : Array Value) (fr : Nat × Nat) (d : TypeDesc) (w : World)
  (hg : w.heap[g]? = some (.cells cs t fr)) (hu : P.underlying ty = some d) (hd : (match d with | .struct _ | .array _ _ => true | _ => false) = true) (hi : (P.info? ty).map (·.size) = some cs.size) :
  (execOp a.eval o).run P w = .ok (.value (.agg cs)) w := by
 unfold execOp
 simp only [ho, hx, Instr.loadAt, Instr.sureAddr, Sem.run_bind, Sem.run_pure, Result.andThen_ok, run_loadVar_row w g t ty cs fr d hg hu hd hi]
theorem exec_load_mid {P : Program} {a : Act} {o : Oper} (ty : TypeId) (x : Operand) (ho : o.op = .load ty x) (b off : Nat) (hx : a.eval x = .pointer (some ⟨b, off, none⟩)) (cs : Array Value) (d : TypeDesc) (w : World)
  (hc : w.rangeAt b off cs.toList) (hu : P.underlying ty = some d) (hd : d.isRow = true) (hi : (P.info? ty).map (·.size) = some cs.size) : (execOp a.eval o).run P w = .ok (.value (.agg cs)) w := by
 unfold execOp
 simp only [ho, hx, Instr.loadAt, Instr.sureAddr, Sem.run_bind, Sem.run_pure, Result.andThen_ok, run_loadVar_mid w b off ty cs.toList d hc hu hd (by simpa using hi)]
end Go.Proofs.YtiafeniflkikeaaGreat
namespace Go.Proofs.YtiafeniflkikeaaGreat
open Go.RowKit
set_option linter.unusedVariables false
theorem OwnB.of_heap {w : World} {base g : Nat} {l : List Nat} (hb : base ≤ g) (hl : ∀ x ∈ l, x < 256) (hm : l.length ≤ maxLen) (h : w.heap[g]? = some (.cells (l.map u8).toArray 5 (0, 0))) :
  OwnB w base (.slice (some ⟨g, 0, none⟩) l.length l.length) l :=
 ⟨hl, by simp, .inr ⟨g, l.length, (l.map u8).toArray, rfl, hb, h, Nat.le_refl _, hm, by simp, by rw [Nat.mul_one]; exact List.take_of_length_le (by simp)⟩⟩
theorem OwnB.heap_ {w : World} {base g : Nat} {l : List Nat} (h : OwnB w base (.slice (some ⟨g, 0, none⟩) l.length l.length) l) : base ≤ g ∧ w.heap[g]? = some (.cells (l.map u8).toArray 5 (0, 0)) := by
 rcases h.2.2 with ⟨e, _⟩ | ⟨g', cap, cur, e, hb, hh, _, _, hs, ht⟩
 ·cases e
 ·injection e with e1 e2 e3
  injection e1 with e1
  injection e1 with e1
  subst e1 e3
  refine ⟨hb, ?_⟩
  rw [hh]
  congr 2
  rw [List.take_of_length_le (by rw [Array.length_toList]; omega)] at ht
  rw [← ht]
theorem zeros_heap {w : World} {base g n : Nat} (h : w.ownsRow base 5 1 (.slice (some ⟨g, 0, none⟩) n n) n (madeCells (Value.int .u8 0).cells (n * 1)).toList) :
  w.heap[g]? = some (.cells (List.replicate n (Value.int .u8 0)).toArray 5 (0, 0)) := by
 have e : (madeCells (Value.int .u8 0).cells (n * 1)).toList = (List.replicate n 0).map u8 := by
  rw [Nat.mul_one]
  show (madeCells #[Value.int .u8 0] n).toList = _
  rw [toList_madeCells_one, List.map_replicate]; rfl
 rw [e] at h
 have hl : (List.replicate n 0).length = n := List.length_replicate
 have hO : OwnB w base (.slice (some ⟨g, 0, none⟩) (List.replicate n 0).length (List.replicate n 0).length) (List.replicate n 0) := by
  refine ⟨fun x hx => by rw [List.eq_of_mem_replicate hx]; decide, ?_⟩
  rw [hl]; exact h
 have h2 := hO.heap_.2
 rw [List.map_replicate] at h2
 exact h2
end Go.Proofs.YtiafeniflkikeaaGreat
