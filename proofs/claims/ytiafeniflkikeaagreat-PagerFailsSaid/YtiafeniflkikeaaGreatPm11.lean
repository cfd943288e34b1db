/- Parts of the proof. -/
import Derived.Test.YtiafeniflkikeaaGreatProg
import Derived.WalkKit
import Derived.Test.YtiafeniflkikeaaGreatPm03
import Derived.Deep.MidRow
import Derived.Test.YtiafeniflkikeaaGreatPm08
namespace Go.Proofs.YtiafeniflkikeaaGreat
open Go.RowKit
set_option linter.unusedVariables false
theorem equalIn_slice_nil (w : World) (d : Nat) (A : Option Addr) (n c : Nat) : (Op.equalIn (d + 1) 40 (.slice A n c) (.slice none 0 0)).run Tryz.prog w = .ok A.isNone w := by
 cases A <;> simp [Op.equalIn, run_underlying Tryz.underlying40]
theorem eql_nil_slice (w : World) (A : Option Addr) (n c : Nat) : (binOp .eql 40 (.slice A n c) (.slice none 0 0)).run Tryz.prog w = .ok (.bool A.isNone) w := by
 simp only [binOp]
 simp [show Op.equal 40 (.slice A n c) (.slice none 0 0) = Op.equalIn (9999 + 1) 40 (.slice A n c) (.slice none 0 0) from rfl, equalIn_slice_nil w 9999 A n c]
end Go.Proofs.YtiafeniflkikeaaGreat
namespace Go.Proofs.YtiafeniflkikeaaGreat
open Go.RowKit
set_option linter.unusedVariables false
theorem exec_load_row {P : Program} {a : Act} {o : Oper} (ty : TypeId) (x : Operand) (ho : o.op = .load ty x) (g : Nat) (hx : a.eval x = .pointer (some ⟨g, 0, none⟩)) (t : TypeId) (cs : Array Value) (fr : Nat × Nat) (d : TypeDesc) (w : World)
  (hg : w.heap[g]? = some (.cells cs t fr)) (hu : P.underlying ty = some d) (hd : (match d with | .struct _ | .array _ _ => true | _ => false) = true) (hi : (P.info? ty).map (·.size) = some cs.size) :
  (execOp a.eval o).run P w = .ok (.value (.agg cs)) w := by
 unfold execOp
 simp only [ho, hx, Instr.loadAt, Instr.sureAddr, Sem.run_bind, Sem.run_pure, Result.andThen_ok, run_loadVar_row w g t ty cs fr d hg hu hd hi]
theorem exec_load_mid {P : Program} {a : Act} {o : Oper} (ty : TypeId) (x : Operand) (ho : o.op = .load ty x) (b off : Nat) (hx : a.eval x = .pointer (some ⟨b, off, none⟩)) (cs : Array Value) (d : TypeDesc) (w : World)
  (hc : w.rangeAt b off cs.toList) (hu : P.underlying ty = some d) (hd : d.isRow = true) (hi : (P.info? ty).map (·.size) = some cs.size) : (execOp a.eval o).run P w = .ok (.value (.agg cs)) w := by
 unfold execOp
 simp only [ho, hx, Instr.loadAt, Instr.sureAddr, Sem.run_bind, Sem.run_pure, Result.andThen_ok, run_loadVar_mid w b off ty cs.toList d hc hu hd (by simpa using hi)]
end Go.Proofs.YtiafeniflkikeaaGreat
namespace Go.Proofs.YtiafeniflkikeaaGreat
section
variable {P : Program} {ops : Array Oper} {rest : List Oper} {d : Option Tmp} {ty : TypeId} {pos : String} {aft : Array Edge} {a : Act} {w : World} {Q : Exit → Act → World → Prop}
theorem gate_load (t : TypeId) {x : Operand} (h : wpList P ops Q ({ dst := d, op := .load t x, type := ty, pos := pos, after := aft, guard := none } :: rest) a w) : wpList P ops Q ({ dst := d, op := .load t x, type := ty, pos := pos, after := aft, guard := none } :: rest) a w := h
theorem gate_loadG (t : TypeId) {x : Operand} {g : Nat × Bool} (h : wpList P ops Q ({ dst := d, op := .load t x, type := ty, pos := pos, after := aft, guard := some g } :: rest) a w) : wpList P ops Q ({ dst := d, op := .load t x, type := ty, pos := pos, after := aft, guard := some g } :: rest) a w := h
theorem gate_store (t : TypeId) {x y : Operand} (h : wpList P ops Q ({ dst := d, op := .store t x y, type := ty, pos := pos, after := aft, guard := none } :: rest) a w) : wpList P ops Q ({ dst := d, op := .store t x y, type := ty, pos := pos, after := aft, guard := none } :: rest) a w := h
theorem gate_build (t : TypeId) {x : Array (Nat × Operand)} (h : wpList P ops Q ({ dst := d, op := .build t x, type := ty, pos := pos, after := aft, guard := none } :: rest) a w) : wpList P ops Q ({ dst := d, op := .build t x, type := ty, pos := pos, after := aft, guard := none } :: rest) a w := h
end
end Go.Proofs.YtiafeniflkikeaaGreat
namespace Go.Proofs.YtiafeniflkikeaaGreat
open Go.RowKit
set_option linter.unusedVariables false
def IsGot (r : Nat × Nat × Nat) (w : World) (e : Ending) (w' : World) : Prop :=
 e = .returned (.tuple #[.int .u64 r.1, .int .i64 r.2.1, .int .i64 r.2.2]) ∧ Below w.heap.size w w'
theorem IsGot.of {w w' : World} {r : Nat × Nat × Nat} {n k e : Nat} (h : r = (n, k, e)) (hb : Below w.heap.size w w') : IsGot r w (.returned (.tuple #[.int .u64 (n : Nat), .int .i64 (k : Nat), .int .i64 (e : Nat)])) w' := by
 subst h; exact ⟨rfl, hb⟩
set_option maxHeartbeats 400000 in
theorem get_arg (A : Option Addr) (l : List Nat) (cap : Nat) (a : Int) (w : World) (hlen : l.length ≤ maxLen) (h : a < 0 ∨ (l.length : Int) < a) :
  Calls Tryz.prog 131 #[.slice A l.length cap, .int .i64 a] w (IsGot (Mt.get l a) w) := by
 have HR := Lib.hid (Mt.get_arg h)
 unfold maxLen at hlen
 by_cases h1 : a < 0
 ·clear h
  go_enter Tryz.func131, Tryz.ntmps131
  go_wp2
  go_step3
  go_wp2
  rw [Exit.noGoto_ret]
  go_ret3
  exact IsGot.of HR.out (Below.refl _ _)
 ·have h2 : (l.length : Int) < a := by omega
  clear h
  go_enter Tryz.func131, Tryz.ntmps131
  go_wp2
  go_step3
  go_wp2
  rw [Exit.noGoto_ret]
  go_ret3
  exact IsGot.of HR.out (Below.refl _ _)
set_option maxHeartbeats 400000 in
theorem get_end (A : Option Addr) (l : List Nat) (cap : Nat) (w : World) (hlen : l.length ≤ cap) (hcap : cap ≤ maxLen) :
  Calls Tryz.prog 131 #[.slice A l.length cap, .int .i64 l.length] w (IsGot (Mt.get l l.length) w) := by
 have HR := Lib.hid (Mt.get_err (l := l) (a := l.length) (e := 4) (by omega) (by simp [Mt.rd_nil]) (by decide))
 unfold maxLen at hcap
 by_cases hc : cap = l.length
 ·subst hc
  go_enter Tryz.func131, Tryz.ntmps131
  go_wp2
  go_step3
  go_wp2
  go_step3
  go_wp2
  refine wp_loop_rounds 1 ?_
  rw [rounds_succ]
  go_wp2
  rw [Exit.noGoto_ret]
  go_ret3
  exact IsGot.of HR.out (Below.refl _ _)
 ·go_enter Tryz.func131, Tryz.ntmps131
  go_wp2
  go_step3
  go_wp2
  go_step3
  go_wp2
  refine wp_loop_rounds 1 ?_
  rw [rounds_succ]
  go_wp2
  rw [Exit.noGoto_ret]
  go_ret3
  exact IsGot.of HR.out (Below.refl _ _)
set_option maxHeartbeats 2000000 in
set_option maxRecDepth 100000 in
theorem get_some (l : List Nat) (cap b off B a : Nat) (w : World) (hlen : l.length ≤ cap) (hcap : cap ≤ maxLen) (ha : a < l.length) (hl : Bts w B (some ⟨b, off, none⟩) l) :
  Calls Tryz.prog 131 #[.slice (some ⟨b, off, none⟩) l.length cap, .int .i64 a] w (IsGot (Mt.get l a) w) := by
 have hle : a ≤ l.length := by omega
 unfold maxLen at hcap
 have hne : ¬ cap = a := by omega
 obtain ⟨_, _, e0, _, hcell⟩ := hl.2 (by omega)
 injection e0 with e0
 injection e0 with e1 e2
 subst e1 e2
 have hlt := hl.1
 have HC := Lib.hid hcell
 have HL := Lib.hid hlt
 clear hcell hlt hl
 go_enter Tryz.func131, Tryz.ntmps131
 go_wp2
 go_step3
 go_wp2
 go_step3
 go_wp2
 go_loop [4, 7, 22] (fun x z i => ∃ (k X : Nat), k ≤ 9 ∧ a + k ≤ l.length ∧ i = .int .i64 k ∧ z = .int .i64 0 ∧ x = .int .u64 X ∧ Hid (X < 128 ^ k) ∧ Hid (Mt.rd 0 0 (l.drop a) = Mt.rd k X (l.drop (a + k)))) (fun _ _ i => l.length - (intOf i).toNat)
 case atStart => exact ⟨0, 0, by omega, by omega, rfl, rfl, rfl, by simp [Hid], rfl⟩
 case round =>
  obtain ⟨k, X, hk9, hk, rfl, rfl, rfl, HX, HR⟩ := hrel
  by_cases hin : a + k < l.length
  ·have hd := List.drop_eq_getElem_cons hin
   have hcell := HC.out (a + k) _ (List.getElem?_eq_getElem hin)
   have hc := HL.out _ (List.getElem_mem hin)
   generalize hcc : l[a + k] = c at hd hcell hc
   have HD : Hid (Mt.rd 0 0 (l.drop a) = Mt.rd k X (c :: l.drop (a + k + 1))) := by unfold Hid; rw [HR.out, hd]
   rw [← Nat.add_assoc] at hcell
   have hkin : k < l.length - a := by omega
   clear hcc hd HR HC HL
   by_cases h1 : k = 9 ∧ 1 < c
   ·have HE := Lib.hid (HD.out.trans (Mt.rd_form (.inl h1)))
    obtain ⟨rfl, h1c⟩ := h1
    clear HD HX
    go_wp2
    go_ret3
    exact IsGot.of (Mt.get_err hle HE.out (by decide)) (Below.refl _ _)
   ·by_cases h2 : 0 < k ∧ c = 0
    ·have HE := Lib.hid (HD.out.trans (Mt.rd_form (.inr h2)))
     obtain ⟨h2k, rfl⟩ := h2
     clear HD HX
     by_cases h9 : k = 9
     ·subst h9
      go_wp2
      go_ret3
      exact IsGot.of (Mt.get_err hle HE.out (by decide)) (Below.refl _ _)
     ·go_wp2
      go_ret3
      exact IsGot.of (Mt.get_err hle HE.out (by decide)) (Below.refl _ _)
    ·by_cases h3 : c < 128
     ·have HE := Lib.hid (HD.out.trans (Mt.rd_last (by omega) h3))
      clear HD
      by_cases h9 : 8 < k
      ·have h1c : c < 2 := by omega
       have hc0 : 0 < c := by omega
       have HV := Lib.hid (or_step k X c hk9 HX.out hc (by omega))
       clear h1 h2
       go_wp2
       go_ret3
       rw [HV.out, Nat.mod_eq_of_lt h3]
       obtain rfl : k = 9 := by omega
       exact IsGot.of (Mt.get_ok hle HE.out) (Below.refl _ _)
      ·have h9' : k < 9 := by omega
       have HV := Lib.hid (or_step k X c hk9 HX.out hc (by omega))
       by_cases hk0 : k < 1
       ·clear h1 h2 h9
        go_wp2
        go_ret3
        rw [HV.out, Nat.mod_eq_of_lt h3]
        exact IsGot.of (Mt.get_ok hle HE.out) (Below.refl _ _)
       ·have hc0 : 0 < c := by omega
        have hk0' : 0 < k := by omega
        clear h1 h2 hk0 h9
        go_wp2
        go_ret3
        rw [HV.out, Nat.mod_eq_of_lt h3]
        exact IsGot.of (Mt.get_ok hle HE.out) (Below.refl _ _)
     ·have h9 : k < 9 := by omega
      have HE := Lib.hid (HD.out.trans (Mt.rd_on h1 (by omega)))
      have HV := Lib.hid (or_step k X c hk9 HX.out hc (by omega))
      have HX2 := Lib.hid (Mt.step_lt (c := c) HX.out)
      clear HD h1 h2 HX
      go_wp2
      all_goals
       refine ⟨⟨_, _, _, _, _, _, _, ?rel, rfl, rfl, rfl, rfl, rfl, rfl, rfl⟩, ?measure⟩
       case rel => exact ⟨k + 1, by omega, by omega, by go_num, rfl, X + c % 128 * 128 ^ k, by rw [HV.out], HX2.out, HE.out⟩
       case measure => simp [intOf]; omega
  ·have hk0 : a + k = l.length := by omega
   have HE : Hid (Mt.rd 0 0 (l.drop a) = (0, 0, 4)) := by unfold Hid; rw [HR.out, hk0]; simp [Mt.rd_nil]
   have hkk : l.length - a ≤ k := by omega
   clear HR HC HL HX hk0
   go_wp2
   go_ret3
   exact IsGot.of (Mt.get_err hle HE.out (by decide)) (Below.refl _ _)
theorem get_any (v : Value) (l : List Nat) (B : Nat) (a : Int) (w : World) (h : Bv w B v l) :
  Calls Tryz.prog 131 #[v, .int .i64 a] w (IsGot (Mt.get l a) w) := by
 obtain ⟨A, c, rfl, h1, h2, h3, h4⟩ := h
 by_cases ha : a < 0 ∨ (l.length : Int) < a
 ·exact get_arg A l c a w (by omega) ha
 ·obtain ⟨k, rfl⟩ := Int.eq_ofNat_of_zero_le (show 0 ≤ a by omega)
  by_cases hk : k = l.length
  ·subst hk
   exact get_end A l c w h1 h2
  ·have hlt : k < l.length := by omega
   obtain ⟨b, off, rfl, _⟩ := h4.2 (by omega)
   exact get_some l c b off B k w h1 h2 hlt h4
end Go.Proofs.YtiafeniflkikeaaGreat
