/-
  Rec: A deferred closure whose first operation is recover: what follows it is walked as any body is.
  SpMath: Mathematics of the program's way through a block: words grown byte by byte.
  SpWords: The program's words: sha.constants, beginning, choice, majority, turning and what it answers.
-/
import Derived.Test.YtglkhgchbnkekaaProg
import Derived.WalkKit
import Derived.Defers
import Derived.Recover
import Derived.Test.YtglkhgchbnkekaaPk22
namespace Go.Proofs.Ytglkhgchbnkekaa
open Go.RowKit
set_option linter.unusedVariables false

/-- What recover hands out, and the callers' frames behind it. -/
def recD (cs : List Frame) : Value × List Frame := match recoverD cs with | some r => r | none => (.nilIface, cs)
theorem wpS_recover {P : Program} {id : Nat} {o : Oper} {l : List Oper} {y : Code} {Q : Exit → Act → List Frame → World → Prop} {a : Act} {cs cs' : List Frame} {w : World} {v : Value}
    (hw : Region.wanted o (yielded (o :: l).toArray a.tmps) = true) (hx : (execOp a.eval o).run P w = .ok .recover w) (hrec : recD cs = (v, cs'))
    (h : wpList P (o :: l).toArray (Exit.then (y.wp P (fun e a w => Q e a cs' w)) (fun e a w => Q e a cs' w)) l (a.put o.dst v) w) :
    (Code.seq (Code.region id (o :: l).toArray false) y).wpS P Q a cs w := by
  refine wpS_seq ?_
  intro b k hb hro
  have h1 : wpOps P (o :: l).toArray (Exit.then (y.wp P (fun e a w => Q e a cs' w)) (fun e a w => Q e a cs' w)) (List.range' 1 l.length) (a.put o.dst v) w := by
    rw [wpOps_eq_wpList l 1 (by intro j; simp [Nat.add_comm])]; exact h
  obtain ⟨e, a', w', hq, harr⟩ := wp_ops _ _ _ h1 b k cs'
  have ho : (o :: l).toArray[0]? = some o := by simp
  have hg := stepG_op (P := P) (b := b) (k := k) (cs := cs) (w := w) (rest := List.range' 1 l.length) ho hw
  have hfin : ∀ v, (b.at a (.inRegion (o :: l).toArray (0 :: List.range' 1 l.length) :: k)).finish v = b.at (a.put o.dst v) (.inRegion (o :: l).toArray (List.range' 1 l.length) :: k) := by
    intro v; rw [Frame.finish_at, ho]; rfl
  have hk : (b.at a (.inRegion (o :: l).toArray (0 :: List.range' 1 l.length) :: k)).kind = .deferred := hb
  have htr := tryRecover_deferred hk cs
  have hrg : List.range (o :: l).toArray.size = 0 :: List.range' 1 l.length := by
    rw [List.range_eq_range']; simp [List.range'_succ]
  have hs0 : step P (lone (b.at a (.code (.region id (o :: l).toArray false) :: k)) cs w) = .next (lone (b.at a (.inRegion (o :: l).toArray (0 :: List.range' 1 l.length) :: k)) cs w) := by
    rw [step_region, hrg]
  have hs1 : step P (lone (b.at a (.inRegion (o :: l).toArray (0 :: List.range' 1 l.length) :: k)) cs w) = .next (lone (b.at (a.put o.dst v) (.inRegion (o :: l).toArray (List.range' 1 l.length) :: k)) cs' w) := by
    refine step_lone_go ?_
    rw [hg, ← hfin]
    simp only [Frame.at] at htr ⊢
    unfold recD at hrec
    cases hr : recoverD cs with
    | none =>
      rw [hr] at hrec
      injection hrec with e1 e2
      subst e1 e2
      simp [stepG.apply, hx, htr, hr]
    | some r =>
      rw [hr] at hrec
      obtain ⟨r1, r2⟩ := r
      injection hrec with e1 e2
      subst e1 e2
      simp [stepG.apply, hx, htr, hr]
  refine ⟨e, a', cs', w', ?_, .of_steps (.head hs0 (.one hs1)) harr⟩
  cases e with
  | normal => exact wpS_of_wp hq
  | exit id => exact hq
  | goto l => exact hq
  | ret => exact hq
  | panic ch => exact hq
  | outgrown => exact hq
end Go.Proofs.Ytglkhgchbnkekaa
namespace Go.Proofs.Ytglkhgchbnkekaa
open Go.RowKit
set_option linter.unusedVariables false

namespace Sh
/-- The 64 words behind the first i bytes. -/
def ws (b : List Nat) : Nat → List W32
  | 0 => List.replicate 64 0
  | i + 1 => (ws b i).set (i / 4) ((ws b i).getD (i / 4) 0 <<< 8 ||| BitVec.ofNat 32 (b.getD i 0))
theorem ws_len (b : List Nat) (i : Nat) : (ws b i).length = 64 := by
  induction i with
  | zero => rfl
  | succ i ih => rw [ws, List.length_set, ih]
theorem four (x c0 c1 c2 c3 : W32) (hx : x = 0) : ((((x <<< 8 ||| c0) <<< 8 ||| c1) <<< 8 ||| c2) <<< 8 ||| c3) = word c0 c1 c2 c3 := by
  subst hx
  unfold word
  have hz : ∀ n : Nat, (0 : W32) <<< n = 0 := fun n => by simp
  have hz2 : ∀ c : W32, (0 : W32) ||| c = c := fun c => by simp
  simp only [BitVec.shiftLeft_or_distrib, ← BitVec.shiftLeft_add, hz, hz2, Nat.reduceAdd]
theorem ws_four (b : List Nat) {m : Nat} (h : m < 64) (h0 : (ws b (4 * m)).getD m 0 = 0) :
    ws b (4 * (m + 1)) = (ws b (4 * m)).set m (word (BitVec.ofNat 32 (b.getD (4 * m) 0)) (BitVec.ofNat 32 (b.getD (4 * m + 1) 0)) (BitVec.ofNat 32 (b.getD (4 * m + 2) 0)) (BitVec.ofNat 32 (b.getD (4 * m + 3) 0))) := by
  have e : 4 * (m + 1) = 4 * m + 1 + 1 + 1 + 1 := by omega
  have hl := ws_len b (4 * m)
  have d0 : 4 * m / 4 = m := by omega
  have d1 : (4 * m + 1) / 4 = m := by omega
  have d2 : (4 * m + 1 + 1) / 4 = m := by omega
  have d3 : (4 * m + 1 + 1 + 1) / 4 = m := by omega
  have g (l : List W32) (hl : l.length = 64) (x y : W32) : (l.set m x).set m ((l.set m x).getD m 0 <<< 8 ||| y) = l.set m (x <<< 8 ||| y) := by
    rw [List.getD_eq_getElem?_getD, List.getElem?_set_self (by omega), List.set_set]; rfl
  have e1 : ws b (4 * m + 1) = (ws b (4 * m)).set m ((ws b (4 * m)).getD m 0 <<< 8 ||| BitVec.ofNat 32 (b.getD (4 * m) 0)) := by rw [ws, d0]
  have e2 : ws b (4 * m + 1 + 1) = (ws b (4 * m)).set m (((ws b (4 * m)).getD m 0 <<< 8 ||| BitVec.ofNat 32 (b.getD (4 * m) 0)) <<< 8 ||| BitVec.ofNat 32 (b.getD (4 * m + 1) 0)) := by
    rw [ws, d1, e1, g _ hl]
  have e3 : ws b (4 * m + 1 + 1 + 1) = (ws b (4 * m)).set m ((((ws b (4 * m)).getD m 0 <<< 8 ||| BitVec.ofNat 32 (b.getD (4 * m) 0)) <<< 8 ||| BitVec.ofNat 32 (b.getD (4 * m + 1) 0)) <<< 8 ||| BitVec.ofNat 32 (b.getD (4 * m + 1 + 1) 0)) := by
    rw [ws, d2, e2, g _ hl]
  rw [e, ws, d3, e3, g _ hl, four _ _ _ _ _ h0]
theorem ws_sched (b : List Nat) : ∀ m, m ≤ 16 → ws b (4 * m) = sched b m ++ List.replicate (64 - m) 0
  | 0, _ => rfl
  | m + 1, h => by
    have ih := ws_sched b m (by omega)
    have hm : 64 - m = (64 - (m + 1)) + 1 := by omega
    have h0 : (ws b (4 * m)).getD m 0 = 0 := by
      rw [ih, List.getD_eq_getElem?_getD, List.getElem?_append_right (by rw [sched_len]; omega), sched_len, Nat.sub_self, hm]; rfl
    rw [ws_four b (by omega) h0, sched_word b (by omega), ih, hm, List.replicate_succ, List.set_append_right _ _ (by rw [sched_len]; omega), sched_len, Nat.sub_self, List.set_cons_zero, List.append_assoc]
    rfl
theorem mix (a b c d : W32) : a + c + b + d = a + b + c + d := by
  rw [BitVec.add_assoc a c b, BitVec.add_comm c b, ← BitVec.add_assoc]
end Sh

/-- The words' array behind i bytes. -/
def wsv (b : List Nat) (i : Nat) : Array Value := wvs (Sh.ws b i)
theorem wsv_zero (b : List Nat) : wsv b 0 = noughts52 := by rfl
theorem wsv_sch (b : List Nat) : wsv b 64 = sch b 16 := by
  unfold wsv sch
  rw [Sh.ws_sched b 16 (by omega)]
theorem wsv_at (b : List Nat) {i j : Nat} (h : j < 64) : (wsv b i)[j]? = some (.int .u32 (nt ((Sh.ws b i).getD j 0) : Nat)) := wvs_at _ (by rw [Sh.ws_len]; exact h)
theorem wsv_set (b : List Nat) (i : Nat) (x : Sh.W32) (hx : (Sh.ws b i).getD (i / 4) 0 <<< 8 ||| BitVec.ofNat 32 (b.getD i 0) = x) : (wsv b i).setIfInBounds (i / 4) (.int .u32 (nt x : Nat)) = wsv b (i + 1) := by
  unfold wsv wvs
  rw [Sh.ws, hx]
  apply Array.ext'
  rw [Array.toList_setIfInBounds, List.map_set]
  rfl
theorem wsv_size (b : List Nat) (i : Nat) : (wsv b i).size = 64 := by simp [wsv, wvs, Sh.ws_len]
end Go.Proofs.Ytglkhgchbnkekaa
namespace Go.Proofs.Ytglkhgchbnkekaa
open Go.RowKit
set_option linter.unusedVariables false

/-- A call that answers the constants, and turns nothing that was there. -/
def IsK (w : World) (e : Ending) (w' : World) : Prop := e = .returned (.agg kcells) ∧ Below w.heap.size w w'

set_option maxHeartbeats 1000000 in
set_option maxRecDepth 100000 in
theorem constants_any (w : World) : Calls Try.prog 80 #[] w (IsK w) := by
  go_enter Try.func80, Try.ntmps80
  go_wp2_with (first
    | (refine wpList_build_at rfl _ _ rfl kcells (by kernel_rfl) ?_)
    | (refine wpList_store_row rfl _ _ _ rfl w.heap.size kcells rfl rfl 109 _ (heap_alloc_new w _) (by rw [kcells_size]; exact size52) (by rw [kcells_size]; rfl) kcells_one ?_
       rw [World.setRow_alloc_new]))
  refine bodyPost_ret (v := .agg kcells) (results_cell_row rfl _ _ w.heap.size 109 _ (0, 0) _ rfl (heap_alloc_new w _) Try.underlying109 rfl (by rw [kcells_size]; exact size52)) rfl ⟨rfl, (Below.refl w.heap.size w).alloc (Nat.le_refl _) _⟩

set_option maxHeartbeats 1000000 in
set_option maxRecDepth 100000 in
theorem beginning_any (w : World) : Calls Try.prog 67 #[] w (IsSt Sh.begin w) := by
  go_enter Try.func67, Try.ntmps67
  go_wp2_with (first
    | (refine wpList_build_at rfl _ _ rfl (stv Sh.begin) (by kernel_rfl) ?_)
    | (refine wpList_store_row rfl _ _ _ rfl w.heap.size (stv Sh.begin) rfl rfl 83 _ (heap_alloc_new w _) (by rw [stv_size]; exact size23) (by rw [stv_size]; rfl) (stv_one _) ?_
       rw [World.setRow_alloc_new]))
  refine bodyPost_ret (v := .agg (stv Sh.begin)) (results_cell_row rfl _ _ w.heap.size 83 _ (0, 0) _ rfl (heap_alloc_new w _) Try.underlying83 rfl (by rw [stv_size]; exact size23)) rfl ⟨rfl, (Below.refl w.heap.size w).alloc (Nat.le_refl _) _⟩

set_option maxRecDepth 100000 in
theorem choice_any (x y z : Sh.W32) (w : World) : Calls Try.prog 86 #[.int .u32 (nt x : Nat), .int .u32 (nt y : Nat), .int .u32 (nt z : Nat)] w (IsW (Sh.ch x y z) w) := by
  have h1 := and_bv
  have h2 := or_bv
  go_enter Try.func86, Try.ntmps86
  go_wp2_with (refine wpList_notu rfl _ _ rfl _ rfl ?_)
  go_ret
  exact ⟨by rfl, rfl⟩
set_option maxRecDepth 100000 in
theorem majority_any (x y z : Sh.W32) (w : World) : Calls Try.prog 87 #[.int .u32 (nt x : Nat), .int .u32 (nt y : Nat), .int .u32 (nt z : Nat)] w (IsW (Sh.maj x y z) w) := by
  have h1 := and_bv
  have h2 := or_bv
  go_enter Try.func87, Try.ntmps87
  go_wp2
  go_ret
  exact ⟨by rfl, rfl⟩

/-- What turning answers: a function over the cell at g. -/
abbrev turner (g : Nat) : Value := .func (.func 88) #[] #[.pointer (some ⟨g, 0, none⟩)]
set_option maxRecDepth 100000 in
theorem turning_any (x : Sh.W32) (w : World) : Calls Try.prog 85 #[.int .u32 (nt x : Nat)] w (fun e w' => e = .returned (turner w.heap.size) ∧ w' = w.alloc (.cells #[.int .u32 (nt x : Nat)] 43)) := by
  have hmf : ∀ (fn : Fn) (first cap : Array Value) (w : World), (Instr.makeFunc fn first cap).run Try.prog w = .ok (.func fn first cap) w := fun _ _ _ _ => rfl
  go_enter Try.func85, Try.ntmps85
  go_wp2
  go_ret
  exact ⟨by rfl, rfl⟩
set_option maxHeartbeats 400000 in
set_option maxRecDepth 100000 in
theorem turn1_any (x : Sh.W32) (n g : Nat) (hn : n ≤ 32) (w : World) (hc : w.cell? ⟨g, 0, none⟩ = some (.int .u32 (nt x : Nat))) :
    Calls Try.prog 88 #[.int .u64 n, .pointer (some ⟨g, 0, none⟩)] w (IsW (Sh.rot x n) w) := by
  have h1 := shr_bv x n
  have h2 := shl_bv x (32 - n)
  have h3 := or_bv (x >>> n) (x <<< (32 - n))
  have h4 : ((32 : Int) - (n : Int)).toNat = 32 - n := by omega
  have h5 : (0 : Int) ≤ 32 - (n : Int) := by omega
  have h6 : ((32 : Int) - (n : Int)) % 18446744073709551616 = 32 - (n : Int) := by omega
  go_enter Try.func88, Try.ntmps88
  go_wp2
  go_ret
  exact ⟨by rfl, rfl⟩
end Go.Proofs.Ytglkhgchbnkekaa
