/-
  Mathematics of the program's way through a block: words grown byte by byte.
-/
import Derived.Test.YtejipcnihgpdhaaShPressA
namespace Go.Proofs.Ytejipcnihgpdhaa
open Go.RowKit
set_option linter.unusedVariables false

namespace Sh
/-- The 64 words behind the first i bytes. -/
def ws (b : List Nat) : Nat → List W32
  | 0 => List.replicate 64 0
  | i + 1 => (ws b i).set (i / 4) ((ws b i).getD (i / 4) 0 <<< 8 ||| BitVec.ofNat 32 (b.getD i 0))
theorem ws_len (b : List Nat) (i : Nat) : (ws b i).length = 64 := by
  induction i with
  | zero => rfl
  | succ i ih => rw [ws, List.length_set, ih]
theorem four (x c0 c1 c2 c3 : W32) (hx : x = 0) : ((((x <<< 8 ||| c0) <<< 8 ||| c1) <<< 8 ||| c2) <<< 8 ||| c3) = word c0 c1 c2 c3 := by
  subst hx
  unfold word
  have hz : ∀ n : Nat, (0 : W32) <<< n = 0 := fun n => by simp
  have hz2 : ∀ c : W32, (0 : W32) ||| c = c := fun c => by simp
  simp only [BitVec.shiftLeft_or_distrib, ← BitVec.shiftLeft_add, hz, hz2, Nat.reduceAdd]
theorem ws_four (b : List Nat) {m : Nat} (h : m < 64) (h0 : (ws b (4 * m)).getD m 0 = 0) :
    ws b (4 * (m + 1)) = (ws b (4 * m)).set m (word (BitVec.ofNat 32 (b.getD (4 * m) 0)) (BitVec.ofNat 32 (b.getD (4 * m + 1) 0)) (BitVec.ofNat 32 (b.getD (4 * m + 2) 0)) (BitVec.ofNat 32 (b.getD (4 * m + 3) 0))) := by
  have e : 4 * (m + 1) = 4 * m + 1 + 1 + 1 + 1 := by omega
  have hl := ws_len b (4 * m)
  have d0 : 4 * m / 4 = m := by omega
  have d1 : (4 * m + 1) / 4 = m := by omega
  have d2 : (4 * m + 1 + 1) / 4 = m := by omega
  have d3 : (4 * m + 1 + 1 + 1) / 4 = m := by omega
  have g (l : List W32) (hl : l.length = 64) (x y : W32) : (l.set m x).set m ((l.set m x).getD m 0 <<< 8 ||| y) = l.set m (x <<< 8 ||| y) := by
    rw [List.getD_eq_getElem?_getD, List.getElem?_set_self (by omega), List.set_set]; rfl
  have e1 : ws b (4 * m + 1) = (ws b (4 * m)).set m ((ws b (4 * m)).getD m 0 <<< 8 ||| BitVec.ofNat 32 (b.getD (4 * m) 0)) := by rw [ws, d0]
  have e2 : ws b (4 * m + 1 + 1) = (ws b (4 * m)).set m (((ws b (4 * m)).getD m 0 <<< 8 ||| BitVec.ofNat 32 (b.getD (4 * m) 0)) <<< 8 ||| BitVec.ofNat 32 (b.getD (4 * m + 1) 0)) := by
    rw [ws, d1, e1, g _ hl]
  have e3 : ws b (4 * m + 1 + 1 + 1) = (ws b (4 * m)).set m ((((ws b (4 * m)).getD m 0 <<< 8 ||| BitVec.ofNat 32 (b.getD (4 * m) 0)) <<< 8 ||| BitVec.ofNat 32 (b.getD (4 * m + 1) 0)) <<< 8 ||| BitVec.ofNat 32 (b.getD (4 * m + 1 + 1) 0)) := by
    rw [ws, d2, e2, g _ hl]
  rw [e, ws, d3, e3, g _ hl, four _ _ _ _ _ h0]
theorem ws_sched (b : List Nat) : ∀ m, m ≤ 16 → ws b (4 * m) = sched b m ++ List.replicate (64 - m) 0
  | 0, _ => rfl
  | m + 1, h => by
    have ih := ws_sched b m (by omega)
    have hm : 64 - m = (64 - (m + 1)) + 1 := by omega
    have h0 : (ws b (4 * m)).getD m 0 = 0 := by
      rw [ih, List.getD_eq_getElem?_getD, List.getElem?_append_right (by rw [sched_len]; omega), sched_len, Nat.sub_self, hm]; rfl
    rw [ws_four b (by omega) h0, sched_word b (by omega), ih, hm, List.replicate_succ, List.set_append_right _ _ (by rw [sched_len]; omega), sched_len, Nat.sub_self, List.set_cons_zero, List.append_assoc]
    rfl
theorem mix (a b c d : W32) : a + c + b + d = a + b + c + d := by
  rw [BitVec.add_assoc a c b, BitVec.add_comm c b, ← BitVec.add_assoc]
end Sh

/-- The words' array behind i bytes. -/
def wsv (b : List Nat) (i : Nat) : Array Value := wvs (Sh.ws b i)
theorem wsv_zero (b : List Nat) : wsv b 0 = noughts52 := by rfl
theorem wsv_sch (b : List Nat) : wsv b 64 = sch b 16 := by
  unfold wsv sch
  rw [Sh.ws_sched b 16 (by omega)]
theorem wsv_at (b : List Nat) {i j : Nat} (h : j < 64) : (wsv b i)[j]? = some (.int .u32 (nt ((Sh.ws b i).getD j 0) : Nat)) := wvs_at _ (by rw [Sh.ws_len]; exact h)
theorem wsv_set (b : List Nat) (i : Nat) (x : Sh.W32) (hx : (Sh.ws b i).getD (i / 4) 0 <<< 8 ||| BitVec.ofNat 32 (b.getD i 0) = x) : (wsv b i).setIfInBounds (i / 4) (.int .u32 (nt x : Nat)) = wsv b (i + 1) := by
  unfold wsv wvs
  rw [Sh.ws, hx]
  apply Array.ext'
  rw [Array.toList_setIfInBounds, List.map_set]
  rfl
theorem wsv_size (b : List Nat) (i : Nat) : (wsv b i).size = 64 := by simp [wsv, wvs, Sh.ws_len]
end Go.Proofs.Ytejipcnihgpdhaa
