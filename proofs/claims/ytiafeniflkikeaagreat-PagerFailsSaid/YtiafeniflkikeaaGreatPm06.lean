/- Parts of the proof. -/
import Derived.Test.YtiafeniflkikeaaGreatRows
import Derived.Test.YtiafeniflkikeaaGreatPm04
import Derived.ProofKit
import Derived.OpenShut
import Derived.ShutString
import Derived.ChangeOld
import Derived.Below
import Derived.Test.YtiafeniflkikeaaGreatProg
import Derived.Test.YtiafeniflkikeaaGreatPm05
import Derived.SizedLaws
namespace Go.Proofs.YtiafeniflkikeaaGreat
open Go.ChangeShapes Go.WideShapes Go.ChangeAt Go.RowKit
open Go.ChangeMaps (open_string shut_string)
set_option linter.unusedVariables false
theorem own : ownKnob Tryz.prog.godebug = none := by kernel_rfl
theorem laidOut : laidOutB Tryz.prog = true := by kernel_rfl
end Go.Proofs.YtiafeniflkikeaaGreat
namespace Go.Proofs.YtiafeniflkikeaaGreat
open Go.RowKit
set_option linter.unusedVariables false
def iK : El Tryz.prog Int where
 e := 3
 s := 51
 size := 1
 bytes := 8
 zero := .int .i64 0
 z := 0
 enc := fun x => [.int .i64 x]
 ok := I64
 len := fun _ => rfl
 one := fun x u hu => by simp at hu; subst hu; rfl
 okz := by unfold I64; omega
 encz := rfl
 pos := by decide
 under := Tryz.underlying51
 info := by kernel_rfl
section
variable {w : World} {base B n c : Nat} {A : Option Addr} {l : List Int}
theorem Lv.int_ (h : Lv iK w B (.slice A n c) l) {k : Nat} (hk : k < l.length) :
  ∃ b off x, A = some ⟨b, off, none⟩ ∧ b < B ∧ I64 x ∧ l[k]? = some x ∧ w.cell? ⟨b, off + k, none⟩ = some (.int .i64 x) := by
 obtain ⟨b, off, x, h1, h2, h3, h4, h5⟩ := h.at_ hk
 have h6 := h5 0 (.int .i64 x) rfl
 refine ⟨b, off, x, h1, h2, h3, h4, ?_⟩
 have e : off + (k * iK.size + 0) = off + k := by show off + (k * 1 + 0) = _; omega
 rw [e] at h6
 exact h6
end
end Go.Proofs.YtiafeniflkikeaaGreat
namespace Go.Proofs.YtiafeniflkikeaaGreat
open Go.ChangeShapes Go.WideShapes Go.ChangeAt Go.RowKit
set_option linter.unusedVariables false
theorem i64_wf {n : Int} (h : (Lit.int .i64 n).wf = true) : I64 n := by
 have := bounds_i64 h
 unfold I64; omega
theorem list_in {P : Program} {α : Type} (K : El P α) (h1 : K.size = 1) (of : Int → α) (cell : Int → Value) {w : World} {a : Option Addr} {len cap : Nat} (wf : Int → Prop) (hok : ∀ n, wf n → K.ok (of n)) (henc : ∀ n, wf n → K.enc (of n) = [cell n])
  (h : (a = none ∧ len = 0 ∧ cap = 0) ∨ ∃ (x : Addr) (zs : List Int), a = some x ∧ len ≤ cap ∧ cap ≤ maxLen ∧ zs.length = cap ∧ (∀ i, i < zs.length → w.cell? (x.add i) = some (cell (zs.getD i 0))) ∧ ∀ n ∈ zs, wf n) :
  ∃ l : List α, l.length = len ∧ Lv K w w.heap.size (.slice a len cap) l := by
 rcases h with ⟨rfl, rfl, rfl⟩ | ⟨x, zs, rfl, hl, hm, hz, hcell, hwz⟩
 ·exact ⟨[], rfl, Lv.nil_ _ _ _⟩
 ·have hlen : ((zs.take len).map of).length = len := by simp; omega
  refine ⟨(zs.take len).map of, hlen, some x, cap, by rw [hlen], by omega, hm, by simp, ?_, fun hp => ?_⟩
  ·intro y hy
   obtain ⟨n, hn, rfl⟩ := List.mem_map.1 hy
   exact hok n (hwz n (List.mem_of_mem_take hn))
  ·rw [hlen] at hp
   obtain ⟨b, off, spot⟩ := x
   have hc := hcell 0 (by omega)
   have hspot : spot = none := by simpa [Addr.add] using World.cell?_spot hc
   subst hspot
   refine ⟨b, off, rfl, ?_, fun j u hj => ?_⟩
   ·rw [add_addr] at hc
    exact World.block_lt_of_cell? w _ hc
   ·have hj' : j < len := by
     have := (List.getElem?_eq_some_iff.1 hj).1
     rw [flat_len, hlen, h1] at this
     omega
    have h4 := hcell j (by omega)
    rw [add_addr] at h4
    have hzj : zs[j]? = some (zs.getD j 0) := by rw [List.getD_eq_getElem?_getD, List.getElem?_eq_getElem (by omega)]; rfl
    have hat : ((zs.take len).map of)[j]? = some (of (zs.getD j 0)) := by rw [List.getElem?_map, List.getElem?_take, if_pos hj', hzj]; rfl
    have h5 := flat_at (K := K) hat (j := 0) (by omega)
    rw [henc _ (hwz _ (List.mem_of_getElem? hzj)), h1, Nat.mul_one, Nat.add_zero] at h5
    rw [h5] at hj
    rw [h4]
    exact hj
theorem ints_in {w : World} {a : Option Addr} {len cap : Nat}
  (h : (a = none ∧ len = 0 ∧ cap = 0) ∨ ∃ (x : Addr) (zs : List Int), a = some x ∧ len ≤ cap ∧ cap ≤ maxLen ∧ zs.length = cap ∧ (∀ i, i < zs.length → w.cell? (x.add i) = some (.int .i64 (zs.getD i 0))) ∧ ∀ n ∈ zs, (Lit.int .i64 n).wf = true) :
  ∃ l : List Int, l.length = len ∧ Lv iK w w.heap.size (.slice a len cap) l :=
 list_in iK rfl (fun n => n) (fun n => .int .i64 n) (fun n => (Lit.int .i64 n).wf = true) (fun n h => i64_wf h) (fun n h => rfl) h
end Go.Proofs.YtiafeniflkikeaaGreat
namespace Go.Proofs.YtiafeniflkikeaaGreat
open Go.ChangeShapes Go.WideShapes Go.ChangeAt Go.RowKit
set_option linter.unusedVariables false
theorem one_cellR {L : List Value} {o : Nat} {x : Value} (h : (L.drop o).take 1 = [x]) : L[o]? = some x := by
 have h4 := congrArg (fun l => l[0]?) h
 simpa using h4
set_option maxRecDepth 100000 in
theorem rt_dec {H : Type} {enc : TypeId × Value → H} {w : World} {sp : Nat → Bool} {held : Bool} {fuel : Nat} {cs : List Value} {x : DataW H × List MemPlace} (h : DataW.trod enc Tryz.prog w 0 sp held fuel 34 cs = some x) :
  ∃ r : Rt.Root, cs = (rtC r).toList ∧ Rt.Fit r := by
 have hf := h
 obtain ⟨xs, m, _, hxe, hl, hlen, hx⟩ := DataW.trod_struct Tryz.underlying34 hf
 have hsz7 : cs.length = 7 := hl.trans (by kernel_rfl)
 match xs, hlen, hxe with
 | [y0, y1, y2, y3, y4, y5, y6], _, hxe =>
  have cw : Tryz.prog.cellsOf 32 = 1 := by kernel_rfl
  have ci : Tryz.prog.cellsOf 3 = 1 := by kernel_rfl
  have f0 : DataW.trod enc Tryz.prog w 0 sp held m 32 ((cs.drop 0).take (Tryz.prog.cellsOf 32)) = some y0 := hx 0 _ rfl
  have f1 : DataW.trod enc Tryz.prog w 0 sp held m 3 ((cs.drop 1).take (Tryz.prog.cellsOf 3)) = some y1 := hx 1 _ rfl
  have f2 : DataW.trod enc Tryz.prog w 0 sp held m 3 ((cs.drop 2).take (Tryz.prog.cellsOf 3)) = some y2 := hx 2 _ rfl
  have f3 : DataW.trod enc Tryz.prog w 0 sp held m 32 ((cs.drop 3).take (Tryz.prog.cellsOf 32)) = some y3 := hx 3 _ rfl
  have f4 : DataW.trod enc Tryz.prog w 0 sp held m 32 ((cs.drop 4).take (Tryz.prog.cellsOf 32)) = some y4 := hx 4 _ rfl
  have f5 : DataW.trod enc Tryz.prog w 0 sp held m 3 ((cs.drop 5).take (Tryz.prog.cellsOf 3)) = some y5 := hx 5 _ rfl
  have f6 : DataW.trod enc Tryz.prog w 0 sp held m 3 ((cs.drop 6).take (Tryz.prog.cellsOf 3)) = some y6 := hx 6 _ rfl
  rw [cw] at f0
  obtain ⟨z0, g0, _, b0⟩ := DataW.trod_int Tryz.underlying32 f0
  have hz0 := bounds_u64 b0
  have e0 := one_cellR g0
  rw [ci] at f1
  obtain ⟨z1, g1, _, b1⟩ := DataW.trod_int Tryz.underlying3 f1
  have hz1 := bounds_i64 b1
  have e1 := one_cellR g1
  rw [ci] at f2
  obtain ⟨z2, g2, _, b2⟩ := DataW.trod_int Tryz.underlying3 f2
  have hz2 := bounds_i64 b2
  have e2 := one_cellR g2
  rw [cw] at f3
  obtain ⟨z3, g3, _, b3⟩ := DataW.trod_int Tryz.underlying32 f3
  have hz3 := bounds_u64 b3
  have e3 := one_cellR g3
  rw [cw] at f4
  obtain ⟨z4, g4, _, b4⟩ := DataW.trod_int Tryz.underlying32 f4
  have hz4 := bounds_u64 b4
  have e4 := one_cellR g4
  rw [ci] at f5
  obtain ⟨z5, g5, _, b5⟩ := DataW.trod_int Tryz.underlying3 f5
  have hz5 := bounds_i64 b5
  have e5 := one_cellR g5
  rw [ci] at f6
  obtain ⟨z6, g6, _, b6⟩ := DataW.trod_int Tryz.underlying3 f6
  have hz6 := bounds_i64 b6
  have e6 := one_cellR g6
  refine ⟨⟨z0.toNat, z1, z2, z3.toNat, z4.toNat, z5, z6⟩, ?_, ?_⟩
  ·apply List.ext_getElem?
   intro i
   by_cases h7 : i < 7
   ·have hi : i = 0 ∨ i = 1 ∨ i = 2 ∨ i = 3 ∨ i = 4 ∨ i = 5 ∨ i = 6 := by omega
    rcases hi with rfl | rfl | rfl | rfl | rfl | rfl | rfl
    ·rw [e0]
     show some (Value.int .u64 z0) = some (Value.int .u64 ((z0.toNat : Nat) : Int))
     rw [show ((z0.toNat : Nat) : Int) = z0 by omega]
    ·rw [e1]
     rfl
    ·rw [e2]
     rfl
    ·rw [e3]
     show some (Value.int .u64 z3) = some (Value.int .u64 ((z3.toNat : Nat) : Int))
     rw [show ((z3.toNat : Nat) : Int) = z3 by omega]
    ·rw [e4]
     show some (Value.int .u64 z4) = some (Value.int .u64 ((z4.toNat : Nat) : Int))
     rw [show ((z4.toNat : Nat) : Int) = z4 by omega]
    ·rw [e5]
     rfl
    ·rw [e6]
     rfl
   ·rw [List.getElem?_eq_none (by omega), List.getElem?_eq_none (by show 7 ≤ i; omega)]
  ·constructor <;> (try unfold I64) <;> simp only <;> omega
end Go.Proofs.YtiafeniflkikeaaGreat
