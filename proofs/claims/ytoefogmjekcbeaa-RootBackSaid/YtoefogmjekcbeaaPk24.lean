/-
  Frame: From what a row says of its arguments to the words of this text.
  FrameA: From what a row says of its arguments to the words of this text: arrays of bytes, by value.
  FrameRt: From what a row says of a root (api.Root by value) to the words of this text.
-/
import Derived.Test.YtoefogmjekcbeaaPk09
import Derived.Test.YtoefogmjekcbeaaPk01
import Derived.ProofKit
import Derived.OpenShut
import Derived.ShutString
import Derived.ChangeOld
import Derived.Below
import Derived.Test.YtoefogmjekcbeaaPk19
import Derived.SizedLaws
namespace Go.Proofs.Ytoefogmjekcbeaa
open Go.ChangeShapes Go.WideShapes Go.ChangeAt Go.RowKit
open Go.ChangeMaps (open_string shut_string)
set_option linter.unusedVariables false

theorem addr_add (b off n : Nat) : (⟨b, off, none⟩ : Addr).add n = ⟨b, off + n, none⟩ := by unfold Addr.add; split <;> simp_all

theorem bytes_list (zs : List Int) (h : ∀ n ∈ zs, (Lit.int .u8 n).wf = true) : (∀ x ∈ zs.map Int.toNat, x < 256) ∧ ∀ (i : Nat) (c : Nat), (zs.map Int.toNat)[i]? = some c → zs.getD i 0 = (c : Int) := by
  constructor
  · intro x hx
    obtain ⟨n, hn, rfl⟩ := List.mem_map.1 hx
    have := bounds_u8 (h n hn)
    omega
  · intro i c hc
    rw [List.getElem?_map] at hc
    cases hz : zs[i]? with
    | none => rw [hz] at hc; cases hc
    | some n =>
      rw [hz] at hc
      have hn := bounds_u8 (h n (List.mem_of_getElem? hz))
      simp at hc
      simp [List.getD, hz]
      omega

/-- A slice of bytes that came in, nil or not. -/
theorem bytes_in {w : World} {a : Option Addr} {len cap : Nat}
    (h : (a = none ∧ len = 0 ∧ cap = 0) ∨ ∃ (x : Addr) (zs : List Int), a = some x ∧ len ≤ cap ∧ cap ≤ maxLen ∧ zs.length = cap ∧ (∀ i, i < zs.length → w.cell? (x.add i) = some (.int .u8 (zs.getD i 0))) ∧ ∀ n ∈ zs, (Lit.int .u8 n).wf = true) :
    ∃ l : List Nat, l.length = len ∧ Bv w w.heap.size (.slice a len cap) l := by
  rcases h with ⟨rfl, rfl, rfl⟩ | ⟨x, zs, rfl, hl, hm, hz, hcell, hwz⟩
  · exact ⟨[], rfl, none, 0, rfl, Nat.le_refl _, by simp [maxLen], fun _ => rfl, Bts.nil_ _ _ _⟩
  · obtain ⟨h1, h2⟩ := bytes_list (zs.take len) (fun n hn => hwz n (List.mem_of_mem_take hn))
    have hlen : ((zs.take len).map Int.toNat).length = len := by simp; omega
    refine ⟨(zs.take len).map Int.toNat, hlen, some x, cap, by rw [hlen], by omega, hm, by simp, h1, fun hp => ?_⟩
    rw [hlen] at hp
    obtain ⟨b, off, spot⟩ := x
    have hc := hcell 0 (by omega)
    have hspot : spot = none := by simpa [Addr.add] using World.cell?_spot hc
    subst hspot
    refine ⟨b, off, rfl, ?_, fun j c hj => ?_⟩
    · rw [addr_add] at hc
      exact World.block_lt_of_cell? w _ hc
    · have hj' : j < len := by have := (List.getElem?_eq_some_iff.1 hj).1; omega
      have h3 := h2 j c hj
      have h4 := hcell j (by omega)
      rw [addr_add] at h4
      rw [h4]
      congr 2
      rw [← h3]
      simp [List.getD, hj']
end Go.Proofs.Ytoefogmjekcbeaa
namespace Go.Proofs.Ytoefogmjekcbeaa
open Go.ChangeShapes Go.WideShapes Go.ChangeAt Go.RowKit
set_option linter.unusedVariables false

def numOf : Value → Int
  | .int _ n => n
  | _ => 0
theorem arr_in {H : Type} {enc : TypeId × Value → H} {P : Program} {w : World} {base b : Nat} {sp : Nat → Bool} {held : Bool} {t e : TypeId} {n : Nat} {k : IntKind} {v : Value} {d : DataW H} {p : List MemPlace}
    (ht : P.underlying t = some (.array n e)) (he : P.underlying e = some (.int k)) (hce : P.cellsOf e = 1) (hct : P.cellsOf t = n) (hok : Value.okWide P w .any b t v)
    (h : DataW.Trod enc P w base sp held t v d p) : ∃ zs : List Int, zs.length = n ∧ v = .agg (zs.map (Value.int k)).toArray ∧ ∀ z ∈ zs, (Lit.int k z).wf = true := by
  obtain ⟨cs, rfl, hsz, _⟩ : ∃ cs, v = .agg cs ∧ cs.size = P.cellsOf t ∧ Row.okWide P w .any b t cs := by
    simpa [Value.okWide, ht] using hok
  obtain ⟨fuel, hf⟩ := h
  obtain ⟨xs, m, rfl, hx, hl, hxl, hel⟩ := DataW.trod_array ht hf
  have each : ∀ i, i < n → ∃ z, cs.toList[i]? = some (.int k z) ∧ (Lit.int k z).wf = true := by
    intro i hi
    have h1 := hel i hi
    rw [hce, Nat.mul_one, List.getElem?_eq_getElem (by omega)] at h1
    obtain ⟨z, h2, _, h3⟩ := DataW.trod_int he h1
    refine ⟨z, ?_, h3⟩
    have h4 := congrArg (fun l => l[0]?) h2
    simp only [List.getElem?_take, List.getElem?_drop] at h4
    simpa [Value.cells] using h4
  have hlen : cs.toList.length = n := by simp [hsz, hct]
  refine ⟨cs.toList.map numOf, by simp [hsz, hct], ?_, ?_⟩
  · congr 1
    apply Array.ext'
    apply List.ext_getElem?
    intro i
    by_cases hi : i < n
    · obtain ⟨z, hz, _⟩ := each i hi
      simp only [List.getElem?_map, hz, Option.map_some, numOf]
    · rw [List.getElem?_eq_none (by omega), List.getElem?_eq_none (by simp [hsz, hct]; omega)]
  · intro z hz
    obtain ⟨c, hc, rfl⟩ := List.mem_map.1 hz
    obtain ⟨i, hi⟩ := List.getElem?_of_mem hc
    have : i < n := by rw [← hlen]; exact (List.getElem?_eq_some_iff.1 hi).1
    obtain ⟨z, hz', hw⟩ := each i this
    rw [hz'] at hi
    injection hi with hi
    subst hi
    exact hw
set_option maxRecDepth 100000 in
theorem bytes_arrU {H : Type} {enc : TypeId × Value → H} {w : World} {base b : Nat} {sp : Nat → Bool} {held : Bool} {t : TypeId} {n : Nat} {v : Value} {d : DataW H} {p : List MemPlace}
    (ht : Try.prog.underlying t = some (.array n 5)) (hct : Try.prog.cellsOf t = n) (hok : Value.okWide Try.prog w .any b t v)
    (h : DataW.Trod enc Try.prog w base sp held t v d p) : ∃ l : List Nat, l.length = n ∧ (∀ x ∈ l, x < 256) ∧ v = .agg (l.map u8).toArray := by
  obtain ⟨zs, hl, rfl, hw⟩ := arr_in ht Try.underlying5 (by kernel_rfl) hct hok h
  have hb : ∀ z ∈ zs, 0 ≤ z ∧ z ≤ 255 := fun z hz => bounds_u8 (hw z hz)
  refine ⟨zs.map Int.toNat, by simpa using hl, ?_, ?_⟩
  · intro x hx
    obtain ⟨z, hz, rfl⟩ := List.mem_map.1 hx
    have := hb z hz
    omega
  · congr 1
    rw [List.map_map]
    congr 1
    apply List.map_congr_left
    intro z hz
    have := hb z hz
    simp only [Function.comp, u8]
    congr 1
    omega
end Go.Proofs.Ytoefogmjekcbeaa
namespace Go.Proofs.Ytoefogmjekcbeaa
open Go.ChangeShapes Go.WideShapes Go.ChangeAt Go.RowKit
set_option linter.unusedVariables false
theorem one_cell7 {L : List Value} {o : Nat} {x : Value} (h : (L.drop o).take 1 = [x]) : L[o]? = some x := by
  have h4 := congrArg (fun l => l[0]?) h
  simpa using h4
set_option maxRecDepth 100000 in
theorem rt_in {H : Type} {enc : TypeId × Value → H} {w : World} {b : Nat} {held : Bool} {v : Value} {d : DataW H} {p : List MemPlace}
    (hok : Value.okWide Try.prog w .any b 24 v) (h : DataW.Trod enc Try.prog w 0 (fun _ => true) held 24 v d p) :
    ∃ r : Rt.Root, v = .agg (rtC r) ∧ Rt.Fit r := by
  obtain ⟨cs, rfl, hsz⟩ := okWide_struct Try.underlying24 hok
  have hsz7 : cs.size = 7 := hsz.trans (by kernel_rfl)
  obtain ⟨fuel, hf⟩ := h
  obtain ⟨xs, m, _, hxe, hl, hlen, hx⟩ := DataW.trod_struct Try.underlying24 hf
  match xs, hlen, hxe with
  | [y0, y1, y2, y3, y4, y5, y6], _, hxe =>
    have cw : Try.prog.cellsOf 22 = 1 := by kernel_rfl
    have ci : Try.prog.cellsOf 3 = 1 := by kernel_rfl
    have f0 : DataW.trod enc Try.prog w 0 (fun _ => true) held m 22 ((cs.toList.drop 0).take (Try.prog.cellsOf 22)) = some y0 := hx 0 _ rfl
    have f1 : DataW.trod enc Try.prog w 0 (fun _ => true) held m 3 ((cs.toList.drop 1).take (Try.prog.cellsOf 3)) = some y1 := hx 1 _ rfl
    have f2 : DataW.trod enc Try.prog w 0 (fun _ => true) held m 3 ((cs.toList.drop 2).take (Try.prog.cellsOf 3)) = some y2 := hx 2 _ rfl
    have f3 : DataW.trod enc Try.prog w 0 (fun _ => true) held m 22 ((cs.toList.drop 3).take (Try.prog.cellsOf 22)) = some y3 := hx 3 _ rfl
    have f4 : DataW.trod enc Try.prog w 0 (fun _ => true) held m 22 ((cs.toList.drop 4).take (Try.prog.cellsOf 22)) = some y4 := hx 4 _ rfl
    have f5 : DataW.trod enc Try.prog w 0 (fun _ => true) held m 3 ((cs.toList.drop 5).take (Try.prog.cellsOf 3)) = some y5 := hx 5 _ rfl
    have f6 : DataW.trod enc Try.prog w 0 (fun _ => true) held m 3 ((cs.toList.drop 6).take (Try.prog.cellsOf 3)) = some y6 := hx 6 _ rfl
    rw [cw] at f0
    obtain ⟨z0, g0, _, b0⟩ := DataW.trod_int Try.underlying22 f0
    have hz0 := bounds_u64 b0
    have e0 := one_cell7 g0
    rw [ci] at f1
    obtain ⟨z1, g1, _, b1⟩ := DataW.trod_int Try.underlying3 f1
    have hz1 := bounds_i64 b1
    have e1 := one_cell7 g1
    rw [ci] at f2
    obtain ⟨z2, g2, _, b2⟩ := DataW.trod_int Try.underlying3 f2
    have hz2 := bounds_i64 b2
    have e2 := one_cell7 g2
    rw [cw] at f3
    obtain ⟨z3, g3, _, b3⟩ := DataW.trod_int Try.underlying22 f3
    have hz3 := bounds_u64 b3
    have e3 := one_cell7 g3
    rw [cw] at f4
    obtain ⟨z4, g4, _, b4⟩ := DataW.trod_int Try.underlying22 f4
    have hz4 := bounds_u64 b4
    have e4 := one_cell7 g4
    rw [ci] at f5
    obtain ⟨z5, g5, _, b5⟩ := DataW.trod_int Try.underlying3 f5
    have hz5 := bounds_i64 b5
    have e5 := one_cell7 g5
    rw [ci] at f6
    obtain ⟨z6, g6, _, b6⟩ := DataW.trod_int Try.underlying3 f6
    have hz6 := bounds_i64 b6
    have e6 := one_cell7 g6
    refine ⟨⟨z0.toNat, z1, z2, z3.toNat, z4.toNat, z5, z6⟩, ?_, ?_⟩
    · congr 1
      apply Array.ext_getElem?
      intro i
      by_cases h7 : i < 7
      · have hi : i = 0 ∨ i = 1 ∨ i = 2 ∨ i = 3 ∨ i = 4 ∨ i = 5 ∨ i = 6 := by omega
        rcases hi with rfl | rfl | rfl | rfl | rfl | rfl | rfl
        · rw [← Array.getElem?_toList, e0]
          show some (Value.int .u64 z0) = some (Value.int .u64 ((z0.toNat : Nat) : Int))
          rw [show ((z0.toNat : Nat) : Int) = z0 by omega]
        · rw [← Array.getElem?_toList, e1]
          rfl
        · rw [← Array.getElem?_toList, e2]
          rfl
        · rw [← Array.getElem?_toList, e3]
          show some (Value.int .u64 z3) = some (Value.int .u64 ((z3.toNat : Nat) : Int))
          rw [show ((z3.toNat : Nat) : Int) = z3 by omega]
        · rw [← Array.getElem?_toList, e4]
          show some (Value.int .u64 z4) = some (Value.int .u64 ((z4.toNat : Nat) : Int))
          rw [show ((z4.toNat : Nat) : Int) = z4 by omega]
        · rw [← Array.getElem?_toList, e5]
          rfl
        · rw [← Array.getElem?_toList, e6]
          rfl
      · rw [Array.getElem?_eq_none (by omega), Array.getElem?_eq_none (by rw [rtC_size]; omega)]
    · constructor <;> (try unfold I64) <;> simp only <;> omega
end Go.Proofs.Ytoefogmjekcbeaa
