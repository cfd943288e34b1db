/-
  FrameI: From what a row says of a slice of ints to the words of this text.
  FrameD: From what a row says of a deed (stooklaw14.Op by value) to the words of this text; a load of a struct within a slice, under a guard.
  FrameU: From what a row says of its arguments: numbers of 16 bits.
-/
import Derived.Test.YtmcbjcbnckpfkaaGreatPt06
import Derived.Test.YtmcbjcbnckpfkaaGreatPt05
import Derived.Deep.MidRow
import Derived.SizedLaws
namespace Go.Proofs.YtmcbjcbnckpfkaaGreat
open Go.ChangeShapes Go.WideShapes Go.ChangeAt Go.RowKit
set_option linter.unusedVariables false

theorem i64_wf {n : Int} (h : (Lit.int .i64 n).wf = true) : I64 n := by
  have := bounds_i64 h
  unfold I64; omega
/-- Any kind of elements of one cell: what came in is a list. -/
theorem list_in {P : Program} {α : Type} (K : El P α) (h1 : K.size = 1) (of : Int → α) (cell : Int → Value) {w : World} {a : Option Addr} {len cap : Nat} (wf : Int → Prop) (hok : ∀ n, wf n → K.ok (of n)) (henc : ∀ n, wf n → K.enc (of n) = [cell n])
    (h : (a = none ∧ len = 0 ∧ cap = 0) ∨ ∃ (x : Addr) (zs : List Int), a = some x ∧ len ≤ cap ∧ cap ≤ maxLen ∧ zs.length = cap ∧ (∀ i, i < zs.length → w.cell? (x.add i) = some (cell (zs.getD i 0))) ∧ ∀ n ∈ zs, wf n) :
    ∃ l : List α, l.length = len ∧ Lv K w w.heap.size (.slice a len cap) l := by
  rcases h with ⟨rfl, rfl, rfl⟩ | ⟨x, zs, rfl, hl, hm, hz, hcell, hwz⟩
  · exact ⟨[], rfl, Lv.nil_ _ _ _⟩
  · have hlen : ((zs.take len).map of).length = len := by simp; omega
    refine ⟨(zs.take len).map of, hlen, some x, cap, by rw [hlen], by omega, hm, by simp, ?_, fun hp => ?_⟩
    · intro y hy
      obtain ⟨n, hn, rfl⟩ := List.mem_map.1 hy
      exact hok n (hwz n (List.mem_of_mem_take hn))
    · rw [hlen] at hp
      obtain ⟨b, off, spot⟩ := x
      have hc := hcell 0 (by omega)
      have hspot : spot = none := by simpa [Addr.add] using World.cell?_spot hc
      subst hspot
      refine ⟨b, off, rfl, ?_, fun j u hj => ?_⟩
      · rw [add_addr] at hc
        exact World.block_lt_of_cell? w _ hc
      · have hj' : j < len := by
          have := (List.getElem?_eq_some_iff.1 hj).1
          rw [flat_len, hlen, h1] at this
          omega
        have h4 := hcell j (by omega)
        rw [add_addr] at h4
        have hzj : zs[j]? = some (zs.getD j 0) := by rw [List.getD_eq_getElem?_getD, List.getElem?_eq_getElem (by omega)]; rfl
        have hat : ((zs.take len).map of)[j]? = some (of (zs.getD j 0)) := by rw [List.getElem?_map, List.getElem?_take, if_pos hj', hzj]; rfl
        have h5 := flat_at (K := K) hat (j := 0) (by omega)
        rw [henc _ (hwz _ (List.mem_of_getElem? hzj)), h1, Nat.mul_one, Nat.add_zero] at h5
        rw [h5] at hj
        rw [h4]
        exact hj
theorem ints_in {w : World} {a : Option Addr} {len cap : Nat}
    (h : (a = none ∧ len = 0 ∧ cap = 0) ∨ ∃ (x : Addr) (zs : List Int), a = some x ∧ len ≤ cap ∧ cap ≤ maxLen ∧ zs.length = cap ∧ (∀ i, i < zs.length → w.cell? (x.add i) = some (.int .i64 (zs.getD i 0))) ∧ ∀ n ∈ zs, (Lit.int .i64 n).wf = true) :
    ∃ l : List Int, l.length = len ∧ Lv iK w w.heap.size (.slice a len cap) l :=
  list_in iK rfl (fun n => n) (fun n => .int .i64 n) (fun n => (Lit.int .i64 n).wf = true) (fun n h => i64_wf h) (fun n h => rfl) h
end Go.Proofs.YtmcbjcbnckpfkaaGreat
namespace Go.Proofs.YtmcbjcbnckpfkaaGreat
open Go.ChangeShapes Go.WideShapes Go.ChangeAt Go.RowKit
set_option linter.unusedVariables false
set_option maxRecDepth 100000 in
theorem deed_in {H : Type} {enc : TypeId × Value → H} {w : World} {b : Nat} {held : Bool} {v : Value} {d : DataW H} {p : List MemPlace}
    (hok : Value.okWide Tryz.prog w .any b 35 v) (h : DataW.Trod enc Tryz.prog w 0 (fun _ => true) held 35 v d p) :
    ∃ (x : Raw) (o : Sf.Op), v = .agg (deedC x) ∧ RawOk x ∧ Deed w w.heap.size x o := by
  obtain ⟨cs, rfl, hsz⟩ := okWide_struct Tryz.underlying35 hok
  obtain ⟨fuel, hf⟩ := h
  obtain ⟨x, hx, ⟨o, ho⟩, hcs⟩ := deed_dec hf
  refine ⟨x, o, ?_, hx, ho⟩
  congr 1
  apply Array.toList_inj.1
  exact hcs
/-- A load of a struct within a slice, where its guard lets it. -/
theorem wpList_load_mid_on {P : Program} {ops : Array Oper} {rest : List Oper} {op : Oper} {a : Act} {w : World} {Q : Exit → Act → World → Prop} (hw : Region.wanted op (yielded ops a.tmps) = true) (ty : TypeId) (x : Operand) (ho : op.op = .load ty x)
    (b o : Nat) (hx : a.eval x = .pointer (some ⟨b, o, none⟩)) (cs : List Value) (d : TypeDesc) (hc : w.rangeAt b o cs)
    (hu : P.underlying ty = some d) (hd : d.isRow = true) (hi : (P.info? ty).map (·.size) = some cs.length)
    (h : wpList P ops Q rest (a.put op.dst (.agg cs.toArray)) w) : wpList P ops Q (op :: rest) a w :=
  wpList_step fun K hK => by
    rw [if_pos hw]
    exact wp_load_mid ty x ho b o hx cs d hc hu hd hi (hK _ _ h)
end Go.Proofs.YtmcbjcbnckpfkaaGreat
namespace Go.Proofs.YtmcbjcbnckpfkaaGreat
open Go.ChangeShapes Go.WideShapes Go.ChangeAt Go.RowKit

theorem u16_nat {a : Int} (h : (Lit.int .u16 a).wf = true) : ∃ n : Nat, a = (n : Int) ∧ n < 65536 := by
  have hb := bounds_u16 h
  obtain ⟨n, rfl⟩ := Int.eq_ofNat_of_zero_le hb.1
  exact ⟨n, rfl, by omega⟩
end Go.Proofs.YtmcbjcbnckpfkaaGreat
