/-
  Frame: From what a row says of its arguments to the words of this text.
  FrameA: From what a row says of its arguments to the words of this text: arrays of bytes, by value.
  FrameX: From what a row says of its arguments to the words of this text: arrays of bytes and of words, by value.
  FrameI: From what a row says of a slice of ints to the words of this text.
-/
import Derived.Test.YtkialijipcbgkaaPk10
import Derived.Test.YtkialijipcbgkaaPk01
import Derived.ProofKit
import Derived.OpenShut
import Derived.ShutString
import Derived.ChangeOld
import Derived.Below
import Derived.Test.YtkialijipcbgkaaPk33
import Derived.Test.YtkialijipcbgkaaPk03
namespace Go.Proofs.Ytkialijipcbgkaa
open Go.ChangeShapes Go.WideShapes Go.ChangeAt Go.RowKit
open Go.ChangeMaps (open_string shut_string)
set_option linter.unusedVariables false

theorem addr_add (b off n : Nat) : (⟨b, off, none⟩ : Addr).add n = ⟨b, off + n, none⟩ := by unfold Addr.add; split <;> simp_all

theorem bytes_list (zs : List Int) (h : ∀ n ∈ zs, (Lit.int .u8 n).wf = true) : (∀ x ∈ zs.map Int.toNat, x < 256) ∧ ∀ (i : Nat) (c : Nat), (zs.map Int.toNat)[i]? = some c → zs.getD i 0 = (c : Int) := by
  constructor
  · intro x hx
    obtain ⟨n, hn, rfl⟩ := List.mem_map.1 hx
    have := bounds_u8 (h n hn)
    omega
  · intro i c hc
    rw [List.getElem?_map] at hc
    cases hz : zs[i]? with
    | none => rw [hz] at hc; cases hc
    | some n =>
      rw [hz] at hc
      have hn := bounds_u8 (h n (List.mem_of_getElem? hz))
      simp at hc
      simp [List.getD, hz]
      omega

/-- A slice of bytes that came in, nil or not. -/
theorem bytes_in {w : World} {a : Option Addr} {len cap : Nat}
    (h : (a = none ∧ len = 0 ∧ cap = 0) ∨ ∃ (x : Addr) (zs : List Int), a = some x ∧ len ≤ cap ∧ cap ≤ maxLen ∧ zs.length = cap ∧ (∀ i, i < zs.length → w.cell? (x.add i) = some (.int .u8 (zs.getD i 0))) ∧ ∀ n ∈ zs, (Lit.int .u8 n).wf = true) :
    ∃ l : List Nat, l.length = len ∧ Bv w w.heap.size (.slice a len cap) l := by
  rcases h with ⟨rfl, rfl, rfl⟩ | ⟨x, zs, rfl, hl, hm, hz, hcell, hwz⟩
  · exact ⟨[], rfl, none, 0, rfl, Nat.le_refl _, by simp [maxLen], fun _ => rfl, Bts.nil_ _ _ _⟩
  · obtain ⟨h1, h2⟩ := bytes_list (zs.take len) (fun n hn => hwz n (List.mem_of_mem_take hn))
    have hlen : ((zs.take len).map Int.toNat).length = len := by simp; omega
    refine ⟨(zs.take len).map Int.toNat, hlen, some x, cap, by rw [hlen], by omega, hm, by simp, h1, fun hp => ?_⟩
    rw [hlen] at hp
    obtain ⟨b, off, spot⟩ := x
    have hc := hcell 0 (by omega)
    have hspot : spot = none := by simpa [Addr.add] using World.cell?_spot hc
    subst hspot
    refine ⟨b, off, rfl, ?_, fun j c hj => ?_⟩
    · rw [addr_add] at hc
      exact World.block_lt_of_cell? w _ hc
    · have hj' : j < len := by have := (List.getElem?_eq_some_iff.1 hj).1; omega
      have h3 := h2 j c hj
      have h4 := hcell j (by omega)
      rw [addr_add] at h4
      rw [h4]
      congr 2
      rw [← h3]
      simp [List.getD, hj']
end Go.Proofs.Ytkialijipcbgkaa
namespace Go.Proofs.Ytkialijipcbgkaa
open Go.ChangeShapes Go.WideShapes Go.ChangeAt Go.RowKit
set_option linter.unusedVariables false

def numOf : Value → Int
  | .int _ n => n
  | _ => 0
theorem arr_in {H : Type} {enc : TypeId × Value → H} {P : Program} {w : World} {base b : Nat} {sp : Nat → Bool} {held : Bool} {t e : TypeId} {n : Nat} {k : IntKind} {v : Value} {d : DataW H} {p : List MemPlace}
    (ht : P.underlying t = some (.array n e)) (he : P.underlying e = some (.int k)) (hce : P.cellsOf e = 1) (hct : P.cellsOf t = n) (hok : Value.okWide P w .any b t v)
    (h : DataW.Trod enc P w base sp held t v d p) : ∃ zs : List Int, zs.length = n ∧ v = .agg (zs.map (Value.int k)).toArray ∧ ∀ z ∈ zs, (Lit.int k z).wf = true := by
  obtain ⟨cs, rfl, hsz, _⟩ : ∃ cs, v = .agg cs ∧ cs.size = P.cellsOf t ∧ Row.okWide P w .any b t cs := by
    simpa [Value.okWide, ht] using hok
  obtain ⟨fuel, hf⟩ := h
  obtain ⟨xs, m, rfl, hx, hl, hxl, hel⟩ := DataW.trod_array ht hf
  have each : ∀ i, i < n → ∃ z, cs.toList[i]? = some (.int k z) ∧ (Lit.int k z).wf = true := by
    intro i hi
    have h1 := hel i hi
    rw [hce, Nat.mul_one, List.getElem?_eq_getElem (by omega)] at h1
    obtain ⟨z, h2, _, h3⟩ := DataW.trod_int he h1
    refine ⟨z, ?_, h3⟩
    have h4 := congrArg (fun l => l[0]?) h2
    simp only [List.getElem?_take, List.getElem?_drop] at h4
    simpa [Value.cells] using h4
  have hlen : cs.toList.length = n := by simp [hsz, hct]
  refine ⟨cs.toList.map numOf, by simp [hsz, hct], ?_, ?_⟩
  · congr 1
    apply Array.ext'
    apply List.ext_getElem?
    intro i
    by_cases hi : i < n
    · obtain ⟨z, hz, _⟩ := each i hi
      simp only [List.getElem?_map, hz, Option.map_some, numOf]
    · rw [List.getElem?_eq_none (by omega), List.getElem?_eq_none (by simp [hsz, hct]; omega)]
  · intro z hz
    obtain ⟨c, hc, rfl⟩ := List.mem_map.1 hz
    obtain ⟨i, hi⟩ := List.getElem?_of_mem hc
    have : i < n := by rw [← hlen]; exact (List.getElem?_eq_some_iff.1 hi).1
    obtain ⟨z, hz', hw⟩ := each i this
    rw [hz'] at hi
    injection hi with hi
    subst hi
    exact hw
set_option maxRecDepth 100000 in
theorem bytes_arrU {H : Type} {enc : TypeId × Value → H} {w : World} {base b : Nat} {sp : Nat → Bool} {held : Bool} {t : TypeId} {n : Nat} {v : Value} {d : DataW H} {p : List MemPlace}
    (ht : Try.prog.underlying t = some (.array n 5)) (hct : Try.prog.cellsOf t = n) (hok : Value.okWide Try.prog w .any b t v)
    (h : DataW.Trod enc Try.prog w base sp held t v d p) : ∃ l : List Nat, l.length = n ∧ (∀ x ∈ l, x < 256) ∧ v = .agg (l.map u8).toArray := by
  obtain ⟨zs, hl, rfl, hw⟩ := arr_in ht Try.underlying5 (by kernel_rfl) hct hok h
  have hb : ∀ z ∈ zs, 0 ≤ z ∧ z ≤ 255 := fun z hz => bounds_u8 (hw z hz)
  refine ⟨zs.map Int.toNat, by simpa using hl, ?_, ?_⟩
  · intro x hx
    obtain ⟨z, hz, rfl⟩ := List.mem_map.1 hx
    have := hb z hz
    omega
  · congr 1
    rw [List.map_map]
    congr 1
    apply List.map_congr_left
    intro z hz
    have := hb z hz
    simp only [Function.comp, u8]
    congr 1
    omega
end Go.Proofs.Ytkialijipcbgkaa
namespace Go.Proofs.Ytkialijipcbgkaa
open Go.ChangeShapes Go.WideShapes Go.ChangeAt Go.RowKit
set_option linter.unusedVariables false

set_option maxRecDepth 100000 in
theorem bytes_arr {H : Type} {enc : TypeId × Value → H} {w : World} {base b : Nat} {sp : Nat → Bool} {held : Bool} {t : TypeId} {n : Nat} {v : Value} {d : DataW H} {p : List MemPlace}
    (ht : Try.prog.underlying t = some (.array n 5)) (hct : Try.prog.cellsOf t = n) (hok : Value.okWide Try.prog w .any b t v)
    (h : DataW.Trod enc Try.prog w base sp held t v d p) : ∃ l : List Nat, l.length = n ∧ (∀ x ∈ l, x < 256) ∧ v = .agg (bvs l) := bytes_arrU ht hct hok h
set_option maxRecDepth 100000 in
theorem word_of {z : Int} (h : 0 ≤ z ∧ z ≤ 4294967295) : Value.int .u32 z = wv (BitVec.ofNat 32 z.toNat) := by
  unfold wv
  rw [nt_of (by omega)]
  congr 1
  omega
set_option maxRecDepth 100000 in
theorem state_arr {H : Type} {enc : TypeId × Value → H} {w : World} {base b : Nat} {sp : Nat → Bool} {held : Bool} {v : Value} {d : DataW H} {p : List MemPlace}
    (hok : Value.okWide Try.prog w .any b 100 v) (h : DataW.Trod enc Try.prog w base sp held 100 v d p) : ∃ s : Sh.St, v = .agg (stv s) := by
  obtain ⟨zs, hl, rfl, hw⟩ := arr_in Try.underlying100 Try.underlying83 (by kernel_rfl) (by kernel_rfl) hok h
  have hb : ∀ z ∈ zs, 0 ≤ z ∧ z ≤ 4294967295 := fun z hz => bounds_u32 (hw z hz)
  match zs, hl, hb with
  | [a, b, c, d, e, f, g, h], _, hb =>
    refine ⟨⟨BitVec.ofNat 32 a.toNat, BitVec.ofNat 32 b.toNat, BitVec.ofNat 32 c.toNat, BitVec.ofNat 32 d.toNat, BitVec.ofNat 32 e.toNat, BitVec.ofNat 32 f.toNat, BitVec.ofNat 32 g.toNat, BitVec.ofNat 32 h.toNat⟩, ?_⟩
    simp only [List.map_cons, List.map_nil, stv]
    rw [word_of (hb a (by simp)), word_of (hb b (by simp)), word_of (hb c (by simp)), word_of (hb d (by simp)), word_of (hb e (by simp)), word_of (hb f (by simp)), word_of (hb g (by simp)), word_of (hb h (by simp))]
end Go.Proofs.Ytkialijipcbgkaa
namespace Go.Proofs.Ytkialijipcbgkaa
open Go.ChangeShapes Go.WideShapes Go.ChangeAt Go.RowKit
set_option linter.unusedVariables false

theorem i64_wf {n : Int} (h : (Lit.int .i64 n).wf = true) : I64 n := by
  have := bounds_i64 h
  unfold I64; omega
/-- Any kind of elements of one cell: what came in is a list. -/
theorem list_in {P : Program} {α : Type} (K : El P α) (h1 : K.size = 1) (of : Int → α) (cell : Int → Value) {w : World} {a : Option Addr} {len cap : Nat} (wf : Int → Prop) (hok : ∀ n, wf n → K.ok (of n)) (henc : ∀ n, wf n → K.enc (of n) = [cell n])
    (h : (a = none ∧ len = 0 ∧ cap = 0) ∨ ∃ (x : Addr) (zs : List Int), a = some x ∧ len ≤ cap ∧ cap ≤ maxLen ∧ zs.length = cap ∧ (∀ i, i < zs.length → w.cell? (x.add i) = some (cell (zs.getD i 0))) ∧ ∀ n ∈ zs, wf n) :
    ∃ l : List α, l.length = len ∧ Lv K w w.heap.size (.slice a len cap) l := by
  rcases h with ⟨rfl, rfl, rfl⟩ | ⟨x, zs, rfl, hl, hm, hz, hcell, hwz⟩
  · exact ⟨[], rfl, Lv.nil_ _ _ _⟩
  · have hlen : ((zs.take len).map of).length = len := by simp; omega
    refine ⟨(zs.take len).map of, hlen, some x, cap, by rw [hlen], by omega, hm, by simp, ?_, fun hp => ?_⟩
    · intro y hy
      obtain ⟨n, hn, rfl⟩ := List.mem_map.1 hy
      exact hok n (hwz n (List.mem_of_mem_take hn))
    · rw [hlen] at hp
      obtain ⟨b, off, spot⟩ := x
      have hc := hcell 0 (by omega)
      have hspot : spot = none := by simpa [Addr.add] using World.cell?_spot hc
      subst hspot
      refine ⟨b, off, rfl, ?_, fun j u hj => ?_⟩
      · rw [add_addr] at hc
        exact World.block_lt_of_cell? w _ hc
      · have hj' : j < len := by
          have := (List.getElem?_eq_some_iff.1 hj).1
          rw [flat_len, hlen, h1] at this
          omega
        have h4 := hcell j (by omega)
        rw [add_addr] at h4
        have hzj : zs[j]? = some (zs.getD j 0) := by rw [List.getD_eq_getElem?_getD, List.getElem?_eq_getElem (by omega)]; rfl
        have hat : ((zs.take len).map of)[j]? = some (of (zs.getD j 0)) := by rw [List.getElem?_map, List.getElem?_take, if_pos hj', hzj]; rfl
        have h5 := flat_at (K := K) hat (j := 0) (by omega)
        rw [henc _ (hwz _ (List.mem_of_getElem? hzj)), h1, Nat.mul_one, Nat.add_zero] at h5
        rw [h5] at hj
        rw [h4]
        exact hj
theorem ints_in {w : World} {a : Option Addr} {len cap : Nat}
    (h : (a = none ∧ len = 0 ∧ cap = 0) ∨ ∃ (x : Addr) (zs : List Int), a = some x ∧ len ≤ cap ∧ cap ≤ maxLen ∧ zs.length = cap ∧ (∀ i, i < zs.length → w.cell? (x.add i) = some (.int .i64 (zs.getD i 0))) ∧ ∀ n ∈ zs, (Lit.int .i64 n).wf = true) :
    ∃ l : List Int, l.length = len ∧ Lv iK w w.heap.size (.slice a len cap) l :=
  list_in iK rfl (fun n => n) (fun n => .int .i64 n) (fun n => (Lit.int .i64 n).wf = true) (fun n h => i64_wf h) (fun n h => rfl) h
end Go.Proofs.Ytkialijipcbgkaa
