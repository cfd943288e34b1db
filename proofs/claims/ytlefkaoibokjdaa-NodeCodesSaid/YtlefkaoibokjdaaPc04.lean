/-
  BvLv: Bytes in two words: Bv (layers 1 to 4) and Lv yK.
  FrameN: From what a row says of its arguments to the words of this text: numbers alone (a program that has no slices of bytes).
  Frame: From what a row says of its arguments to the words of this text.
-/
import Derived.Test.YtlefkaoibokjdaaPc01
import Derived.Test.YtlefkaoibokjdaaPc02
import Derived.Test.YtlefkaoibokjdaaRows
import Derived.ProofKit
import Derived.OpenShut
import Derived.ShutString
import Derived.ChangeOld
import Derived.Below
namespace Go.Proofs.Ytlefkaoibokjdaa
open Go.RowKit
set_option linter.unusedVariables false

theorem octs_flat (l : List Nat) : yK.flat l = l.map u8 := by
  show l.flatMap (fun x => [u8 x]) = l.map u8
  induction l with
  | nil => rfl
  | cons x r ih => rw [List.flatMap_cons, ih]; rfl
theorem Bv.lv_ {w : World} {B : Nat} {v : Value} {l : List Nat} (h : Bv w B v l) : Lv yK w B v l := by
  obtain ⟨A, c, e, h1, h2, h3, h4, h5⟩ := h
  refine ⟨A, c, e, h1, h2, h3, h4, fun hp => ?_⟩
  obtain ⟨b, off, hA, hb, hc⟩ := h5 hp
  refine ⟨b, off, hA, hb, fun j u hj => ?_⟩
  have hf := octs_flat l
  rw [hf, List.getElem?_map] at hj
  cases hx : l[j]? with
  | none => rw [hx] at hj; cases hj
  | some x =>
    rw [hx] at hj
    cases hj
    exact hc j x hx
theorem Lv.bv_ {w : World} {B : Nat} {v : Value} {l : List Nat} (h : Lv yK w B v l) : Bv w B v l := by
  obtain ⟨A, c, e, h1, h2, h3, h4, h5⟩ := h
  refine ⟨A, c, e, h1, h2, h3, h4, fun hp => ?_⟩
  obtain ⟨b, off, hA, hb, hc⟩ := h5 hp
  refine ⟨b, off, hA, hb, fun j x hj => hc j (u8 x) ?_⟩
  have hf := octs_flat l
  rw [hf, List.getElem?_map, hj]
  rfl
end Go.Proofs.Ytlefkaoibokjdaa
namespace Go.Proofs.Ytlefkaoibokjdaa
open Go.ChangeShapes Go.WideShapes Go.ChangeAt Go.RowKit
open Go.ChangeMaps (open_string shut_string)
set_option linter.unusedVariables false

theorem own : ownKnob Try.prog.godebug = none := by kernel_rfl
theorem laidOut : laidOutB Try.prog = true := by kernel_rfl

theorem u64_nat {a : Int} (h : (Lit.int .u64 a).wf = true) : ∃ n : Nat, a = (n : Int) ∧ Mt.B64 n := by
  have hb := bounds_u64 h
  obtain ⟨n, rfl⟩ := Int.eq_ofNat_of_zero_le hb.1
  exact ⟨n, rfl, by unfold Mt.B64; omega⟩
theorem u8_nat {a : Int} (h : (Lit.int .u8 a).wf = true) : ∃ n : Nat, a = (n : Int) ∧ n < 256 := by
  have hb := bounds_u8 h
  obtain ⟨n, rfl⟩ := Int.eq_ofNat_of_zero_le hb.1
  exact ⟨n, rfl, by omega⟩
end Go.Proofs.Ytlefkaoibokjdaa
namespace Go.Proofs.Ytlefkaoibokjdaa
open Go.ChangeShapes Go.WideShapes Go.ChangeAt Go.RowKit
open Go.ChangeMaps (open_string shut_string)
set_option linter.unusedVariables false

theorem addr_add (b off n : Nat) : (⟨b, off, none⟩ : Addr).add n = ⟨b, off + n, none⟩ := by unfold Addr.add; split <;> simp_all

theorem bytes_list (zs : List Int) (h : ∀ n ∈ zs, (Lit.int .u8 n).wf = true) : (∀ x ∈ zs.map Int.toNat, x < 256) ∧ ∀ (i : Nat) (c : Nat), (zs.map Int.toNat)[i]? = some c → zs.getD i 0 = (c : Int) := by
  constructor
  · intro x hx
    obtain ⟨n, hn, rfl⟩ := List.mem_map.1 hx
    have := bounds_u8 (h n hn)
    omega
  · intro i c hc
    rw [List.getElem?_map] at hc
    cases hz : zs[i]? with
    | none => rw [hz] at hc; cases hc
    | some n =>
      rw [hz] at hc
      have hn := bounds_u8 (h n (List.mem_of_getElem? hz))
      simp at hc
      simp [List.getD, hz]
      omega

/-- A slice of bytes that came in, nil or not. -/
theorem bytes_in {w : World} {a : Option Addr} {len cap : Nat}
    (h : (a = none ∧ len = 0 ∧ cap = 0) ∨ ∃ (x : Addr) (zs : List Int), a = some x ∧ len ≤ cap ∧ cap ≤ maxLen ∧ zs.length = cap ∧ (∀ i, i < zs.length → w.cell? (x.add i) = some (.int .u8 (zs.getD i 0))) ∧ ∀ n ∈ zs, (Lit.int .u8 n).wf = true) :
    ∃ l : List Nat, l.length = len ∧ Bv w w.heap.size (.slice a len cap) l := by
  rcases h with ⟨rfl, rfl, rfl⟩ | ⟨x, zs, rfl, hl, hm, hz, hcell, hwz⟩
  · exact ⟨[], rfl, none, 0, rfl, Nat.le_refl _, by simp [maxLen], fun _ => rfl, Bts.nil_ _ _ _⟩
  · obtain ⟨h1, h2⟩ := bytes_list (zs.take len) (fun n hn => hwz n (List.mem_of_mem_take hn))
    have hlen : ((zs.take len).map Int.toNat).length = len := by simp; omega
    refine ⟨(zs.take len).map Int.toNat, hlen, some x, cap, by rw [hlen], by omega, hm, by simp, h1, fun hp => ?_⟩
    rw [hlen] at hp
    obtain ⟨b, off, spot⟩ := x
    have hc := hcell 0 (by omega)
    have hspot : spot = none := by simpa [Addr.add] using World.cell?_spot hc
    subst hspot
    refine ⟨b, off, rfl, ?_, fun j c hj => ?_⟩
    · rw [addr_add] at hc
      exact World.block_lt_of_cell? w _ hc
    · have hj' : j < len := by have := (List.getElem?_eq_some_iff.1 hj).1; omega
      have h3 := h2 j c hj
      have h4 := hcell j (by omega)
      rw [addr_add] at h4
      rw [h4]
      congr 2
      rw [← h3]
      simp [List.getD, hj']
end Go.Proofs.Ytlefkaoibokjdaa
