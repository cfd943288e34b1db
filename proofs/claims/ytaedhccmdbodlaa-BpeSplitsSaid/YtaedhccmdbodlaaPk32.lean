/-
  Frame: From what a row says of its arguments to the words of this text.
  BvLv: Bytes in two words: Bv (layers 1 to 4) and Lv yK.
  SpoilI: stookref00.SpoilInts: writes over a slice of the call's own, the room behind it too, and nothing else.
-/
import Derived.Test.YtaedhccmdbodlaaPk11
import Derived.Test.YtaedhccmdbodlaaPk31
import Derived.ProofKit
import Derived.OpenShut
import Derived.ShutString
import Derived.ChangeOld
import Derived.Below
import Derived.Test.YtaedhccmdbodlaaPk06
import Derived.Test.YtaedhccmdbodlaaPk02
import Derived.Test.YtaedhccmdbodlaaPk03
namespace Go.Proofs.Ytaedhccmdbodlaa
open Go.ChangeShapes Go.WideShapes Go.ChangeAt Go.RowKit
open Go.ChangeMaps (open_string shut_string)
set_option linter.unusedVariables false

theorem addr_add (b off n : Nat) : (⟨b, off, none⟩ : Addr).add n = ⟨b, off + n, none⟩ := by unfold Addr.add; split <;> simp_all

theorem bytes_list (zs : List Int) (h : ∀ n ∈ zs, (Lit.int .u8 n).wf = true) : (∀ x ∈ zs.map Int.toNat, x < 256) ∧ ∀ (i : Nat) (c : Nat), (zs.map Int.toNat)[i]? = some c → zs.getD i 0 = (c : Int) := by
  constructor
  · intro x hx
    obtain ⟨n, hn, rfl⟩ := List.mem_map.1 hx
    have := bounds_u8 (h n hn)
    omega
  · intro i c hc
    rw [List.getElem?_map] at hc
    cases hz : zs[i]? with
    | none => rw [hz] at hc; cases hc
    | some n =>
      rw [hz] at hc
      have hn := bounds_u8 (h n (List.mem_of_getElem? hz))
      simp at hc
      simp [List.getD, hz]
      omega

/-- A slice of bytes that came in, nil or not. -/
theorem bytes_in {w : World} {a : Option Addr} {len cap : Nat}
    (h : (a = none ∧ len = 0 ∧ cap = 0) ∨ ∃ (x : Addr) (zs : List Int), a = some x ∧ len ≤ cap ∧ cap ≤ maxLen ∧ zs.length = cap ∧ (∀ i, i < zs.length → w.cell? (x.add i) = some (.int .u8 (zs.getD i 0))) ∧ ∀ n ∈ zs, (Lit.int .u8 n).wf = true) :
    ∃ l : List Nat, l.length = len ∧ Bv w w.heap.size (.slice a len cap) l := by
  rcases h with ⟨rfl, rfl, rfl⟩ | ⟨x, zs, rfl, hl, hm, hz, hcell, hwz⟩
  · exact ⟨[], rfl, none, 0, rfl, Nat.le_refl _, by simp [maxLen], fun _ => rfl, Bts.nil_ _ _ _⟩
  · obtain ⟨h1, h2⟩ := bytes_list (zs.take len) (fun n hn => hwz n (List.mem_of_mem_take hn))
    have hlen : ((zs.take len).map Int.toNat).length = len := by simp; omega
    refine ⟨(zs.take len).map Int.toNat, hlen, some x, cap, by rw [hlen], by omega, hm, by simp, h1, fun hp => ?_⟩
    rw [hlen] at hp
    obtain ⟨b, off, spot⟩ := x
    have hc := hcell 0 (by omega)
    have hspot : spot = none := by simpa [Addr.add] using World.cell?_spot hc
    subst hspot
    refine ⟨b, off, rfl, ?_, fun j c hj => ?_⟩
    · rw [addr_add] at hc
      exact World.block_lt_of_cell? w _ hc
    · have hj' : j < len := by have := (List.getElem?_eq_some_iff.1 hj).1; omega
      have h3 := h2 j c hj
      have h4 := hcell j (by omega)
      rw [addr_add] at h4
      rw [h4]
      congr 2
      rw [← h3]
      simp [List.getD, hj']
end Go.Proofs.Ytaedhccmdbodlaa
namespace Go.Proofs.Ytaedhccmdbodlaa
open Go.RowKit
set_option linter.unusedVariables false

theorem octs_flat (l : List Nat) : yK.flat l = l.map u8 := by
  show l.flatMap (fun x => [u8 x]) = l.map u8
  induction l with
  | nil => rfl
  | cons x r ih => rw [List.flatMap_cons, ih]; rfl
theorem Bv.lv_ {w : World} {B : Nat} {v : Value} {l : List Nat} (h : Bv w B v l) : Lv yK w B v l := by
  obtain ⟨A, c, e, h1, h2, h3, h4, h5⟩ := h
  refine ⟨A, c, e, h1, h2, h3, h4, fun hp => ?_⟩
  obtain ⟨b, off, hA, hb, hc⟩ := h5 hp
  refine ⟨b, off, hA, hb, fun j u hj => ?_⟩
  have hf := octs_flat l
  rw [hf, List.getElem?_map] at hj
  cases hx : l[j]? with
  | none => rw [hx] at hj; cases hj
  | some x =>
    rw [hx] at hj
    cases hj
    exact hc j x hx
theorem Lv.bv_ {w : World} {B : Nat} {v : Value} {l : List Nat} (h : Lv yK w B v l) : Bv w B v l := by
  obtain ⟨A, c, e, h1, h2, h3, h4, h5⟩ := h
  refine ⟨A, c, e, h1, h2, h3, h4, fun hp => ?_⟩
  obtain ⟨b, off, hA, hb, hc⟩ := h5 hp
  refine ⟨b, off, hA, hb, fun j x hj => hc j (u8 x) ?_⟩
  have hf := octs_flat l
  rw [hf, List.getElem?_map, hj]
  rfl
end Go.Proofs.Ytaedhccmdbodlaa
namespace Go.Proofs.Ytaedhccmdbodlaa
open Go.RowKit
set_option linter.unusedVariables false

theorem xor_int (x y : Int) : I64 (bits BinOp.xor IntKind.i64 x y) := by
  unfold bits I64
  rw [IntKind.wrap_i64]
  omega
theorem OwnL.whole_ {P : Program} {α : Type} {K : El P α} {w : World} {base g n c : Nat} {l : List α} (h : OwnL K w base (.slice (some ⟨g, 0, none⟩) n c) l) : ∃ y : List α, y.length = c ∧ OwnL K w base (.slice (some ⟨g, 0, none⟩) c c) y ∧ n ≤ c ∧ c ≤ maxLen := by
  rcases h.2 with ⟨e, _⟩ | ⟨g', s, e, hb, hs, hm, hh⟩
  · cases e
  · injection e with e1 e2 e3
    injection e1 with e1
    injection e1 with e1
    subst e1 e2 e3
    refine ⟨l ++ s, by simp, ⟨fun y hy => (List.mem_append.1 hy).elim (h.1 y) (hs y), .inr ⟨g, [], by simp, hb, by simp, by simpa using hm, by simpa using hh⟩⟩, by omega, hm⟩

set_option maxHeartbeats 1000000 in
set_option maxRecDepth 100000 in
theorem spoilInts_some (g base n c : Nat) (l : List Int) (w : World) (h : OwnL iK w base (.slice (some ⟨g, 0, none⟩) n c) l) :
    Calls Try.prog 28 #[.slice (some ⟨g, 0, none⟩) n c, .int .i64 1] w (IsTurned (.slice (some ⟨g, 0, none⟩) n c) w) := by
  obtain ⟨y0, hy0, hw, hnc, hm⟩ := h.whole_
  have hm : c ≤ 9223372036854775807 := by simp only [maxLen] at hm; omega
  have H := Lib.hid hw
  have HY0 := Lib.hid hy0
  clear h hw hy0
  go_enter Try.func28, Try.ntmps28
  go_wp2
  go_loopw [4] (fun i wr => ∃ (k : Nat) (y : List Int), k ≤ c ∧ i = .int .i64 k ∧ Hid (y.length = c) ∧ Hid (OwnL iK wr base (.slice (some ⟨g, 0, none⟩) c c) y) ∧ w.grownBy wr (some g)) (fun i _ => c - (intOf i).toNat)
  case atStart => exact ⟨0, y0, by omega, rfl, HY0.out, H.out, World.grownBy.refl _ _⟩
  case round =>
    obtain ⟨k, y, hk, rfl, HY, HO, hbr⟩ := hrel
    by_cases hlt : k < c
    · have hky : k < y.length := by have := HY.out; omega
      obtain ⟨g', x, e4, e2, hb, hx, hd, hcell, hfr⟩ := HO.out.int_ hky
      injection e4 with e4
      injection e4 with e5 e6
      subst e5
      obtain ⟨hs1, hs2⟩ := HO.out.setInt_ hky (xor_int x 1)
      have HS := Lib.hid hs1
      have HG := Lib.hid hs2
      clear hd e2 hs1 hs2 HO hx hky
      go_wp2
      exact ⟨⟨k + 1, y.set k (bits BinOp.xor IntKind.i64 x 1), by omega, by go_num, by unfold Hid; rw [List.length_set, HY.out], HS.out, grownBy_trans hbr HG.out⟩, by simp [intOf]; omega⟩
    · go_wp2
      go_end0
      exact ⟨⟨_, rfl⟩, hbr⟩

set_option maxHeartbeats 1000000 in
theorem spoilInts_none (w : World) :
    Calls Try.prog 28 #[.slice none 0 0, .int .i64 1] w (IsTurned (.slice none 0 0) w) := by
  go_enter Try.func28, Try.ntmps28
  go_wp2
  refine wp_loop_rounds 1 ?_
  rw [rounds_succ]
  go_wp2
  go_end0
  exact ⟨⟨_, rfl⟩, World.grownBy.refl _ _⟩

theorem spoilInts_any (base : Nat) (v : Value) (l : List Int) (w : World) (h : OwnL iK w base v l) :
    Calls Try.prog 28 #[v, .int .i64 1] w (IsTurned v w) := by
  rcases h.2 with ⟨rfl, _⟩ | ⟨g, s, rfl, _⟩
  · exact spoilInts_none w
  · exact spoilInts_some g base _ _ l w h
end Go.Proofs.Ytaedhccmdbodlaa
