/-
  stookref00.Left and stookref00.CopyWords.
-/
import Derived.Test.YtheiffjnddhcoaaFreshA
import Derived.Test.YtheiffjnddhcoaaWorks
import Derived.Test.YtheiffjnddhcoaaWords
namespace Go.Proofs.Ytheiffjnddhcoaa
open Go.RowKit
set_option linter.unusedVariables false

set_option maxHeartbeats 1000000 in
set_option maxRecDepth 100000 in
theorem left_any (g : Nat) (l : List Nat) (v : Value) (B B' : Nat) (w : World) (h : Bv w B (.slice (some ⟨g, 0, none⟩) (l.length + 3) (l.length + 3)) (l ++ [7, 7, 7])) (h' : Bv w B' v l) :
    Calls Try.prog 33 #[.slice (some ⟨g, 0, none⟩) l.length (l.length + 3), v] w (IsBool true w) := by
  have h1 := h.take_ (k := l.length) (by simp)
  rw [List.take_left] at h1
  have HS := Lib.hid (same_bv _ _ _ _ _ _ w h1 h')
  obtain ⟨A0, c0, e0, _, hc0, _, hts⟩ := h
  injection e0 with e1 e2 e3
  subst e1 e3
  unfold maxLen at hc0
  have hcell : ∀ j, j < 3 → w.cell? ⟨g, l.length + j, none⟩ = some (.int .u8 7) := by
    intro j hj
    obtain ⟨b, off, e4, _, hc⟩ := hts.2 (by simp)
    injection e4 with e4
    injection e4 with e5 e6
    subst e5 e6
    have h2 : (l ++ [7, 7, 7])[l.length + j]? = some 7 := by
      rw [List.getElem?_append_right (by omega)]
      have e : l.length + j - l.length = j := by omega
      rw [e]
      match j, hj with
      | 0, _ => rfl
      | 1, _ => rfl
      | 2, _ => rfl
    have h3 := hc _ _ h2
    rw [Nat.zero_add] at h3
    exact h3
  have k0 := hcell 0 (by omega)
  have k1 := hcell 1 (by omega)
  have k2 := hcell 2 (by omega)
  rw [Nat.add_zero] at k0
  obtain ⟨A, c, rfl, _, _, _, _⟩ := h'
  clear h1 hts hcell e2
  go_enter Try.func33, Try.ntmps33
  go_wp2_with fail
  ((with_reducible refine HS.out.mono ?_); rintro e w1 ⟨he, hb⟩)
  simp only [decide_true] at he
  subst he
  have m0 : w1.cell? ⟨g, l.length, none⟩ = some (.int .u8 7) := (hb.cell (p := ⟨g, l.length, none⟩) (World.block_lt_of_cell? w _ k0)).trans k0
  have m1 : w1.cell? ⟨g, l.length + 1, none⟩ = some (.int .u8 7) := (hb.cell (p := ⟨g, l.length + 1, none⟩) (World.block_lt_of_cell? w _ k1)).trans k1
  have m2 : w1.cell? ⟨g, l.length + 2, none⟩ = some (.int .u8 7) := (hb.cell (p := ⟨g, l.length + 2, none⟩) (World.block_lt_of_cell? w _ k2)).trans k2
  have HB := Lib.hid hb
  clear HS k0 k1 k2 hb
  go_wp2
  go_ret
  exact ⟨rfl, HB.out⟩

/-- A call that answers these numbers in new memory, and turns nothing that was there. -/
def IsFreshW (l : List Nat) (w : World) (e : Ending) (w' : World) : Prop :=
  ∃ A c, e = .returned (.slice A l.length c) ∧ OwnW w' w.heap.size (.slice A l.length c) l ∧ Below w.heap.size w w'

set_option maxHeartbeats 1000000 in
set_option maxRecDepth 100000 in
theorem copyWords_any (v : Value) (l : List Nat) (B : Nat) (w : World) (h : Wv w B v l) (hsz : l.length ≤ 2097152) :
    Calls Try.prog 32 #[v] w (IsFreshW l w) := by
  have H0 := Lib.hid h
  obtain ⟨A, c, rfl, _, _, _, _⟩ := h
  have hnil := Lib.hid (OwnW.nil_ w w.heap.size)
  go_enter Try.func32, Try.ntmps32
  go_wp2_with (at_builtin; go_must (refine wpList_append_words _ rfl _ _ rfl rfl w.heap.size _ rfl [] hnil.out _ rfl _ l H0.out (by simp; omega) (Nat.le_refl _) ?_; intro A3 c3 w1 hA))
  go_ret
  have hO := hA.own
  simp only [List.nil_append] at hO
  exact ⟨A3, c3, by simp, hO, (Below.refl w.heap.size w).grown hA.grown (Nat.le_refl _) (by intro k hk; cases hk)⟩
end Go.Proofs.Ytheiffjnddhcoaa
