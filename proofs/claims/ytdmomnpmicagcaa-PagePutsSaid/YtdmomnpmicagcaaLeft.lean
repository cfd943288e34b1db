/-
  stookref00.Left: what Wide made is as it was, the room behind it, too.
-/
import Derived.Test.YtdmomnpmicagcaaSameB
namespace Go.Proofs.Ytdmomnpmicagcaa
open Go.RowKit
set_option linter.unusedVariables false

set_option maxHeartbeats 1000000 in
set_option maxRecDepth 100000 in
theorem left_any (g : Nat) (l : List Nat) (v : Value) (B B' : Nat) (w : World) (h : Bv w B (.slice (some ⟨g, 0, none⟩) (l.length + 3) (l.length + 3)) (l ++ [7, 7, 7])) (h' : Bv w B' v l) :
    Calls Try.prog 10 #[.slice (some ⟨g, 0, none⟩) l.length (l.length + 3), v] w (IsBool true w) := by
  have h1 := h.take_ (k := l.length) (by simp)
  rw [List.take_left] at h1
  have HS := Lib.hid (same_bv _ _ _ _ _ _ w h1 h')
  obtain ⟨A0, c0, e0, _, hc0, _, hts⟩ := h
  injection e0 with e1 e2 e3
  subst e1 e3
  unfold maxLen at hc0
  have hcell : ∀ j, j < 3 → w.cell? ⟨g, l.length + j, none⟩ = some (.int .u8 7) := by
    intro j hj
    obtain ⟨b, off, e4, _, hc⟩ := hts.2 (by simp)
    injection e4 with e4
    injection e4 with e5 e6
    subst e5 e6
    have h2 : (l ++ [7, 7, 7])[l.length + j]? = some 7 := by
      rw [List.getElem?_append_right (by omega)]
      have e : l.length + j - l.length = j := by omega
      rw [e]
      match j, hj with
      | 0, _ => rfl
      | 1, _ => rfl
      | 2, _ => rfl
    have h3 := hc _ _ h2
    rw [Nat.zero_add] at h3
    exact h3
  have k0 := hcell 0 (by omega)
  have k1 := hcell 1 (by omega)
  have k2 := hcell 2 (by omega)
  rw [Nat.add_zero] at k0
  obtain ⟨A, c, rfl, _, _, _, _⟩ := h'
  clear h1 hts hcell e2
  go_enter Try.func10, Try.ntmps10
  go_wp2_with fail
  ((with_reducible refine HS.out.mono ?_); rintro e w1 ⟨he, hb⟩)
  simp only [decide_true] at he
  subst he
  have m0 : w1.cell? ⟨g, l.length, none⟩ = some (.int .u8 7) := (hb.cell (p := ⟨g, l.length, none⟩) (World.block_lt_of_cell? w _ k0)).trans k0
  have m1 : w1.cell? ⟨g, l.length + 1, none⟩ = some (.int .u8 7) := (hb.cell (p := ⟨g, l.length + 1, none⟩) (World.block_lt_of_cell? w _ k1)).trans k1
  have m2 : w1.cell? ⟨g, l.length + 2, none⟩ = some (.int .u8 7) := (hb.cell (p := ⟨g, l.length + 2, none⟩) (World.block_lt_of_cell? w _ k2)).trans k2
  have HB := Lib.hid hb
  clear HS k0 k1 k2 hb
  go_wp2
  go_ret
  exact ⟨rfl, HB.out⟩

end Go.Proofs.Ytdmomnpmicagcaa
