/-
  stooklaw07.works.
-/
import Derived.Test.YtiogmgpkaiicpaaQuPro
import Derived.Test.YtiogmgpkaiicpaaQuLess
import Derived.Test.YtiogmgpkaiicpaaInts
namespace Go.Proofs.Ytiogmgpkaiicpaa
open Go.RowKit
set_option linter.unusedVariables false

theorem low_ok (l : List Int) (h : ∀ x ∈ l, 0 ≤ x ∧ x < 100) : ∀ x ∈ l, iK.ok x := fun x hx => by
  have := h x hx
  show _ ≤ x ∧ x < _
  omega
theorem Qu.works_sorted : Qu.sorted (Qu.ltR 10) [5, 15, 4] = [4, 5, 15] := by decide +kernel

set_option maxHeartbeats 1000000 in
theorem works_any (w : World) : Calls Try.prog 18 #[] w (IsBool true w) := by
  have k1 := low_ok [5, 15, 4] (by decide)
  have k2 := low_ok [4, 5, 15] (by decide)
  have h1 : Lv iK (w.alloc (.cells #[.int .i64 5, .int .i64 15, .int .i64 4] 3)) (w.heap.size + 1) (.slice (some ⟨w.heap.size, 0, none⟩) 3 3) [5, 15, 4] := Lv.build_ iK w [5, 15, 4] k1 (by simp [maxLen]) 3 rfl _ rfl _ rfl
  have HL2 : Hid (∀ w : World, Lv iK (w.alloc (.cells #[.int .i64 4, .int .i64 5, .int .i64 15] 3)) (w.heap.size + 1) (.slice (some ⟨w.heap.size, 0, none⟩) 3 3) [4, 5, 15]) := fun w => Lv.build_ iK w [4, 5, 15] k2 (by simp [maxLen]) 3 rfl _ rfl _ rfl
  have hc := psorted_int _ _ 37 #[] (Qu.ltR 10) _ _ (by simp) h1 (by decide) (Qu.ltR_order 10) (less_works _ _)
  rw [Qu.works_sorted] at hc
  change Calls Try.prog _ #[.slice (some ⟨w.heap.size, 0, none⟩) 3 3, .func (.func 37) #[] #[]] _ _ at hc
  have HC := Lib.hid hc
  clear k1 k2 h1 hc
  go_enter Try.func18, Try.ntmps18
  go_wp2_with (fail)
  refine (HC.out).mono ?_
  rintro e w1 ⟨A1, c1, rfl, ho1, hb1⟩
  have HB1 := Lib.hid ((((Below.refl w.heap.size w).alloc (Nat.le_refl _) (.cells #[.int .i64 5, .int .i64 15, .int .i64 4] 3))).trans (hb1.mono (by simp)))
  have ha := (Below.refl w1.heap.size w1).alloc (Nat.le_refl _) (.cells #[.int .i64 4, .int .i64 5, .int .i64 15] 3)
  have HC3 := Lib.hid (ints_lv _ _ _ _ _ _ _ (ho1.form_.below_ ha (Nat.le_refl _)) (HL2.out w1))
  simp only [decide_true] at HC3
  have HA := Lib.hid (HB1.out.trans (ha.mono HB1.out.size))
  clear ho1 hb1 HC ha
  go_wp2_with (fail)
  refine (HC3.out).mono ?_
  rintro e w2 ⟨rfl, hb2⟩
  have HB2 := Lib.hid (HA.out.trans (hb2.mono HA.out.size))
  clear hb2 HC3
  go_wp2
  go_ret
  exact ⟨rfl, HB2.out⟩
end Go.Proofs.Ytiogmgpkaiicpaa
