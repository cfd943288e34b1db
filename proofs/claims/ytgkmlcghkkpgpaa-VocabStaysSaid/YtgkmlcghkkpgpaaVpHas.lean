/-
  vocab.seen's has, addByte.
-/
import Derived.Test.YtgkmlcghkkpgpaaVpMem
namespace Go.Proofs.Ytgkmlcghkkpgpaa
open Go.RowKit Go.Maps
set_option linter.unusedVariables false

namespace Vo
/-- Does the token stand ahead? -/
def stands (n : Nat) (t : Int) : Bool := decide (0 ≤ t ∧ t < n)
end Vo
set_option maxHeartbeats 1000000 in
theorem phas_any {w : World} {sb base : Nat} {D : List Vo.Pc} (h : SeenD w sb base D) (t : Int) :
    Calls Try.prog 61 #[.pointer (some ⟨sb, 0, none⟩), .int .i64 t] w (fun e w' => e = .returned (.bool (Vo.stands D.length t)) ∧ w' = w) := by
  obtain ⟨b1, b2, v, h⟩ := h
  have c3 := h.slice_
  have hl := Vo.sizes_len D
  obtain ⟨A, c, rfl, _⟩ := h.own.form_
  rw [hl] at c3
  obtain ⟨n, hn⟩ : ∃ n, D.length = n := ⟨_, rfl⟩
  rw [hn] at c3 ⊢
  clear h hn hl
  by_cases h0 : 0 ≤ t
  · by_cases h1 : t < (n : Int)
    · have HX : Hid (Vo.stands n t = true) := by unfold Hid Vo.stands; simp [h0, h1]
      go_enter Try.func61, Try.ntmps61
      go_wp2
      go_ret
      exact ⟨by rw [HX.out]; rfl, rfl⟩
    · have HX : Hid (Vo.stands n t = false) := by unfold Hid Vo.stands; simp; omega
      go_enter Try.func61, Try.ntmps61
      go_wp2
      go_ret
      exact ⟨by rw [HX.out]; rfl, rfl⟩
  · have HX : Hid (Vo.stands n t = false) := by unfold Hid Vo.stands; simp; omega
    go_enter Try.func61, Try.ntmps61
    go_wp2
    go_ret
    exact ⟨by rw [HX.out]; rfl, rfl⟩
end Go.Proofs.Ytgkmlcghkkpgpaa
