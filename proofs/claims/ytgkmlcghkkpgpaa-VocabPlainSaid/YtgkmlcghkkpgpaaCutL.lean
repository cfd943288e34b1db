/-
  Cuts of a slice that may be nil: what they answer, in one word, in whatever world.
-/
import Derived.Test.YtgkmlcghkkpgpaaTurn
namespace Go.Proofs.Ytgkmlcghkkpgpaa
open Go.RowKit
set_option linter.unusedVariables false

section
variable {P : Program} {α : Type}
theorem addr_none (a : Addr) : a.add 0 = a := by unfold Addr.add; split <;> simp_all
theorem elem_size (K : El P α) (he : P.elem K.s = K.e) (w : World) : (sizeOf (P.elem K.s)).run P w = .ok K.size w := by
  obtain ⟨i, hi, _, hs, _⟩ := info_parts K.info
  rw [he]
  simp [sizeOf, typeInfo, hi, hs]
theorem cut_to (K : El P α) (he : P.elem K.s = K.e) (A : Option Addr) (n c m : Nat) (h : m ≤ c) (w : World) :
    (Instr.slice K.s (.slice A n c) none (some (.int .i64 (m : Nat))) none).run P w = .ok (.slice A m c) w := by
  have hu : P.underlying K.s = some (.slice (P.elem K.s)) := by rw [he]; exact K.under
  rw [run_slice_h (P := P) w K.s A n c hu .i64 (m : Nat) (by omega) (by omega), elem_size K he]
  simp only [Result.andThen, sliced, Int.toNat_natCast, Nat.zero_mul, Nat.sub_zero]
  have e : A.map (·.add 0) = A := by cases A <;> simp [addr_none]
  simp [addr_none]
theorem cutAt_to (K : El P α) (he : P.elem K.s = K.e) (A : Option Addr) (n c m : Nat) (h : m ≤ c) (w : World) :
    (Instr.sliceAt K.s (.slice A n c) none (some (.int .i64 (m : Nat))) none).run P w = .ok (.slice A m c) w := by
  have hu : P.underlying K.s = some (.slice (P.elem K.s)) := by rw [he]; exact K.under
  rw [run_sliceAt_slice (P := P) w _ _ _ _ _ hu]
  exact cut_to K he A n c m h w
theorem cut_from (K : El P α) (he : P.elem K.s = K.e) (A : Option Addr) (n c m : Nat) (h : m ≤ n) (hn : n ≤ c) :
    ∃ A', (∀ w, (Instr.slice K.s (.slice A n c) (some (.int .i64 (m : Nat))) none none).run P w = .ok (.slice A' (n - m) (c - m)) w) ∧
      (∀ w, (Instr.sliceAt K.s (.slice A n c) (some (.int .i64 (m : Nat))) none none).run P w = .ok (.slice A' (n - m) (c - m)) w) ∧
      (∀ w B (l : List α), Lv K w B (.slice A n c) l → Lv K w B (.slice A' (n - m) (c - m)) (l.drop m)) ∧
      (Value.slice A' (n - m) (c - m)).ownBlock = (Value.slice A n c).ownBlock := by
  have hu : P.underlying K.s = some (.slice (P.elem K.s)) := by rw [he]; exact K.under
  have h1 : ∀ w, (Instr.slice K.s (.slice A n c) (some (.int .i64 (m : Nat))) none none).run P w = .ok (.slice (if c = m then A else A.map (·.add (m * K.size))) (n - m) (c - m)) w := by
    intro w
    rw [run_slice_l (P := P) w K.s A n c hu .i64 (m : Nat) (by omega) (by omega), elem_size K he]
    simp only [Result.andThen, sliced, Int.toNat_natCast]
  refine ⟨_, h1, fun w => ?_, fun w B l hl => ?_, ?_⟩
  · rw [run_sliceAt_slice (P := P) w _ _ _ _ _ hu]
    exact h1 w
  · obtain ⟨e1, e2, e3⟩ := hl.len_
    by_cases hc : c = m
    · rw [if_pos hc]
      have e : l.drop m = [] := List.drop_of_length_le (by omega)
      rw [e, show n - m = 0 by omega, show c - m = 0 by omega]
      obtain ⟨A0, c0, ee, _, _, hnil, _⟩ := hl
      injection ee with ee1 _ ee3
      subst ee1 ee3
      exact ⟨A, 0, rfl, by simp, by simp [maxLen], by simp, by simp, by simp⟩
    · rw [if_neg hc]
      exact hl.drop_ (by omega)
  · by_cases hc : c = m
    · rw [if_pos hc]; cases A <;> rfl
    · rw [if_neg hc]
      cases A with
      | none => rfl
      | some a => simp [Value.ownBlock, Addr.add]; split <;> rfl
end
end Go.Proofs.Ytgkmlcghkkpgpaa
