/-
  CutM: Cuts of a slice by two and by three indexes, in whatever world.
-/
import Derived.Test.YtmcbjcbnckpfkaaPk03
namespace Go.Proofs.Ytmcbjcbnckpfkaa
open Go.RowKit
set_option linter.unusedVariables false

section
variable {P : Program} {α : Type}
/-- A slice that holds a list holds it with less room too. -/
theorem Lv.room_ {K : El P α} {w : World} {B n c c' : Nat} {A : Option Addr} {l : List α} (h : Lv K w B (.slice A n c) l) (h1 : n ≤ c') (h2 : c' ≤ c) : Lv K w B (.slice A n c') l := by
  obtain ⟨A0, c0, e, k1, k2, k3, k4, k5⟩ := h
  simp only [Value.slice.injEq] at e
  obtain ⟨rfl, rfl, rfl⟩ := e
  exact ⟨A, c', rfl, h1, Nat.le_trans h2 k2, fun e => by have := k3 e; omega, k4, k5⟩
/-- The address of a cut. -/
def cutAddr (A : Option Addr) (lo mx s : Nat) : Option Addr := if mx = lo then A else A.map (·.add (lo * s))
theorem cut_lv {K : El P α} {w : World} {B n c lo hi mx : Nat} {A : Option Addr} {l : List α} (h : Lv K w B (.slice A n c) l) (h1 : lo ≤ hi) (h2 : hi ≤ n) (h3 : hi ≤ mx) (h4 : mx ≤ c) :
    Lv K w B (.slice (cutAddr A lo mx K.size) (hi - lo) (mx - lo)) ((l.drop lo).take (hi - lo)) := by
  obtain ⟨e1, e2, e3⟩ := h.len_
  unfold cutAddr
  by_cases hc : mx = lo
  · rw [if_pos hc, show hi - lo = 0 by omega, show mx - lo = 0 by omega, List.take_zero]
    exact ⟨A, 0, rfl, by simp, by simp [maxLen], by simp, by simp, by simp⟩
  · rw [if_neg hc]
    have hd := h.drop_ (k := lo) (by omega)
    have ht := hd.take_ (k := hi - lo) (by rw [List.length_drop]; omega)
    exact ht.room_ (by omega) (by omega)
theorem cut_own (A : Option Addr) (lo mx s n c n' c' : Nat) : (Value.slice (cutAddr A lo mx s) n c).ownBlock = (Value.slice A n' c').ownBlock := by
  unfold cutAddr
  split
  · cases A <;> rfl
  · cases A with
    | none => rfl
    | some a => simp [Value.ownBlock, Addr.add]; split <;> rfl
theorem cut_lhm (K : El P α) (he : P.elem K.s = K.e) (A : Option Addr) (n c lo hi mx : Nat) (h1 : lo ≤ hi) (h3 : hi ≤ mx) (h4 : mx ≤ c) :
    (∀ w, (Instr.slice K.s (.slice A n c) (some (.int .i64 (lo : Nat))) (some (.int .i64 (hi : Nat))) (some (.int .i64 (mx : Nat)))).run P w = .ok (.slice (cutAddr A lo mx K.size) (hi - lo) (mx - lo)) w) ∧
    (∀ w, (Instr.sliceAt K.s (.slice A n c) (some (.int .i64 (lo : Nat))) (some (.int .i64 (hi : Nat))) (some (.int .i64 (mx : Nat)))).run P w = .ok (.slice (cutAddr A lo mx K.size) (hi - lo) (mx - lo)) w) := by
  have hu : P.underlying K.s = some (.slice (P.elem K.s)) := by rw [he]; exact K.under
  have h : ∀ w, (Instr.slice K.s (.slice A n c) (some (.int .i64 (lo : Nat))) (some (.int .i64 (hi : Nat))) (some (.int .i64 (mx : Nat)))).run P w = .ok (.slice (cutAddr A lo mx K.size) (hi - lo) (mx - lo)) w := by
    intro w
    rw [run_slice_lhm (P := P) w K.s A n c hu .i64 .i64 .i64 (lo : Nat) (hi : Nat) (mx : Nat) (by omega) (by omega) (by omega) (by omega), elem_size K he]
    simp only [Result.andThen, sliced, Int.toNat_natCast, cutAddr]
  exact ⟨h, fun w => by rw [run_sliceAt_slice (P := P) w _ _ _ _ _ hu]; exact h w⟩
theorem cut_hm (K : El P α) (he : P.elem K.s = K.e) (A : Option Addr) (n c hi mx : Nat) (h3 : hi ≤ mx) (h4 : mx ≤ c) :
    (∀ w, (Instr.slice K.s (.slice A n c) none (some (.int .i64 (hi : Nat))) (some (.int .i64 (mx : Nat)))).run P w = .ok (.slice A hi mx) w) ∧
    (∀ w, (Instr.sliceAt K.s (.slice A n c) none (some (.int .i64 (hi : Nat))) (some (.int .i64 (mx : Nat)))).run P w = .ok (.slice A hi mx) w) := by
  have hu : P.underlying K.s = some (.slice (P.elem K.s)) := by rw [he]; exact K.under
  have h : ∀ w, (Instr.slice K.s (.slice A n c) none (some (.int .i64 (hi : Nat))) (some (.int .i64 (mx : Nat)))).run P w = .ok (.slice A hi mx) w := by
    intro w
    rw [run_slice_hm (P := P) w K.s A n c hu .i64 .i64 (hi : Nat) (mx : Nat) (by omega) (by omega) (by omega), elem_size K he]
    simp only [Result.andThen, sliced, Int.toNat_natCast, Nat.zero_mul, Nat.sub_zero]
    have e : A.map (·.add 0) = A := by cases A <;> simp [addr_none]
    simp [addr_none]
  exact ⟨h, fun w => by rw [run_sliceAt_slice (P := P) w _ _ _ _ _ hu]; exact h w⟩
theorem cut_lh (K : El P α) (he : P.elem K.s = K.e) (A : Option Addr) (n c lo hi : Nat) (h1 : lo ≤ hi) (h3 : hi ≤ c) :
    (∀ w, (Instr.slice K.s (.slice A n c) (some (.int .i64 (lo : Nat))) (some (.int .i64 (hi : Nat))) none).run P w = .ok (.slice (cutAddr A lo c K.size) (hi - lo) (c - lo)) w) ∧
    (∀ w, (Instr.sliceAt K.s (.slice A n c) (some (.int .i64 (lo : Nat))) (some (.int .i64 (hi : Nat))) none).run P w = .ok (.slice (cutAddr A lo c K.size) (hi - lo) (c - lo)) w) := by
  have hu : P.underlying K.s = some (.slice (P.elem K.s)) := by rw [he]; exact K.under
  have h : ∀ w, (Instr.slice K.s (.slice A n c) (some (.int .i64 (lo : Nat))) (some (.int .i64 (hi : Nat))) none).run P w = .ok (.slice (cutAddr A lo c K.size) (hi - lo) (c - lo)) w := by
    intro w
    rw [run_slice_lh (P := P) w K.s A n c hu .i64 .i64 (lo : Nat) (hi : Nat) (by omega) (by omega) (by omega), elem_size K he]
    simp only [Result.andThen, sliced, Int.toNat_natCast, cutAddr]
  exact ⟨h, fun w => by rw [run_sliceAt_slice (P := P) w _ _ _ _ _ hu]; exact h w⟩
end
end Go.Proofs.Ytmcbjcbnckpfkaa
