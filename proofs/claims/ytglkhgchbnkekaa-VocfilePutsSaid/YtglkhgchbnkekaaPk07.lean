/-
  CutM: Cuts of a slice by two and by three indexes, in whatever world.
  Eq4: Arrays of four bytes: of a slice of four; two of them compared.
  Four: The four bytes of a sum, the lowest first; a row with its own sum behind it has always the same sum.
-/
import Derived.Test.YtglkhgchbnkekaaPk06
import Derived.Test.YtglkhgchbnkekaaPk01
import Derived.Stop.BytesEq
import Derived.Test.YtglkhgchbnkekaaPk04
namespace Go.Proofs.Ytglkhgchbnkekaa
open Go.RowKit
set_option linter.unusedVariables false

section
variable {P : Program} {α : Type}
/-- A slice that holds a list holds it with less room too. -/
theorem Lv.room_ {K : El P α} {w : World} {B n c c' : Nat} {A : Option Addr} {l : List α} (h : Lv K w B (.slice A n c) l) (h1 : n ≤ c') (h2 : c' ≤ c) : Lv K w B (.slice A n c') l := by
  obtain ⟨A0, c0, e, k1, k2, k3, k4, k5⟩ := h
  simp only [Value.slice.injEq] at e
  obtain ⟨rfl, rfl, rfl⟩ := e
  exact ⟨A, c', rfl, h1, Nat.le_trans h2 k2, fun e => by have := k3 e; omega, k4, k5⟩
/-- The address of a cut. -/
def cutAddr (A : Option Addr) (lo mx s : Nat) : Option Addr := if mx = lo then A else A.map (·.add (lo * s))
theorem cut_lv {K : El P α} {w : World} {B n c lo hi mx : Nat} {A : Option Addr} {l : List α} (h : Lv K w B (.slice A n c) l) (h1 : lo ≤ hi) (h2 : hi ≤ n) (h3 : hi ≤ mx) (h4 : mx ≤ c) :
    Lv K w B (.slice (cutAddr A lo mx K.size) (hi - lo) (mx - lo)) ((l.drop lo).take (hi - lo)) := by
  obtain ⟨e1, e2, e3⟩ := h.len_
  unfold cutAddr
  by_cases hc : mx = lo
  · rw [if_pos hc, show hi - lo = 0 by omega, show mx - lo = 0 by omega, List.take_zero]
    exact ⟨A, 0, rfl, by simp, by simp [maxLen], by simp, by simp, by simp⟩
  · rw [if_neg hc]
    have hd := h.drop_ (k := lo) (by omega)
    have ht := hd.take_ (k := hi - lo) (by rw [List.length_drop]; omega)
    exact ht.room_ (by omega) (by omega)
theorem cut_own (A : Option Addr) (lo mx s n c n' c' : Nat) : (Value.slice (cutAddr A lo mx s) n c).ownBlock = (Value.slice A n' c').ownBlock := by
  unfold cutAddr
  split
  · cases A <;> rfl
  · cases A with
    | none => rfl
    | some a => simp [Value.ownBlock, Addr.add]; split <;> rfl
theorem cut_lhm (K : El P α) (he : P.elem K.s = K.e) (A : Option Addr) (n c lo hi mx : Nat) (h1 : lo ≤ hi) (h3 : hi ≤ mx) (h4 : mx ≤ c) :
    (∀ w, (Instr.slice K.s (.slice A n c) (some (.int .i64 (lo : Nat))) (some (.int .i64 (hi : Nat))) (some (.int .i64 (mx : Nat)))).run P w = .ok (.slice (cutAddr A lo mx K.size) (hi - lo) (mx - lo)) w) ∧
    (∀ w, (Instr.sliceAt K.s (.slice A n c) (some (.int .i64 (lo : Nat))) (some (.int .i64 (hi : Nat))) (some (.int .i64 (mx : Nat)))).run P w = .ok (.slice (cutAddr A lo mx K.size) (hi - lo) (mx - lo)) w) := by
  have hu : P.underlying K.s = some (.slice (P.elem K.s)) := by rw [he]; exact K.under
  have h : ∀ w, (Instr.slice K.s (.slice A n c) (some (.int .i64 (lo : Nat))) (some (.int .i64 (hi : Nat))) (some (.int .i64 (mx : Nat)))).run P w = .ok (.slice (cutAddr A lo mx K.size) (hi - lo) (mx - lo)) w := by
    intro w
    rw [run_slice_lhm (P := P) w K.s A n c hu .i64 .i64 .i64 (lo : Nat) (hi : Nat) (mx : Nat) (by omega) (by omega) (by omega) (by omega), elem_size K he]
    simp only [Result.andThen, sliced, Int.toNat_natCast, cutAddr]
  exact ⟨h, fun w => by rw [run_sliceAt_slice (P := P) w _ _ _ _ _ hu]; exact h w⟩
theorem cut_hm (K : El P α) (he : P.elem K.s = K.e) (A : Option Addr) (n c hi mx : Nat) (h3 : hi ≤ mx) (h4 : mx ≤ c) :
    (∀ w, (Instr.slice K.s (.slice A n c) none (some (.int .i64 (hi : Nat))) (some (.int .i64 (mx : Nat)))).run P w = .ok (.slice A hi mx) w) ∧
    (∀ w, (Instr.sliceAt K.s (.slice A n c) none (some (.int .i64 (hi : Nat))) (some (.int .i64 (mx : Nat)))).run P w = .ok (.slice A hi mx) w) := by
  have hu : P.underlying K.s = some (.slice (P.elem K.s)) := by rw [he]; exact K.under
  have h : ∀ w, (Instr.slice K.s (.slice A n c) none (some (.int .i64 (hi : Nat))) (some (.int .i64 (mx : Nat)))).run P w = .ok (.slice A hi mx) w := by
    intro w
    rw [run_slice_hm (P := P) w K.s A n c hu .i64 .i64 (hi : Nat) (mx : Nat) (by omega) (by omega) (by omega), elem_size K he]
    simp only [Result.andThen, sliced, Int.toNat_natCast, Nat.zero_mul, Nat.sub_zero]
    have e : A.map (·.add 0) = A := by cases A <;> simp [addr_none]
    simp [addr_none]
  exact ⟨h, fun w => by rw [run_sliceAt_slice (P := P) w _ _ _ _ _ hu]; exact h w⟩
theorem cut_lh (K : El P α) (he : P.elem K.s = K.e) (A : Option Addr) (n c lo hi : Nat) (h1 : lo ≤ hi) (h3 : hi ≤ c) :
    (∀ w, (Instr.slice K.s (.slice A n c) (some (.int .i64 (lo : Nat))) (some (.int .i64 (hi : Nat))) none).run P w = .ok (.slice (cutAddr A lo c K.size) (hi - lo) (c - lo)) w) ∧
    (∀ w, (Instr.sliceAt K.s (.slice A n c) (some (.int .i64 (lo : Nat))) (some (.int .i64 (hi : Nat))) none).run P w = .ok (.slice (cutAddr A lo c K.size) (hi - lo) (c - lo)) w) := by
  have hu : P.underlying K.s = some (.slice (P.elem K.s)) := by rw [he]; exact K.under
  have h : ∀ w, (Instr.slice K.s (.slice A n c) (some (.int .i64 (lo : Nat))) (some (.int .i64 (hi : Nat))) none).run P w = .ok (.slice (cutAddr A lo c K.size) (hi - lo) (c - lo)) w := by
    intro w
    rw [run_slice_lh (P := P) w K.s A n c hu .i64 .i64 (lo : Nat) (hi : Nat) (by omega) (by omega) (by omega), elem_size K he]
    simp only [Result.andThen, sliced, Int.toNat_natCast, cutAddr]
  exact ⟨h, fun w => by rw [run_sliceAt_slice (P := P) w _ _ _ _ _ hu]; exact h w⟩
end
end Go.Proofs.Ytglkhgchbnkekaa
namespace Go.Proofs.Ytglkhgchbnkekaa
open Go.RowKit
set_option linter.unusedVariables false

theorem array_at (a : Addr) (w : World) : (Instr.arrayAt 51 (.slice (some a) 4 4)).run Try.prog w = .ok (.pointer (some a)) w := by
  simp [Instr.arrayAt, run_underlying Try.underlying51]
theorem cells_u8 {l : List Nat} (h : ∀ x ∈ l, x < 256) : (l.map UInt8.ofNat).map Extern.Stop.cell = l.map u8 := by
  rw [List.map_map]
  refine List.map_congr_left fun x hx => ?_
  have := h x hx
  simp [Extern.Stop.cell, u8]
  omega
theorem u8_inj {l : List Nat} : ∀ {m : List Nat}, (∀ x ∈ l, x < 256) → (∀ x ∈ m, x < 256) → ((l.map UInt8.ofNat == m.map UInt8.ofNat) = decide (l = m)) := by
  induction l with
  | nil => intro m _ _; cases m <;> simp
  | cons x l ih =>
    intro m hl hm
    cases m with
    | nil => simp
    | cons y m =>
      have hx := hl x (by simp)
      have hy := hm y (by simp)
      have e : (UInt8.ofNat x == UInt8.ofNat y) = decide (x = y) := by
        rw [Bool.eq_iff_iff]
        simp [← UInt8.toNat_inj]
        omega
      rw [List.map_cons, List.map_cons, List.cons_beq_cons, ih (fun z hz => hl z (by simp [hz])) (fun z hz => hm z (by simp [hz])), e]
      rw [Bool.eq_iff_iff]
      simp
theorem size_of5 (w : World) : (sizeOf 5).run Try.prog w = .ok 1 w := by
  obtain ⟨i, hi, _, hs, _⟩ := info_parts info5
  simp [sizeOf, typeInfo, hi, hs]
theorem equal4 {s t : List Nat} (hs : s.length = 4) (ht : t.length = 4) (hs8 : ∀ x ∈ s, x < 256) (ht8 : ∀ x ∈ t, x < 256) (w : World) :
    (Op.equalIn 10000 51 (.agg (s.map u8).toArray) (.agg (t.map u8).toArray)).run Try.prog w = .ok (decide (s = t)) w := by
  have h := run_equalIn_bytes (P := Try.prog) w 9998 51 5 4 Try.underlying51 Try.underlying5 size_of5 (s.map UInt8.ofNat) (t.map UInt8.ofNat) (by simpa using hs) (by simpa using ht)
  rw [cells_u8 hs8, cells_u8 ht8, u8_inj hs8 ht8] at h
  exact h
end Go.Proofs.Ytglkhgchbnkekaa
namespace Go.Proofs.Ytglkhgchbnkekaa

/-- The four bytes of a number, the lowest first. -/
def four (n : Nat) : List Nat := [Cr.byt n 0, Cr.byt n 1, Cr.byt n 2, Cr.byt n 3]
theorem four_len (n : Nat) : (four n).length = 4 := rfl
theorem four_lt (n : Nat) : ∀ x ∈ four n, x < 256 := by
  intro x hx
  simp only [four, List.mem_cons, List.not_mem_nil, or_false] at hx
  rcases hx with rfl | rfl | rfl | rfl <;> exact Cr.byt_lt _ _
theorem le_four {n : Nat} (h : Cr.B32 n) : Cr.le (four n) = n := by
  unfold Cr.B32 at h
  simp only [four, Cr.le, Cr.byt]
  omega

namespace Fr
/-! ### A frame's own sum: behind its four bytes the sum of all is always the same number -/
def rest : Nat := Cr.flip (Cr.stepN 32 Cr.ones)
theorem of_frame {l : List Nat} (hl : ∀ x ∈ l, x < 256) : Cr.of (l ++ four (Cr.of l)) = rest := by
  have hb := Cr.of_b32 hl
  have h : Cr.flip (Cr.of l) ^^^ Cr.of l = Cr.ones := by rw [Cr.flip_eq, Nat.xor_assoc, Nat.xor_self, Nat.xor_zero]
  rw [Cr.of_append, Cr.more_eq, Cr.raw_le (four_lt _), le_four hb, h, four_len]
  rfl
end Fr
end Go.Proofs.Ytglkhgchbnkekaa
