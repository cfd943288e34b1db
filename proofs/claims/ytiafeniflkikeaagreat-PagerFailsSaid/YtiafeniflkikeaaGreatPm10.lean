/- Parts of the proof. -/
import Derived.Test.YtiafeniflkikeaaGreatPm05
import Derived.Test.YtiafeniflkikeaaGreatPm04
import Derived.Test.YtiafeniflkikeaaGreatPm08
import Derived.Stop.BytesEq
namespace Go.Proofs.YtiafeniflkikeaaGreat
open Go.RowKit
set_option linter.unusedVariables false
set_option maxHeartbeats 1000000 in
set_option maxRecDepth 100000 in
theorem copyO_any (v : Value) (l : List Nat) (B : Nat) (w : World) (h : Lv yK w B v l) (hsz : l.length ≤ 140737488355328) :
  Calls Tryz.prog 59 #[v] w (IsL1 yK l w) := by
 have H0 := Lib.hid h
 obtain ⟨A, c, rfl, _⟩ := h
 have hnil := Lib.hid (OwnL.nil_ yK w w.heap.size)
 go_enter Tryz.func59, Tryz.ntmps59
 go_wp2_with (at_builtin; go_must (refine wpList_append_l _ yK rfl _ _ rfl w.heap.size _ rfl [] hnil.out _ rfl _ l H0.out (by show _ * 1 ≤ _; simp; omega) (by simp [maxLen]; omega) (Nat.le_refl _) ?_; intro A3 c3 w1 hA hG))
 go_ret
 simp only [List.nil_append] at hA
 exact ⟨A3, c3, by simp, hA, (Below.refl w.heap.size w).grown hG (Nat.le_refl _) (by intro k hk; cases hk)⟩
end Go.Proofs.YtiafeniflkikeaaGreat
namespace Go.Proofs.YtiafeniflkikeaaGreat
open Go.RowKit
set_option linter.unusedVariables false
section
variable {P : Program} {α : Type}
theorem addr_none (a : Addr) : a.add 0 = a := by unfold Addr.add; split <;> simp_all
theorem elem_size (K : El P α) (he : P.elem K.s = K.e) (w : World) : (sizeOf (P.elem K.s)).run P w = .ok K.size w := by
 obtain ⟨i, hi, _, hs, _⟩ := info_parts K.info
 rw [he]
 simp [sizeOf, typeInfo, hi, hs]
theorem cut_to (K : El P α) (he : P.elem K.s = K.e) (A : Option Addr) (n c m : Nat) (h : m ≤ c) (w : World) :
  (Instr.slice K.s (.slice A n c) none (some (.int .i64 (m : Nat))) none).run P w = .ok (.slice A m c) w := by
 have hu : P.underlying K.s = some (.slice (P.elem K.s)) := by rw [he]; exact K.under
 rw [run_slice_h (P := P) w K.s A n c hu .i64 (m : Nat) (by omega) (by omega), elem_size K he]
 simp only [Result.andThen, sliced, Int.toNat_natCast, Nat.zero_mul, Nat.sub_zero]
 have e : A.map (·.add 0) = A := by cases A <;> simp [addr_none]
 simp [addr_none]
theorem cutAt_to (K : El P α) (he : P.elem K.s = K.e) (A : Option Addr) (n c m : Nat) (h : m ≤ c) (w : World) :
  (Instr.sliceAt K.s (.slice A n c) none (some (.int .i64 (m : Nat))) none).run P w = .ok (.slice A m c) w := by
 have hu : P.underlying K.s = some (.slice (P.elem K.s)) := by rw [he]; exact K.under
 rw [run_sliceAt_slice (P := P) w _ _ _ _ _ hu]
 exact cut_to K he A n c m h w
theorem cut_from (K : El P α) (he : P.elem K.s = K.e) (A : Option Addr) (n c m : Nat) (h : m ≤ n) (hn : n ≤ c) :
  ∃ A', (∀ w, (Instr.slice K.s (.slice A n c) (some (.int .i64 (m : Nat))) none none).run P w = .ok (.slice A' (n - m) (c - m)) w) ∧
   (∀ w, (Instr.sliceAt K.s (.slice A n c) (some (.int .i64 (m : Nat))) none none).run P w = .ok (.slice A' (n - m) (c - m)) w) ∧
   (∀ w B (l : List α), Lv K w B (.slice A n c) l → Lv K w B (.slice A' (n - m) (c - m)) (l.drop m)) ∧
   (Value.slice A' (n - m) (c - m)).ownBlock = (Value.slice A n c).ownBlock := by
 have hu : P.underlying K.s = some (.slice (P.elem K.s)) := by rw [he]; exact K.under
 have h1 : ∀ w, (Instr.slice K.s (.slice A n c) (some (.int .i64 (m : Nat))) none none).run P w = .ok (.slice (if c = m then A else A.map (·.add (m * K.size))) (n - m) (c - m)) w := by
  intro w
  rw [run_slice_l (P := P) w K.s A n c hu .i64 (m : Nat) (by omega) (by omega), elem_size K he]
  simp only [Result.andThen, sliced, Int.toNat_natCast]
 refine ⟨_, h1, fun w => ?_, fun w B l hl => ?_, ?_⟩
 ·rw [run_sliceAt_slice (P := P) w _ _ _ _ _ hu]
  exact h1 w
 ·obtain ⟨e1, e2, e3⟩ := hl.len_
  by_cases hc : c = m
  ·rw [if_pos hc]
   have e : l.drop m = [] := List.drop_of_length_le (by omega)
   rw [e, show n - m = 0 by omega, show c - m = 0 by omega]
   obtain ⟨A0, c0, ee, _, _, hnil, _⟩ := hl
   injection ee with ee1 _ ee3
   subst ee1 ee3
   exact ⟨A, 0, rfl, by simp, by simp [maxLen], by simp, by simp, by simp⟩
  ·rw [if_neg hc]
   exact hl.drop_ (by omega)
 ·by_cases hc : c = m
  ·rw [if_pos hc]; cases A <;> rfl
  ·rw [if_neg hc]
   cases A with
   | none => rfl
   | some a => simp [Value.ownBlock, Addr.add]; split <;> rfl
end
end Go.Proofs.YtiafeniflkikeaaGreat
namespace Go.Proofs.YtiafeniflkikeaaGreat
open Go.RowKit
set_option linter.unusedVariables false
theorem cells_u8 {l : List Nat} (h : ∀ x ∈ l, x < 256) : (l.map UInt8.ofNat).map Extern.Stop.cell = l.map u8 := by
 rw [List.map_map]
 refine List.map_congr_left fun x hx => ?_
 have := h x hx
 simp [Extern.Stop.cell, u8]
 omega
theorem u8_inj {l : List Nat} : ∀ {m : List Nat}, (∀ x ∈ l, x < 256) → (∀ x ∈ m, x < 256) → ((l.map UInt8.ofNat == m.map UInt8.ofNat) = decide (l = m)) := by
 induction l with
 | nil => intro m _ _; cases m <;> simp
 | cons x l ih =>
  intro m hl hm
  cases m with
  | nil => simp
  | cons y m =>
   have hx := hl x (by simp)
   have hy := hm y (by simp)
   have e : (UInt8.ofNat x == UInt8.ofNat y) = decide (x = y) := by
    rw [Bool.eq_iff_iff]
    simp [← UInt8.toNat_inj]
    omega
   rw [List.map_cons, List.map_cons, List.cons_beq_cons, ih (fun z hz => hl z (by simp [hz])) (fun z hz => hm z (by simp [hz])), e]
   rw [Bool.eq_iff_iff]
   simp
theorem size_of5 (w : World) : (sizeOf 5).run Tryz.prog w = .ok 1 w := by
 obtain ⟨i, hi, _, hs, _⟩ := info_parts info5
 simp [sizeOf, typeInfo, hi, hs]
end Go.Proofs.YtiafeniflkikeaaGreat
namespace Go.Proofs.YtiafeniflkikeaaGreat
open Go.RowKit
set_option linter.unusedVariables false
theorem equal4 {s t : List Nat} (hs : s.length = 4) (ht : t.length = 4) (hs8 : ∀ x ∈ s, x < 256) (ht8 : ∀ x ∈ t, x < 256) (w : World) :
  (Op.equalIn 10000 167 (.agg (s.map u8).toArray) (.agg (t.map u8).toArray)).run Tryz.prog w = .ok (decide (s = t)) w := by
 have h := run_equalIn_bytes (P := Tryz.prog) w 9998 167 5 4 Tryz.underlying167 Tryz.underlying5 size_of5 (s.map UInt8.ofNat) (t.map UInt8.ofNat) (by simpa using hs) (by simpa using ht)
 rw [cells_u8 hs8, cells_u8 ht8, u8_inj hs8 ht8] at h
 exact h
end Go.Proofs.YtiafeniflkikeaaGreat
