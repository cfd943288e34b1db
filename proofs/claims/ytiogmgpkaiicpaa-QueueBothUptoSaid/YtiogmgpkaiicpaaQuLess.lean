/-
  The orders of stooklaw07: what the closures answer.
-/
import Derived.Test.YtiogmgpkaiicpaaQuSpec
import Derived.Test.YtiogmgpkaiicpaaRQu
import Derived.Test.YtiogmgpkaiicpaaKStr
import Derived.Deep.QuietTactic
import Derived.BigQuiet
namespace Go.Proofs.Ytiogmgpkaiicpaa
open Go.RowKit
set_option linter.unusedVariables false

namespace Qu
def ltI (a b : Int) : Bool := decide (a < b)
theorem ltI_order : Order ltI where
  irr := fun a => by simp [ltI]
  trans := fun a c d h1 h2 => by simp only [ltI, decide_eq_true_eq] at *; omega
  alike := fun a c d h => by simp only [ltI, decide_eq_true_eq] at *; omega
/-- Of texts: as Go has it. -/
def ltS (a b : ByteArray) : Bool := Op.bytesLess a.toList b.toList
theorem bl_irr : ∀ x : List UInt8, Op.bytesLess x x = false
  | [] => rfl
  | a :: x => by rw [Op.bytesLess, bl_irr x]; simp
theorem bl_tri : ∀ x y : List UInt8, Op.bytesLess x y = true ∨ x = y ∨ Op.bytesLess y x = true
  | [], [] => .inr (.inl rfl)
  | [], b :: y => .inl rfl
  | a :: x, [] => .inr (.inr rfl)
  | a :: x, b :: y => by
    simp only [Op.bytesLess, Bool.or_eq_true, Bool.and_eq_true, decide_eq_true_eq, beq_iff_eq]
    rcases Nat.lt_trichotomy a.toNat b.toNat with h | h | h
    · exact .inl (.inl (UInt8.lt_iff_toNat_lt.2 h))
    · obtain rfl : a = b := UInt8.toNat_inj.1 h
      rcases bl_tri x y with h | rfl | h
      · exact .inl (.inr ⟨rfl, h⟩)
      · exact .inr (.inl rfl)
      · exact .inr (.inr (.inr ⟨rfl, h⟩))
    · exact .inr (.inr (.inl (UInt8.lt_iff_toNat_lt.2 h)))
theorem bl_trans : ∀ x y z : List UInt8, Op.bytesLess x y = true → Op.bytesLess y z = true → Op.bytesLess x z = true
  | [], y, [], h1, h2 => by cases y <;> simp [Op.bytesLess] at h1 h2
  | [], _, _ :: _, _, _ => rfl
  | a :: x, [], z, h1, _ => by simp [Op.bytesLess] at h1
  | a :: x, b :: y, [], _, h2 => by simp [Op.bytesLess] at h2
  | a :: x, b :: y, c :: z, h1, h2 => by
    simp only [Op.bytesLess, Bool.or_eq_true, Bool.and_eq_true, decide_eq_true_eq, beq_iff_eq] at *
    rcases h1 with h1 | ⟨rfl, h1⟩
    · rcases h2 with h2 | ⟨rfl, h2⟩
      · rw [UInt8.lt_iff_toNat_lt] at *; exact .inl (Nat.lt_trans h1 h2)
      · exact .inl h1
    · rcases h2 with h2 | ⟨rfl, h2⟩
      · exact .inl h2
      · exact .inr ⟨rfl, bl_trans x y z h1 h2⟩
theorem ltS_order : Order ltS where
  irr := fun a => bl_irr _
  trans := fun a b c h1 h2 => bl_trans _ _ _ h1 h2
  alike := fun a b c h => by
    rcases bl_tri a.toList c.toList with h1 | h1 | h1
    · exact .inl h1
    · refine .inr ?_
      show Op.bytesLess c.toList b.toList = true
      rw [← h1]; exact h
    · exact .inr (bl_trans _ _ _ h1 h)
/-- What Go's '>' answers of two texts that stand in their order. -/
theorem gtS_row {a b : ByteArray} (h : ltS b a = false) : (!(Op.bytesLess a.toList b.toList || a.toList == b.toList)) = false := by
  rcases bl_tri a.toList b.toList with h1 | h1 | h1
  · rw [h1]; rfl
  · rw [h1]; simp
  · rw [ltS] at h; rw [h] at h1; cases h1
end Qu
theorem I64_10 : I64 10 := by unfold I64; omega

set_option maxHeartbeats 400000 in
theorem less_works (w : World) (F : Nat → Prop) : Less intV I64 37 #[] (Qu.ltR 10) w F := by
  refine ⟨enters_of Try.func37 (by kernel_rfl) rfl, ?_⟩
  intro a b ha hb w' _
  show Calls Try.prog _ #[.int .i64 a, .int .i64 b] w' _
  have h1 := i64_wrap (tmod_i64 ha I64_10 (by omega))
  have h2 := i64_wrap (tmod_i64 hb I64_10 (by omega))
  have HX : Hid (Qu.ltR 10 a b = decide (a.tmod 10 < b.tmod 10)) := by unfold Hid Qu.ltR Qu.rank; simp
  clear ha hb
  go_enter Try.func37, Try.ntmps37
  go_wp2
  go_ret
  exact ⟨by rw [HX.out]; rfl, Below.refl _ _⟩
set_option maxHeartbeats 400000 in
theorem less_fresh (w : World) (F : Nat → Prop) : Less intV I64 31 #[] Qu.ltI w F := by
  refine ⟨enters_of Try.func31 (by kernel_rfl) rfl, ?_⟩
  intro a b ha hb w' _
  show Calls Try.prog _ #[.int .i64 a, .int .i64 b] w' _
  have HX : Hid (Qu.ltI a b = decide (a < b)) := rfl
  clear ha hb
  go_enter Try.func31, Try.ntmps31
  go_wp2
  go_ret
  exact ⟨by rw [HX.out]; rfl, Below.refl _ _⟩
set_option maxHeartbeats 400000 in
theorem less_sorts (w : World) (F : Nat → Prop) (g : Nat) (by' : Int) (hby : I64 by') (hc : w.cell? ⟨g, 0, none⟩ = some (.int .i64 by')) (hF : ¬ F g) : Less intV I64 20 #[.pointer (some ⟨g, 0, none⟩)] (Qu.ltR by') w F := by
  refine ⟨enters_of Try.func20 (by kernel_rfl) rfl, ?_⟩
  intro a b ha hb w' ht
  show Calls Try.prog _ #[.int .i64 a, .int .i64 b, .pointer (some ⟨g, 0, none⟩)] w' _
  have hcell := ht.cell hc hF
  have HA : Hid (∀ w, Calls Try.prog 12 #[.int .i64 a, .int .i64 by'] w (fun e w' => e = .returned (.int .i64 (Qu.rank a by')) ∧ w' = w)) := fun w => (rrank_any a by' ha hby w).mono fun e w' ⟨h1, h2⟩ => ⟨h1, h2.symm⟩
  have HB : Hid (∀ w, Calls Try.prog 12 #[.int .i64 b, .int .i64 by'] w (fun e w' => e = .returned (.int .i64 (Qu.rank b by')) ∧ w' = w)) := fun w => (rrank_any b by' hb hby w).mono fun e w' ⟨h1, h2⟩ => ⟨h1, h2.symm⟩
  obtain ⟨ra, hra⟩ : ∃ r, Qu.rank a by' = r := ⟨_, rfl⟩
  obtain ⟨rb, hrb⟩ : ∃ r, Qu.rank b by' = r := ⟨_, rfl⟩
  have HX : Hid (Qu.ltR by' a b = decide (ra < rb)) := by unfold Hid Qu.ltR; rw [hra, hrb]
  rw [hra] at HA
  rw [hrb] at HB
  clear ha hb hby hra hrb ht hc hF
  go_enter Try.func20, Try.ntmps20
  go_wp2
  go_quiet (first | (with_reducible exact Calls.quiet_of_same (HA.out _)) | (with_reducible exact Calls.quiet_of_same (HB.out _)))
  go_wp2
  go_ret
  exact ⟨by rw [HX.out]; rfl, below_drewN (Below.refl _ _) _⟩

set_option maxHeartbeats 400000 in
theorem less_plays (w : World) (F : Nat → Prop) (g : Nat) (by' : Int) (hby : I64 by') (hc : w.cell? ⟨g, 0, none⟩ = some (.int .i64 by')) (hF : ¬ F g) : Less intV I64 11 #[.pointer (some ⟨g, 0, none⟩)] (Qu.ltR by') w F := by
  refine ⟨enters_of Try.func11 (by kernel_rfl) rfl, ?_⟩
  intro a b ha hb w' ht
  show Calls Try.prog _ #[.int .i64 a, .int .i64 b, .pointer (some ⟨g, 0, none⟩)] w' _
  have hcell := ht.cell hc hF
  have HA : Hid (∀ w, Calls Try.prog 12 #[.int .i64 a, .int .i64 by'] w (fun e w' => e = .returned (.int .i64 (Qu.rank a by')) ∧ w' = w)) := fun w => (rrank_any a by' ha hby w).mono fun e w' ⟨h1, h2⟩ => ⟨h1, h2.symm⟩
  have HB : Hid (∀ w, Calls Try.prog 12 #[.int .i64 b, .int .i64 by'] w (fun e w' => e = .returned (.int .i64 (Qu.rank b by')) ∧ w' = w)) := fun w => (rrank_any b by' hb hby w).mono fun e w' ⟨h1, h2⟩ => ⟨h1, h2.symm⟩
  obtain ⟨ra, hra⟩ : ∃ r, Qu.rank a by' = r := ⟨_, rfl⟩
  obtain ⟨rb, hrb⟩ : ∃ r, Qu.rank b by' = r := ⟨_, rfl⟩
  have HX : Hid (Qu.ltR by' a b = decide (ra < rb)) := by unfold Hid Qu.ltR; rw [hra, hrb]
  rw [hra] at HA
  rw [hrb] at HB
  clear ha hb hby hra hrb ht hc hF
  go_enter Try.func11, Try.ntmps11
  go_wp2
  go_quiet (first | (with_reducible exact Calls.quiet_of_same (HA.out _)) | (with_reducible exact Calls.quiet_of_same (HB.out _)))
  go_wp2
  go_ret
  exact ⟨by rw [HX.out]; rfl, below_drewN (Below.refl _ _) _⟩

set_option maxHeartbeats 400000 in
theorem less_both (w : World) (F : Nat → Prop) (g : Nat) (by' : Int) (hby : I64 by') (hc : w.cell? ⟨g, 0, none⟩ = some (.int .i64 by')) (hF : ¬ F g) : Less intV I64 33 #[.pointer (some ⟨g, 0, none⟩)] (Qu.ltR by') w F := by
  refine ⟨enters_of Try.func33 (by kernel_rfl) rfl, ?_⟩
  intro a b ha hb w' ht
  show Calls Try.prog _ #[.int .i64 a, .int .i64 b, .pointer (some ⟨g, 0, none⟩)] w' _
  have hcell := ht.cell hc hF
  have HA : Hid (∀ w, Calls Try.prog 12 #[.int .i64 a, .int .i64 by'] w (fun e w' => e = .returned (.int .i64 (Qu.rank a by')) ∧ w' = w)) := fun w => (rrank_any a by' ha hby w).mono fun e w' ⟨h1, h2⟩ => ⟨h1, h2.symm⟩
  have HB : Hid (∀ w, Calls Try.prog 12 #[.int .i64 b, .int .i64 by'] w (fun e w' => e = .returned (.int .i64 (Qu.rank b by')) ∧ w' = w)) := fun w => (rrank_any b by' hb hby w).mono fun e w' ⟨h1, h2⟩ => ⟨h1, h2.symm⟩
  obtain ⟨ra, hra⟩ : ∃ r, Qu.rank a by' = r := ⟨_, rfl⟩
  obtain ⟨rb, hrb⟩ : ∃ r, Qu.rank b by' = r := ⟨_, rfl⟩
  have HX : Hid (Qu.ltR by' a b = decide (ra < rb)) := by unfold Hid Qu.ltR; rw [hra, hrb]
  rw [hra] at HA
  rw [hrb] at HB
  clear ha hb hby hra hrb ht hc hF
  go_enter Try.func33, Try.ntmps33
  go_wp2
  go_quiet (first | (with_reducible exact Calls.quiet_of_same (HA.out _)) | (with_reducible exact Calls.quiet_of_same (HB.out _)))
  go_wp2
  go_ret
  exact ⟨by rw [HX.out]; rfl, below_drewN (Below.refl _ _) _⟩

set_option maxHeartbeats 400000 in
theorem less_texts (w : World) (F : Nat → Prop) : Less strV (fun s => s.size ≤ maxLen) 29 #[] Qu.ltS w F := by
  refine ⟨enters_of Try.func29 (by kernel_rfl) rfl, ?_⟩
  intro a b ha hb w' _
  show Calls Try.prog _ #[.string a, .string b] w' _
  clear ha hb
  go_enter Try.func29, Try.ntmps29
  go_wp2
  go_ret
  exact ⟨rfl, Below.refl _ _⟩
set_option maxHeartbeats 400000 in
theorem less_stays (w : World) (F : Nat → Prop) : Less atV AtOk 24 #[] (fun x y => decide (x.1 < y.1)) w F := by
  refine ⟨enters_of Try.func24 (by kernel_rfl) rfl, ?_⟩
  intro a b ha hb w' _
  show Calls Try.prog _ #[.agg #[.int .i64 a.1, .int .i64 a.2], .agg #[.int .i64 b.1, .int .i64 b.2]] w' _
  obtain ⟨a0, a1⟩ := a
  obtain ⟨b0, b1⟩ := b
  clear ha hb
  go_enter Try.func24, Try.ntmps24
  go_wp2
  go_ret
  exact ⟨rfl, ((Below.refl _ _).alloc (Nat.le_refl _) _).alloc (by simp) _⟩
end Go.Proofs.Ytiogmgpkaiicpaa
