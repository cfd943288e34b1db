/-
  The program's queue of int: Peek, Pop.
-/
import Derived.Test.YtiogmgpkaiicpaaQuDropI
namespace Go.Proofs.Ytiogmgpkaiicpaa
open Go.RowKit
set_option linter.unusedVariables false

set_option maxHeartbeats 2000000 in
theorem ppeek_noneI {w : World} {qb m fn : Nat} {caps : Array Value} {A0 : Option Addr} {c : Nat} (h : HeadI w qb fn caps (.slice A0 0 c) m) :
    Calls Try.prog 15 #[.pointer (some ⟨qb, 0, none⟩)] w (fun e w' => e = .returned (.tuple #[.int .i64 0, .bool false]) ∧ Below w.heap.size w w') := by
  have HM := Lib.hid (plenI' h)
  clear h
  go_enter Try.func15, Try.ntmps15
  go_wp2_with (fail)
  refine (HM.out).mono ?_
  rintro e w1 ⟨rfl, rfl⟩
  go_wp2
  go_ret2
  exact ⟨rfl, Below.refl _ _⟩

set_option maxHeartbeats 2000000 in
theorem ppeek_someI {w : World} {qb g n c m fn : Nat} {caps : Array Value} {A : List (Int × Nat)} (h : HasI w qb g n c A m fn caps) (h0 : 0 < n) {rt : Int} {rn : Nat} (hr : A[0]? = some (rt, rn)) :
    Calls Try.prog 15 #[.pointer (some ⟨qb, 0, none⟩)] w (fun e w' => e = .returned (.tuple #[.int .i64 rt, .bool true]) ∧ Below w.heap.size w w') := by
  have HM := Lib.hid (plenI' h.head)
  have hd1 := h.head.list
  obtain ⟨
  r0,
  r1,
  hro⟩ := h.has hr
  simp only [Nat.zero_mul, Nat.zero_add] at r0
  simp only [Nat.zero_mul, Nat.zero_add] at r1
  have h0' : (0 : Int) < (n : Int) := by omega
  have hne : ((n : Int) == 0) = false := by rw [beq_eq_false_iff_ne]; omega
  have hne2 : ¬ (n : Int) = 0 := by omega
  clear h hr hro
  go_enter Try.func15, Try.ntmps15
  go_wp2_with (fail)
  refine (HM.out).mono ?_
  rintro e w1 ⟨rfl, rfl⟩
  go_wp2
  go_ret2
  exact ⟨rfl, Below.refl _ _⟩

set_option maxHeartbeats 2000000 in
theorem ppop_noneI {w : World} {qb m fn : Nat} {caps : Array Value} {A0 : Option Addr} {c : Nat} (h : HeadI w qb fn caps (.slice A0 0 c) m) :
    Calls Try.prog 16 #[.pointer (some ⟨qb, 0, none⟩)] w (fun e w' => e = .returned (.tuple #[.int .i64 0, .bool false]) ∧ Below w.heap.size w w') := by
  have HM := Lib.hid (ppeek_noneI h)
  clear h
  go_enter Try.func16, Try.ntmps16
  go_wp2_with (fail)
  refine (HM.out).mono ?_
  rintro e w1 ⟨rfl, hb⟩
  have HB := Lib.hid hb
  clear hb
  go_wp2
  go_ret2
  exact ⟨rfl, HB.out⟩

set_option maxHeartbeats 2000000 in
theorem ppop_someI {w : World} {qb g n c m fn : Nat} {caps : Array Value} {A : List (Int × Nat)} {lt : Int → Int → Bool} (h : HasI w qb g n c A m fn caps) (ho : Qu.Order lt) (hl : Less intV I64 fn caps lt w (fun k => k = qb ∨ k = g)) (hh : Qu.IsHeap lt A) (h0 : 0 < n) (hn : n ≤ 8388608) {rt : Int} {rn : Nat} (hr : A[0]? = some (rt, rn)) :
    Calls Try.prog 16 #[.pointer (some ⟨qb, 0, none⟩)] w (fun e w' => e = .returned (.tuple #[.int .i64 rt, .bool true]) ∧ ∃ A', ((rt, rn) :: A').Perm A ∧ Qu.IsHeap lt A' ∧ HasI w' qb g (n - 1) c A' m fn caps ∧ Turned (fun k => k = qb ∨ k = g) w w') := by
  obtain ⟨j, rfl⟩ : ∃ j, n = j + 1 := ⟨n - 1, by omega⟩
  have HM := Lib.hid (ppeek_someI h h0 hr)
  have HH := Lib.hid h
  have HL := Lib.hid hl
  have HR := Lib.hid hr
  have HO := Lib.hid ho
  have HHH := Lib.hid hh
  clear h hl hr ho hh
  go_enter Try.func16, Try.ntmps16
  go_wp2_with (fail)
  refine (HM.out).mono ?_
  rintro e w1 ⟨rfl, hb⟩
  have ht1 : Turned (fun k => k = qb ∨ k = g) w w1 := (Turned.of_below hb).mono (fun k h1 h2 => absurd h1 (by omega))
  have HD := Lib.hid (pdropI (HH.out.below_ hb) HO.out (HL.out.step ht1 (fun _ _ h => h)) HHH.out hn HR.out)
  have HT := Lib.hid ht1
  clear hb ht1 HM
  go_wp2_with (fail)
  refine (HD.out).mono ?_
  rintro e w2 ⟨rfl, A', h1, h2, h3, h4⟩
  have HE := Lib.hid (show ∃ A', ((rt, rn) :: A').Perm A ∧ Qu.IsHeap lt A' ∧ HasI w2 qb g (j + 1 - 1) c A' m fn caps ∧ Turned (fun k => k = qb ∨ k = g) w w2 from ⟨A', h1, h2, h3, HT.out.trans h4 (fun _ _ h => h)⟩)
  clear h1 h2 h3 h4 HD
  go_wp2
  go_ret2
  exact ⟨rfl, HE.out⟩
end Go.Proofs.Ytiogmgpkaiicpaa
