/-
  frame.sumOf: the four bytes of a row's sum, as an array.
-/
import Derived.Test.YteemhdoegjdaiaaCMore
import Derived.Test.YteemhdoegjdaiaaFMath
namespace Go.Proofs.Yteemhdoegjdaiaa
open Go.RowKit
set_option linter.unusedVariables false

/-- The array's cells, the first k of them written. -/
def arr4 (n k : Nat) : Array Value := #[.int .u8 (if 0 < k then Cr.byt n 0 else 0 : Nat), .int .u8 (if 1 < k then Cr.byt n 1 else 0 : Nat), .int .u8 (if 2 < k then Cr.byt n 2 else 0 : Nat), .int .u8 (if 3 < k then Cr.byt n 3 else 0 : Nat)]

theorem arr4_at (n : Nat) {k : Nat} (h : k < 4) : ∃ x : Nat, (arr4 n k)[k]? = some (.int .u8 x) := by
  rcases k with _|_|_|_|k
  all_goals first | exact ⟨0, rfl⟩ | omega
theorem arr4_set (n : Nat) {k : Nat} (h : k < 4) : (arr4 n k).setIfInBounds k (.int .u8 (Cr.byt n k : Nat)) = arr4 n (k + 1) := by
  rcases k with _|_|_|_|k
  all_goals first | rfl | omega
theorem arr4_end (n : Nat) : arr4 n 4 = #[.int .u8 (Cr.byt n 0 : Nat), .int .u8 (Cr.byt n 1 : Nat), .int .u8 (Cr.byt n 2 : Nat), .int .u8 (Cr.byt n 3 : Nat)] := rfl

/-- A call that answers an array of the four bytes of a number, and turns nothing that was there. -/
def IsFour (n : Nat) (w : World) (e : Ending) (w' : World) : Prop :=
  e = .returned (.agg #[.int .u8 (Cr.byt n 0 : Nat), .int .u8 (Cr.byt n 1 : Nat), .int .u8 (Cr.byt n 2 : Nat), .int .u8 (Cr.byt n 3 : Nat)]) ∧ Below w.heap.size w w'

set_option maxHeartbeats 1000000 in
set_option maxRecDepth 100000 in
theorem sumOf_any (v : Value) (l : List Nat) (B : Nat) (w : World) (hB : B ≤ w.heap.size) (hv : Bv w B v l) :
    Calls Try.prog 29 #[v] w (IsFour (Cr.of l) w) := by
  have H0 := Lib.hid hv
  have HN := Lib.hid (Cr.of_b32 hv.lt_)
  obtain ⟨n, hn⟩ : ∃ n, Cr.of l = n := ⟨_, rfl⟩
  rw [hn] at HN
  obtain ⟨A, c, rfl, hlc, hcm, hnil, hb⟩ := hv
  have hb1 := ((Below.refl w.heap.size w).alloc (Nat.le_refl _) (.cells #[.int .u8 0, .int .u8 0, .int .u8 0, .int .u8 0] 49))
  have hb2 := hb1.alloc hb1.size (.cells #[.int .u8 0, .int .u8 0, .int .u8 0, .int .u8 0] 49)
  have HC := Lib.hid (of_any _ l B _ (H0.out.below_ hb2 hB))
  rw [hn] at HC
  have hn32 : n < 4294967296 := HN.out
  have HE : Hid (Cr.of l = n) := hn
  have HB1 := Lib.hid hb1
  clear hb1 hb2 hn hb hnil
  go_enter Try.func29, Try.ntmps29
  go_wp2_with fail
  ((with_reducible refine HC.out.mono ?_); rintro e w' ⟨rfl, rfl⟩)
  go_wp2
  go_loopw [8] (fun i wr => ∃ k : Nat, k ≤ 4 ∧ i = .int .i64 k ∧ wr = (w.alloc (.cells #[.int .u8 0, .int .u8 0, .int .u8 0, .int .u8 0] 49)).alloc (.cells (arr4 n k) 49)) (fun i _ => 4 - (intOf i).toNat)
  case atStart => exact ⟨0, by omega, rfl, rfl⟩
  case round =>
    obtain ⟨k, hk, rfl, rfl⟩ := hrel
    by_cases h4 : k < 4
    · have hx : (n : Int) / 2 ^ (8 * k) % 256 = ((Cr.byt n k : Nat) : Int) := by unfold Cr.byt; simp
      obtain ⟨x0, hx0⟩ := arr4_at n h4
      have HS := Lib.hid (arr4_set n h4)
      obtain ⟨c4, hc4⟩ : ∃ a, arr4 n k = a := ⟨_, rfl⟩
      rw [hc4] at hx0 HS ⊢
      clear hc4
      go_wp2
      rw [HS.out]
      exact ⟨⟨k + 1, by omega, by go_num, rfl⟩, by simp [intOf]; omega⟩
    · have h0 : k = 4 := by omega
      subst h0
      rw [arr4_end]
      go_wp2
      refine bodyPost_ret (v := .agg #[.int .u8 (Cr.byt n 0 : Nat), .int .u8 (Cr.byt n 1 : Nat), .int .u8 (Cr.byt n 2 : Nat), .int .u8 (Cr.byt n 3 : Nat)]) (by simp [results, Try.results29, go_sem]) rfl ⟨?_, ?_⟩
      · rw [HE.out]
      · exact ((Below.refl w.heap.size w).alloc (Nat.le_refl _) _).alloc (by simp) _
end Go.Proofs.Yteemhdoegjdaiaa
