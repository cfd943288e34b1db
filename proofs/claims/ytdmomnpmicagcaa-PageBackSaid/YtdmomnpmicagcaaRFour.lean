/-
  stookref02.Four.
-/
import Derived.Test.YtdmomnpmicagcaaOwnLit
import Derived.Test.YtdmomnpmicagcaaKByte
import Derived.Test.YtdmomnpmicagcaaLAns
import Derived.Test.YtdmomnpmicagcaaFour
import Derived.Test.YtdmomnpmicagcaaCMathB
namespace Go.Proofs.Ytdmomnpmicagcaa
open Go.RowKit
set_option linter.unusedVariables false

theorem four_at4 (n : Nat) : ((n : Int) % 256 = ((Cr.byt n 0 : Nat) : Int)) ∧ ((n : Int) / 256 % 256 = ((Cr.byt n 1 : Nat) : Int)) ∧ ((n : Int) / 65536 % 256 = ((Cr.byt n 2 : Nat) : Int)) ∧ ((n : Int) / 16777216 % 256 = ((Cr.byt n 3 : Nat) : Int)) := by
  unfold Cr.byt
  refine ⟨by simp, by simp, by simp, by simp⟩

set_option maxHeartbeats 1000000 in
set_option maxRecDepth 100000 in
theorem rfour_any (n : Nat) (h : Cr.B32 n) (w : World) : Calls Try.prog 19 #[.int .u32 n] w (IsL1 yK (four n) w) := by
  have hn : n < 4294967296 := h
  obtain ⟨h0, h1, h2, h3⟩ := four_at4 n
  have h4 : (n : Int) / 16777216 = ((Cr.byt n 3 : Nat) : Int) := by omega
  have HO : Hid (OwnL yK (w.alloc (.cells #[.int .u8 (Cr.byt n 0 : Nat), .int .u8 (Cr.byt n 1 : Nat), .int .u8 (Cr.byt n 2 : Nat), .int .u8 (Cr.byt n 3 : Nat)] 5)) w.heap.size (.slice (some ⟨w.heap.size, 0, none⟩) 4 4) (four n)) :=
    own_lit w w.heap.size (four n) (four_lt n) (by simp [maxLen, four]) (Nat.le_refl _) 4 rfl _ rfl _ rfl
  clear h3
  go_enter Try.func19, Try.ntmps19
  go_wp2
  go_ret
  exact ⟨_, _, rfl, HO.out, (Below.refl w.heap.size w).alloc (Nat.le_refl _) _⟩
end Go.Proofs.Ytdmomnpmicagcaa
