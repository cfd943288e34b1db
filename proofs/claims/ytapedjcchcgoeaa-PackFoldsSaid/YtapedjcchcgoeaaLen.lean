/-
  leb.Len answers how many bytes a number has.
-/
import Derived.Test.YtapedjcchcgoeaaProg
import Derived.Test.YtapedjcchcgoeaaMath
import Derived.WalkKit
import Derived.Outline
import Derived.Lib.Hide
namespace Go.Proofs.Ytapedjcchcgoeaa
open Go.RowKit
set_option linter.unusedVariables false

set_option maxHeartbeats 400000 in
theorem len_any (n : Nat) (hn : Mt.B64 n) (w : World) :
    Calls Try.prog 30 #[.int .u64 n] w fun e w' => e = .returned (.int .i64 (Mt.put n).length) ∧ w = w' := by
  have hl := Mt.put_length hn
  have hd := Mt.b64_div hn
  have HL : Hid ((Mt.put n).length = 1 + Mt.ln (n / 128)) := hl
  clear hl
  go_enter Try.func30, Try.ntmps30
  go_wp2
  go_loop [0, 3] (fun m z => ∃ (q k : Nat), Mt.B64 q ∧ k ≤ 10 ∧ m = .int .u64 q ∧ z = .int .i64 k ∧ Hid ((Mt.put n).length = k + Mt.ln q)) (fun m _ => (intOf m).toNat)
  case atStart => exact ⟨n / 128, 1, hd, by omega, by simp, rfl, HL⟩
  case round =>
    obtain ⟨q, k, hq, hk, rfl, rfl, HR⟩ := hrel
    by_cases h : 0 < q
    · have hs := Mt.ln_step hq h
      have h1 := Mt.b64_div hq
      have h2 := Mt.put_len_le n
      have h3 := HR.out
      have H4 : Hid ((Mt.put n).length = (k + 1) + Mt.ln (q / 128)) := by unfold Hid; omega
      have h5 : k + 1 ≤ 10 := by omega
      clear hs h2 h3 HR HL
      go_wp2
      go_round
      case rel => exact ⟨q / 128, k + 1, h1, h5, by simp, by go_num, H4⟩
      case measure => simp [intOf]; omega
    · have h0 : q = 0 := by omega
      subst h0
      go_wp2
      go_ret
      exact ⟨by rw [HR.out, Mt.ln_zero]; rfl, rfl⟩
end Go.Proofs.Ytapedjcchcgoeaa
