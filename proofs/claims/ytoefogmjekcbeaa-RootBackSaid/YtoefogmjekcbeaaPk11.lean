/-
  Len: leb.Len answers how many bytes a number has.
  MathB: Plain mathematics of chapter 1 (leb), more.
  MathC: Plain mathematics of chapter 1 (leb): what reading a number can tell.
-/
import Derived.Test.YtoefogmjekcbeaaProg
import Derived.Test.YtoefogmjekcbeaaPk01
import Derived.WalkKit
import Derived.Outline
import Derived.Lib.Hide
namespace Go.Proofs.Ytoefogmjekcbeaa
open Go.RowKit
set_option linter.unusedVariables false

set_option maxHeartbeats 400000 in
theorem len_any (n : Nat) (hn : Mt.B64 n) (w : World) :
    Calls Try.prog 42 #[.int .u64 n] w fun e w' => e = .returned (.int .i64 (Mt.put n).length) ∧ w = w' := by
  have hl := Mt.put_length hn
  have hd := Mt.b64_div hn
  have HL : Hid ((Mt.put n).length = 1 + Mt.ln (n / 128)) := hl
  clear hl
  go_enter Try.func42, Try.ntmps42
  go_wp2
  go_loop [0, 3] (fun m z => ∃ (q k : Nat), Mt.B64 q ∧ k ≤ 10 ∧ m = .int .u64 q ∧ z = .int .i64 k ∧ Hid ((Mt.put n).length = k + Mt.ln q)) (fun m _ => (intOf m).toNat)
  case atStart => exact ⟨n / 128, 1, hd, by omega, by simp, rfl, HL⟩
  case round =>
    obtain ⟨q, k, hq, hk, rfl, rfl, HR⟩ := hrel
    by_cases h : 0 < q
    · have hs := Mt.ln_step hq h
      have h1 := Mt.b64_div hq
      have h2 := Mt.put_len_le n
      have h3 := HR.out
      have H4 : Hid ((Mt.put n).length = (k + 1) + Mt.ln (q / 128)) := by unfold Hid; omega
      have h5 : k + 1 ≤ 10 := by omega
      clear hs h2 h3 HR HL
      go_wp2
      go_round
      case rel => exact ⟨q / 128, k + 1, h1, h5, by simp, by go_num, H4⟩
      case measure => simp [intOf]; omega
    · have h0 : q = 0 := by omega
      subst h0
      go_wp2
      go_ret
      exact ⟨by rw [HR.out, Mt.ln_zero]; rfl, rfl⟩
end Go.Proofs.Ytoefogmjekcbeaa
namespace Go.Proofs.Ytoefogmjekcbeaa.Mt
theorem get_put {n : Nat} (hn : B64 n) (x y : List Nat) : get (x ++ put n ++ y) (x.length : Nat) = (n, x.length + (put n).length, 0) := by
  refine get_ok (by simp) ?_
  rw [List.append_assoc, List.drop_left]
  exact rd_put hn y
end Go.Proofs.Ytoefogmjekcbeaa.Mt
namespace Go.Proofs.Ytoefogmjekcbeaa.Mt
theorem rd_cases (f : Nat) : ∀ (i X : Nat) (s : List Nat), i + f = 9 → (∃ n k, rd i X s = (n, k, 0)) ∨ rd i X s = (0, 0, 4) ∨ rd i X s = (0, 0, 5) := by
  induction f with
  | zero =>
    intro i X s hi
    cases s with
    | nil => right; left; rfl
    | cons c r =>
      rw [rd]
      split
      · right; right; rfl
      · rw [if_pos (by omega)]; left; exact ⟨_, _, rfl⟩
  | succ f ih =>
    intro i X s hi
    cases s with
    | nil => right; left; rfl
    | cons c r =>
      rw [rd]
      split
      · right; right; rfl
      · by_cases h : c < 128
        · rw [if_pos h]; left; exact ⟨_, _, rfl⟩
        · rw [if_neg h]; exact ih (i + 1) _ r (by omega)

theorem get_cases {l : List Nat} (hl : ∀ x ∈ l, x < 256) (a : Int) :
    (∃ e, 2 ≤ e ∧ e ≤ 5 ∧ get l a = (0, 0, e)) ∨
    (∃ (k n : Nat) (r : List Nat), a = (k : Int) ∧ k < l.length ∧ B64 n ∧ l.drop k = put n ++ r ∧ k + (put n).length ≤ l.length ∧ get l a = (n, k + (put n).length, 0)) := by
  by_cases h : a < 0 ∨ (l.length : Int) < a
  · exact .inl ⟨2, by omega, by omega, get_arg h⟩
  · obtain ⟨k, rfl⟩ := Int.eq_ofNat_of_zero_le (show 0 ≤ a by omega)
    have hk : k ≤ l.length := by omega
    rcases rd_cases 9 0 0 (l.drop k) rfl with ⟨n, m, hr⟩ | hr | hr
    · obtain ⟨hb, hm, r, hs⟩ := rd_ok (fun x hx => hl x (List.mem_of_mem_drop hx)) hr
      have hlen := congrArg List.length hs
      have hp := put_len_pos n
      rw [List.length_drop, List.length_append] at hlen
      refine .inr ⟨k, n, r, rfl, by omega, hb, hs, by omega, ?_⟩
      rw [get_ok hk hr, hm]
    · exact .inl ⟨4, by omega, by omega, get_err hk hr (by decide)⟩
    · exact .inl ⟨5, by omega, by omega, get_err hk hr (by decide)⟩
end Go.Proofs.Ytoefogmjekcbeaa.Mt
