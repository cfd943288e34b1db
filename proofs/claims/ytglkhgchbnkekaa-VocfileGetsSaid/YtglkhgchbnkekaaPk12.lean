/-
  Len: leb.Len answers how many bytes a number has.
  LitL: Several elements put behind: append of a literal that was laid ahead of it.
  MathB: Plain mathematics of chapter 1 (leb), more.
-/
import Derived.Test.YtglkhgchbnkekaaProg
import Derived.Test.YtglkhgchbnkekaaPk01
import Derived.WalkKit
import Derived.Outline
import Derived.Lib.Hide
import Derived.Test.YtglkhgchbnkekaaPk02
namespace Go.Proofs.Ytglkhgchbnkekaa
open Go.RowKit
set_option linter.unusedVariables false

set_option maxHeartbeats 400000 in
theorem len_any (n : Nat) (hn : Mt.B64 n) (w : World) :
    Calls Try.prog 41 #[.int .u64 n] w fun e w' => e = .returned (.int .i64 (Mt.put n).length) ∧ w = w' := by
  have hl := Mt.put_length hn
  have hd := Mt.b64_div hn
  have HL : Hid ((Mt.put n).length = 1 + Mt.ln (n / 128)) := hl
  clear hl
  go_enter Try.func41, Try.ntmps41
  go_wp2
  go_loop [0, 3] (fun m z => ∃ (q k : Nat), Mt.B64 q ∧ k ≤ 10 ∧ m = .int .u64 q ∧ z = .int .i64 k ∧ Hid ((Mt.put n).length = k + Mt.ln q)) (fun m _ => (intOf m).toNat)
  case atStart => exact ⟨n / 128, 1, hd, by omega, by simp, rfl, HL⟩
  case round =>
    obtain ⟨q, k, hq, hk, rfl, rfl, HR⟩ := hrel
    by_cases h : 0 < q
    · have hs := Mt.ln_step hq h
      have h1 := Mt.b64_div hq
      have h2 := Mt.put_len_le n
      have h3 := HR.out
      have H4 : Hid ((Mt.put n).length = (k + 1) + Mt.ln (q / 128)) := by unfold Hid; omega
      have h5 : k + 1 ≤ 10 := by omega
      clear hs h2 h3 HR HL
      go_wp2
      go_round
      case rel => exact ⟨q / 128, k + 1, h1, h5, by simp, by go_num, H4⟩
      case measure => simp [intOf]; omega
    · have h0 : q = 0 := by omega
      subst h0
      go_wp2
      go_ret
      exact ⟨by rw [HR.out, Mt.ln_zero]; rfl, rfl⟩
end Go.Proofs.Ytglkhgchbnkekaa
namespace Go.Proofs.Ytglkhgchbnkekaa
open Go.RowKit
set_option linter.unusedVariables false
section
variable {P : Program} {α : Type}
theorem wpList_puts_m (w : World) {ops : Array Oper} {rest : List Oper} {o : Oper} {a : Act} {Q : Exit → Act → World → Prop} (K : El P α) (hgd : o.guard = none) (s t : Operand)
    (ho : o.op = .call { callee := .builtin .append, args := #[s, t], argTypes := #[K.s, K.s] })
    (base : Nat) (v : Value) (hs : a.eval s = v) (l : List α) (hown : OwnL K w base v l) (m : List α) (n : Nat) (hn : n = m.length) (ht : a.eval t = .slice (some ⟨w.heap.size, 0, none⟩) n n) (hx : ∀ x ∈ m, K.ok x) (cs : Array Value) (hcs : cs = (K.flat m).toArray) (e : TypeId) (he : e = K.e) (hsz : (l.length + m.length) * K.bytes ≤ 140737488355328) (h63 : l.length + m.length ≤ maxLen) (hbase : base ≤ w.heap.size)
    (h : ∀ A c w', OwnL K w' base (.slice A (l ++ m).length c) (l ++ m) → w.grownBy w' v.ownBlock → Moved w v (.slice A (l ++ m).length c) → wpList P ops Q rest (a.put o.dst (.slice A (l ++ m).length c)) w') : wpList P ops Q (o :: rest) a (w.alloc (.cells cs e)) := by
  subst hn hcs he
  refine wpList_append_m _ K hgd s t ho base v hs l (hown.alloc_ _) _ ht _ m (Lv.build_ K w m hx (by omega) _ rfl _ rfl _ rfl) hsz h63 (by simp; omega) fun A c w' h1 h2 h3 => ?_
  exact h A c w' h1 (grown_alloc h2) (fun k hk => (h3 k hk).imp id (fun h => by simp at h; omega))
end
end Go.Proofs.Ytglkhgchbnkekaa
namespace Go.Proofs.Ytglkhgchbnkekaa.Mt
theorem get_put {n : Nat} (hn : B64 n) (x y : List Nat) : get (x ++ put n ++ y) (x.length : Nat) = (n, x.length + (put n).length, 0) := by
  refine get_ok (by simp) ?_
  rw [List.append_assoc, List.drop_left]
  exact rd_put hn y
end Go.Proofs.Ytglkhgchbnkekaa.Mt
