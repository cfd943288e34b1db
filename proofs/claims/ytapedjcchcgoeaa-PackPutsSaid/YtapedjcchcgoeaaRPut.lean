/-
  stookref01.Put answers the bytes of a number, in new memory.
-/
import Derived.Test.YtapedjcchcgoeaaPut
namespace Go.Proofs.Ytapedjcchcgoeaa
open Go.RowKit
set_option linter.unusedVariables false

theorem OwnB.fresh {w w' : World} {v : Value} {l : List Nat} (h : OwnB w' w.heap.size v l) (hb : Below w.heap.size w w') : IsFresh l w (.returned v) w' := by
  obtain ⟨A, c, rfl, _⟩ := h.form_
  exact ⟨A, c, rfl, h, hb⟩

set_option maxHeartbeats 400000 in
set_option maxRecDepth 100000 in
theorem rput_small (n : Nat) (hn : n < 128) (w : World) :
    Calls Try.prog 29 #[.int .u64 n] w (IsFresh (Mt.put n) w) := by
  have HP := Lib.hid (Mt.put_small hn)
  go_enter Try.func29, Try.ntmps29
  go_wp2
  go_ret
  have h := OwnB.lit_ w (Nat.le_refl _) (c := n) rfl (by omega)
  rw [HP.out]
  exact h.fresh ((Below.refl _ _).alloc (Nat.le_refl _) _)

theorem wrap_div (n : Nat) (hb : Mt.B64 n) : IntKind.u64.wrap ((n : Int) / 128) = ((n / 128 : Nat) : Int) := by
  unfold Mt.B64 at hb
  rw [IntKind.wrap_u64]
  omega

set_option maxHeartbeats 400000 in
set_option maxRecDepth 100000 in
theorem rput_any (k : Nat) : ∀ (n : Nat) (w : World), n < 128 ^ (k + 1) → Mt.B64 n →
    Calls Try.prog 29 #[.int .u64 n] w (IsFresh (Mt.put n) w) := by
  induction k with
  | zero => intro n w h _; exact rput_small n (by simpa using h) w
  | succ k ih =>
    intro n w h hb
    by_cases hn : n < 128
    · exact rput_small n hn w
    · have HP := Lib.hid (Mt.put_step (by omega) hb)
      have hq : n / 128 < 128 ^ (k + 1) := by rw [Nat.div_lt_iff_lt_mul (by decide)]; rw [Nat.pow_succ] at h; exact h
      have HI := Lib.hid (ih (n / 128) (w.alloc (.cells #[.int .u8 ((n : Int) % 128 + 128)] 5)) hq (Mt.b64_div hb))
      have hl := Mt.put_len_le (n / 128)
      have HW := Lib.hid (wrap_div n hb)
      have ho := Lib.hid (OwnB.lit_ w (Nat.le_refl _) (c := n % 128 + 128) (x := (n : Int) % 128 + 128) (by omega) (by omega))
      have hbel := Lib.hid ((Below.refl w.heap.size w).alloc (Nat.le_refl _) (.cells #[.int .u8 ((n : Int) % 128 + 128)] 5))
      clear ih h hb hq
      go_enter Try.func29, Try.ntmps29
      go_wp2_with fail
      rw [HW.out]
      ((with_reducible refine HI.out.mono ?_); rintro e w1 ⟨A, c, rfl, hown, hb1⟩)
      have hsrc := Lib.hid hown.form_
      have ho1 := Lib.hid (ho.out.below_ hb1 (Nat.le_refl _))
      have hb2 := Lib.hid (hbel.out.trans (hb1.mono (by simp)))
      have hsz : w.heap.size ≤ w1.heap.size := by have := hb1.size; simp at this; omega
      clear hown hb1 ho hbel
      go_wp2_with (at_builtin; go_must (refine wpList_append_bytes _ rfl _ _ rfl rfl w.heap.size _ rfl [n % 128 + 128] ho1.out _ rfl _ (Mt.put (n / 128)) hsrc.out (by simp; omega) hsz ?_; intro A2 c2 w2 hA))
      go_ret
      have hO := hA.own
      have hB : Below w.heap.size w w2 := hb2.out.grown hA.grown hsz (fun k hk => (ho1.out.lt_ k hk).1)
      have hf := hO.fresh hB
      rw [HP.out]
      simpa using hf
end Go.Proofs.Ytapedjcchcgoeaa
