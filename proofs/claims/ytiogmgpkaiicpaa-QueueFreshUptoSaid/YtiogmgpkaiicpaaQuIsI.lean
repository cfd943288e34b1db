/-
  The program's queue of int: what it holds, in the order in which it goes out; its functions by that.
-/
import Derived.Test.YtiogmgpkaiicpaaQuPushI
import Derived.Test.YtiogmgpkaiicpaaQuPopI
namespace Go.Proofs.Ytiogmgpkaiicpaa
open Go.RowKit
set_option linter.unusedVariables false

/-- A queue: its own blocks F, its order, what it holds in the order in which it goes out, how many were pushed. -/
def IsQI (w : World) (F : Nat → Prop) (qb : Nat) (fn : Nat) (caps : Array Value) (lt : Int → Int → Bool) (S : List Int) (m : Nat) : Prop :=
  ∃ (A0 : Option Addr) (n c : Nat) (A : List (Int × Nat)), HeadI w qb fn caps (.slice A0 n c) m ∧ OwnL qIK w 0 (.slice A0 n c) A ∧ (Value.slice A0 n c).ownBlock ≠ some qb ∧
    Qu.IsHeap lt A ∧ Qu.Held lt A S m ∧ A.length ≤ m ∧ ∀ k, F k ↔ (k = qb ∨ (Value.slice A0 n c).ownBlock = some k)
section
variable {w w' : World} {F G : Nat → Prop} {qb fn : Nat} {caps : Array Value} {lt : Int → Int → Bool} {S : List Int} {m : Nat}
theorem IsQI.lt_ (h : IsQI w F qb fn caps lt S m) : ∀ k, F k → k < w.heap.size := by
  obtain ⟨A0, n, c, A, h1, h2, h3, h4, h5, h6, h7⟩ := h
  intro k hk
  rcases (h7 k).1 hk with rfl | h
  · exact h1.lt_
  · exact (h2.lt_ k h).2
theorem IsQI.turned_ (h : IsQI w F qb fn caps lt S m) (ht : Turned G w w') (hd : ∀ k, k < w.heap.size → F k → ¬ G k) : IsQI w' F qb fn caps lt S m := by
  have hlt := h.lt_
  obtain ⟨A0, n, c, A, h1, h2, h3, h4, h5, h6, h7⟩ := h
  have hq := (h7 qb).2 (.inl rfl)
  exact ⟨A0, n, c, A, h1.block_ (ht.block qb (hlt _ hq) (hd _ (hlt _ hq) hq)), h2.turned_ ht (fun k hk => by have hF := (h7 k).2 (.inr hk); exact hd k (hlt k hF) hF), h3, h4, h5, h6, h7⟩
end
theorem pnewI (fn : Nat) (caps : Array Value) (lt : Int → Int → Bool) (w : World) :
    Calls Try.prog 10 #[fnV fn caps] w (fun e w' => ∃ (qb : Nat) (F : Nat → Prop), e = .returned (.pointer (some ⟨qb, 0, none⟩)) ∧ IsQI w' F qb fn caps lt [] 0 ∧ (∀ k, F k → w.heap.size ≤ k) ∧ Below w.heap.size w w') := by
  refine (pnewI' fn caps w).mono ?_
  rintro e w' ⟨rfl, hh, hb⟩
  exact ⟨w.heap.size, fun k => k = w.heap.size, rfl, ⟨none, 0, 0, [], hh, OwnL.nil_ _ _ _, by simp [Value.ownBlock], fun k a b _ h => by simp at h, Qu.Held.nil, Nat.le_refl _, fun k => by simp [Value.ownBlock]⟩, fun k h => by omega, hb⟩

section
variable {w : World} {F : Nat → Prop} {qb fn : Nat} {caps : Array Value} {lt : Int → Int → Bool} {S : List Int} {m : Nat}
theorem ppushI (hq : IsQI w F qb fn caps lt S m) (ho : Qu.Order lt) (hl : Less intV I64 fn caps lt w F) (x : Int) (hx : I64 x) (hm : m ≤ 4194304) :
    Calls Try.prog 13 #[.pointer (some ⟨qb, 0, none⟩), intV x] w (fun e w' => e = .returned (.int .i64 0) ∧ ∃ F' : Nat → Prop, IsQI w' F' qb fn caps lt (Qu.ins lt S x) (m + 1) ∧ Turned F w w' ∧ ∀ k, F' k → F k ∨ w.heap.size ≤ k) := by
  obtain ⟨A0, n, c, A, h1, h2, h3, h4, h5, h6, h7⟩ := hq
  refine (ppushI' h1 h2 h3 ho (hl.mono (fun k _ h => (h7 k).2 h)) h4 x hx hm (by omega)).mono ?_
  rintro e w' ⟨rfl, g, n', c', A', hp, hh, hq, ht, hg⟩
  refine ⟨rfl, fun k => k = qb ∨ k = g, ⟨some ⟨g, 0, none⟩, n', c', A', hq.head, hq.own, fun e => hq.apart (Option.some.inj e).symm, hh, (h5.push ho _).perm hp, ?_, fun k => ⟨fun h => h.imp id (fun e => by subst e; rfl), fun h => h.imp id (fun e => (Option.some.inj e).symm)⟩⟩, ht.mono (fun k _ h => (h7 k).2 h), fun k h => ?_⟩
  · have := hp.length_eq
    simp at this
    omega
  · rcases h with rfl | rfl
    · exact .inl ((h7 _).2 (.inl rfl))
    · exact hg.imp (fun h => (h7 _).2 (.inr h)) id
theorem plenI (hq : IsQI w F qb fn caps lt S m) :
    Calls Try.prog 17 #[.pointer (some ⟨qb, 0, none⟩)] w (fun e w' => e = .returned (.int .i64 (S.length : Nat)) ∧ Below w.heap.size w w') := by
  obtain ⟨A0, n, c, A, h1, h2, h3, h4, h5, h6, h7⟩ := hq
  refine (plenI' h1).mono ?_
  rintro e w' ⟨rfl, rfl⟩
  rw [h5.length, ← h2.form_.len_.1]
  exact ⟨rfl, Below.refl _ _⟩
theorem ppeekI (hq : IsQI w F qb fn caps lt S m) (ho : Qu.Order lt) :
    Calls Try.prog 15 #[.pointer (some ⟨qb, 0, none⟩)] w (fun e w' => e = .returned (.tuple #[intV (S.headD 0), .bool (!S.isEmpty)]) ∧ Below w.heap.size w w') := by
  obtain ⟨A0, n, c, A, h1, h2, h3, h4, h5, h6, h7⟩ := hq
  have hn := h2.form_.len_.1
  rcases Nat.eq_zero_or_pos n with rfl | hpos
  · have hS : S = [] := List.eq_nil_of_length_eq_zero (by rw [h5.length, ← hn])
    subst hS
    exact ppeek_noneI h1
  · obtain ⟨g, ⟨yt, yn⟩, e, _, _, _, hr, _⟩ := h2.at_ (k := 0) (by omega)
    subst e
    obtain ⟨T, rfl, hT⟩ := h5.top ho h4 hr
    exact ppeek_someI ⟨h1, h2, fun e => h3 (by rw [e]; rfl), hn.symm⟩ hpos hr
theorem ppopI (hq : IsQI w F qb fn caps lt S m) (ho : Qu.Order lt) (hl : Less intV I64 fn caps lt w F) (hm : m ≤ 4194304) :
    Calls Try.prog 16 #[.pointer (some ⟨qb, 0, none⟩)] w (fun e w' => e = .returned (.tuple #[intV (S.headD 0), .bool (!S.isEmpty)]) ∧ ∃ F' : Nat → Prop, IsQI w' F' qb fn caps lt S.tail m ∧ Turned F w w' ∧ ∀ k, F' k → F k ∨ w.heap.size ≤ k) := by
  have hq0 := hq
  obtain ⟨A0, n, c, A, h1, h2, h3, h4, h5, h6, h7⟩ := hq
  have hn := h2.form_.len_.1
  rcases Nat.eq_zero_or_pos n with rfl | hpos
  · have hS : S = [] := List.eq_nil_of_length_eq_zero (by rw [h5.length, ← hn])
    subst hS
    refine (ppop_noneI h1).mono ?_
    rintro e w' ⟨rfl, hb⟩
    have ht : Turned (fun k => w.heap.size ≤ k) w w' := Turned.of_below hb
    exact ⟨rfl, F, hq0.turned_ ht (fun k h1 _ h2 => absurd h2 (by omega)), ht.mono (fun k h1 h2 => absurd h2 (by omega)), fun k h => .inl h⟩
  · obtain ⟨g, ⟨yt, yn⟩, e, _, _, _, hr, _⟩ := h2.at_ (k := 0) (by omega)
    subst e
    have hI : HasI w qb g n c A m fn caps := ⟨h1, h2, fun e => h3 (by rw [e]; rfl), hn.symm⟩
    have hF : ∀ k, (k = qb ∨ k = g) → F k := fun k h => (h7 k).2 (h.imp id (fun e => by subst e; rfl))
    obtain ⟨T, rfl, hT⟩ := h5.top ho h4 hr
    refine (ppop_someI hI ho (hl.mono (fun k _ h => hF k h)) h4 hpos (by omega) hr).mono ?_
    rintro e w' ⟨rfl, A', hp, hh, hq, ht⟩
    refine ⟨rfl, fun k => k = qb ∨ k = g, ⟨some ⟨g, 0, none⟩, n - 1, c, A', hq.head, hq.own, fun e => hq.apart (Option.some.inj e).symm, hh, hT A' hp, ?_, fun k => ⟨fun h => h.imp id (fun e => by subst e; rfl), fun h => h.imp id (fun e => (Option.some.inj e).symm)⟩⟩, ht.mono (fun k _ h => hF k h), fun k h => .inl (hF k h)⟩
    have := hp.length_eq
    simp at this
    omega
end
end Go.Proofs.Ytiogmgpkaiicpaa
