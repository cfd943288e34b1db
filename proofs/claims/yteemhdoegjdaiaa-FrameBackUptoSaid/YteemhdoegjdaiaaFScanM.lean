/-
  Plain mathematics of chapter 3 (frame): what a scan tells.
-/
import Derived.Test.YteemhdoegjdaiaaFMath
namespace Go.Proofs.Yteemhdoegjdaiaa.Fr

/-- What a scan tells from place a on: the payloads, the place at which there is no frame any more, and why. -/
def scanF : Nat → List Nat → Nat → List (List Nat) × Nat × Nat
  | 0, _, a => ([], a, 0)
  | f + 1, l, a => if a < l.length then (if (get l (a : Nat)).2.2 ≠ 0 then ([], a, (get l (a : Nat)).2.2) else ((get l (a : Nat)).1 :: (scanF f l (get l (a : Nat)).2.1).1, (scanF f l (get l (a : Nat)).2.1).2)) else ([], a, 0)
def scan (l : List Nat) : List (List Nat) × Nat × Nat := scanF l.length l 0
def all (l : List Nat) : List (List Nat) × Nat := if (scan l).2.2 ≠ 0 then ([], (scan l).2.2) else ((scan l).1, 0)

theorem scanF_end {f a : Nat} {l : List Nat} (h : ¬ a < l.length) : scanF f l a = ([], a, 0) := by
  cases f with
  | zero => rfl
  | succ f => rw [scanF, if_neg h]
theorem scanF_err {f a e : Nat} {l : List Nat} (h : a < l.length) (hg : get l (a : Nat) = ([], 0, e)) (he : e ≠ 0) : scanF (f + 1) l a = ([], a, e) := by
  rw [scanF, if_pos h, hg, if_pos he]
theorem scanF_ok {f a n : Nat} {l y : List Nat} (h : a < l.length) (hg : get l (a : Nat) = (y, n, 0)) : scanF (f + 1) l a = (y :: (scanF f l n).1, (scanF f l n).2) := by
  rw [scanF, if_pos h, hg, if_neg (by simp)]
theorem frm_pos (y : List Nat) : 5 ≤ (frm y).length := by
  have := Mt.put_len_pos y.length
  rw [frm_len2]; omega

/-- More fuel than there are bytes changes nothing. -/
theorem scanF_fuel (f : Nat) : ∀ {l : List Nat} (a : Nat), (∀ x ∈ l, x < 256) → l.length - a ≤ f → ∀ g, l.length - a ≤ g → scanF f l a = scanF g l a := by
  induction f with
  | zero => intro l a hl h g hg; rw [scanF_end (by omega), scanF_end (by omega)]
  | succ f ih =>
    intro l a hl h g hg
    by_cases ha : a < l.length
    · obtain ⟨g, rfl⟩ : ∃ k, g = k + 1 := ⟨g - 1, by omega⟩
      rcases get_cases hl (a : Nat) with ⟨e, h1, h2, h3⟩ | ⟨k, y, q, h1, h2, h3, h4, h5, h6⟩
      · rw [scanF_err ha h3 (by omega), scanF_err ha h3 (by omega)]
      · obtain rfl : a = k := by omega
        have hp := frm_pos y
        rw [scanF_ok ha h6, scanF_ok ha h6, ih _ hl (by omega) g (by omega)]
    · rw [scanF_end ha, scanF_end ha]

/-- The place never falls. -/
theorem scanF_place {l : List Nat} (hl : ∀ x ∈ l, x < 256) (g : Nat) : ∀ b : Nat, b ≤ (scanF g l b).2.1 := by
  induction g with
  | zero => intro b; exact Nat.le_refl _
  | succ g ih =>
    intro b
    by_cases hb : b < l.length
    · rcases get_cases hl (b : Nat) with ⟨e, h1, h2, h3⟩ | ⟨k, y, q, h1, h2, h3, h4, h5, h6⟩
      · rw [scanF_err hb h3 (by omega)]
        exact Nat.le_refl _
      · obtain rfl : b = k := by omega
        rw [scanF_ok hb h6]
        exact Nat.le_trans (by omega) (ih (b + (frm y).length))
    · rw [scanF_end hb]
      exact Nat.le_refl _
theorem both_lt {l m : List Nat} (hl : ∀ x ∈ l, x < 256) (hm : ∀ x ∈ m, x < 256) : ∀ x ∈ l ++ m, x < 256 := fun x hx => (List.mem_append.1 hx).elim (hl x) (hm x)
/-- What more bytes behind them leave. -/
theorem get_more {l m : List Nat} (hl : ∀ x ∈ l, x < 256) {a n : Nat} {y : List Nat} (h : get l (a : Nat) = (y, n, 0)) : a < l.length ∧ n = a + (frm y).length ∧ n ≤ l.length ∧ get (l ++ m) (a : Nat) = (y, n, 0) := by
  rcases get_cases hl (a : Nat) with ⟨e, h1, h2, h3⟩ | ⟨k, y', q, h1, h2, h3, h4, h5, h6⟩
  · rw [h3] at h
    simp at h
    omega
  · obtain rfl : a = k := by omega
    rw [h6] at h
    simp only [Prod.mk.injEq] at h
    obtain ⟨rfl, rfl, _⟩ := h
    refine ⟨h2, rfl, h4, ?_⟩
    refine get_drop (q := q ++ m) ?_ (by rw [List.length_append]; omega) h5
    rw [List.drop_append_of_le_length (by omega), h3, List.append_assoc]
theorem scan_more (f : Nat) : ∀ {l m : List Nat} (a : Nat), (∀ x ∈ l, x < 256) → (∀ x ∈ m, x < 256) → l.length - a ≤ f → a ≤ l.length → ∀ g, (l ++ m).length - a ≤ g →
    ∃ r, (scanF g (l ++ m) a).1 = (scanF f l a).1 ++ r ∧ (scanF f l a).2.1 ≤ (scanF g (l ++ m) a).2.1 := by
  induction f with
  | zero =>
    intro l m a hl hm h hle g hg
    obtain rfl : a = l.length := by omega
    rw [scanF_end (f := 0) (by omega)]
    refine ⟨_, rfl, ?_⟩
    exact scanF_place (both_lt hl hm) g _
  | succ f ih =>
    intro l m a hl hm h hle g hg
    by_cases ha : a < l.length
    · rcases get_cases hl (a : Nat) with ⟨e, h1, h2, h3⟩ | ⟨k, y, q, h1, h2, h3, h4, h5, h6⟩
      · rw [scanF_err ha h3 (by omega)]
        refine ⟨_, rfl, ?_⟩
        exact scanF_place (both_lt hl hm) g _
      · obtain rfl : a = k := by omega
        obtain ⟨_, _, _, h7⟩ := get_more (m := m) hl h6
        have hp := frm_pos y
        have ha2 : a < (l ++ m).length := by rw [List.length_append]; omega
        obtain ⟨g, rfl⟩ : ∃ k, g = k + 1 := ⟨g - 1, by omega⟩
        obtain ⟨r, hr, hs⟩ := ih (a + (frm y).length) hl hm (by omega) h4 g (by rw [List.length_append] at hg ha2 ⊢; omega)
        rw [scanF_ok ha h6, scanF_ok ha2 h7]
        exact ⟨r, by rw [hr]; rfl, hs⟩
    · obtain rfl : a = l.length := by omega
      rw [scanF_end (f := f + 1) (by omega)]
      refine ⟨_, rfl, ?_⟩
      exact scanF_place (both_lt hl hm) g _
end Go.Proofs.Yteemhdoegjdaiaa.Fr
