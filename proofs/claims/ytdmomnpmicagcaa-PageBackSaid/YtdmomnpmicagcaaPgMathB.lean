/-
  A page of which four bytes side by side are changed is none; nor are noughts.
-/
import Derived.Test.YtdmomnpmicagcaaPgMath
namespace Go.Proofs.Ytdmomnpmicagcaa.Pg
/-- The number of four bytes. -/
def num4 (a b c d : Nat) : Nat := a + 256 * b + 65536 * c + 16777216 * d
theorem byt_num4 {a b c d : Nat} (ha : a < 256) (hb : b < 256) (hc : c < 256) (hd : d < 256) : Cr.byt (num4 a b c d) 0 = a ∧ Cr.byt (num4 a b c d) 1 = b ∧ Cr.byt (num4 a b c d) 2 = c ∧ Cr.byt (num4 a b c d) 3 = d := by
  unfold Cr.byt num4
  simp only [Nat.mul_zero, Nat.mul_one, Nat.reduceMul, Nat.reducePow]
  omega
theorem four_inj {m n : Nat} (hm : Cr.B32 m) (hn : Cr.B32 n) (h : four m = four n) : m = n := by
  have h1 := le_four hm
  rw [h, le_four hn] at h1
  exact h1.symm
/-- Bytes that are a page's but for four side by side are a page just if they are it. -/
theorem near {n : Int} {k : Nat} {b P Q : List Nat} (hk : k < 256) (hb : ∀ x ∈ b, x < 256) (h : putE n k b = (P, 0)) (hQ8 : ∀ x ∈ Q, x < 256) {p : Nat} (hp : p ≤ 508)
    (hat : ∀ i, ¬ (p ≤ i ∧ i < p + 4) → Q[i]? = P[i]?) (h0 : (getE n Q).2.2 = 0) : Q = P := by
  obtain ⟨hg, hP, hb4, hn0, hn1⟩ := getE_put h
  have hl : P.length = 512 := by rw [hP]; exact page_len hb4
  have hP8 : ∀ x ∈ P, x < 256 := by rw [hP]; exact page_lt hk hb
  obtain ⟨⟨k', c, e⟩, hq⟩ : ∃ r, getE n Q = r := ⟨_, rfl⟩
  rw [hq] at h0
  simp only at h0
  subst h0
  have hpq := putE_get hq
  obtain ⟨-, hQ, hc4, -, -⟩ := getE_put hpq
  have hQl : Q.length = 512 := by rw [hQ]; exact page_len hc4
  have tP : P.take 4 = four (Cr.of (P.drop 4)) := by rw [hP, page_take, page_drop]
  have tQ : Q.take 4 = four (Cr.of (Q.drop 4)) := by rw [hQ, page_take, page_drop]
  have dP8 : ∀ x ∈ P.drop 4, x < 256 := fun x hx => hP8 x (List.mem_of_mem_drop hx)
  have dQ8 : ∀ x ∈ Q.drop 4, x < 256 := fun x hx => hQ8 x (List.mem_of_mem_drop hx)
  by_cases h4 : 4 ≤ p
  · have e1 : Q.take 4 = P.take 4 := by
      apply List.ext_getElem?
      intro i
      rw [List.getElem?_take, List.getElem?_take]
      by_cases hi : i < 4
      · rw [if_pos hi, if_pos hi, hat i (by omega)]
      · rw [if_neg hi, if_neg hi]
    have e2 : Cr.of (Q.drop 4) = Cr.of (P.drop 4) := four_inj (Cr.of_b32 dQ8) (Cr.of_b32 dP8) (by rw [← tQ, ← tP, e1])
    have e3 := (Cr.of_near dQ8 dP8 (by simp [hQl, hl]) (p := p - 4) (k := 4) (Nat.le_refl _) (by
      apply List.ext_getElem?
      intro i
      rw [List.getElem?_take, List.getElem?_take]
      by_cases hi : i < p - 4
      · rw [if_pos hi, if_pos hi, List.getElem?_drop, List.getElem?_drop, hat (4 + i) (by omega)]
      · rw [if_neg hi, if_neg hi]) (by
      apply List.ext_getElem?
      intro i
      rw [List.getElem?_drop, List.getElem?_drop, List.getElem?_drop, List.getElem?_drop, hat _ (by omega)])).1 e2
    rw [← List.take_append_drop 4 Q, e1, e3, List.take_append_drop]
  · have num : ∀ i, i < 4 → Q.getD (4 + i) 0 = P.getD (4 + i) 0 := fun i hi => by
      rw [hQ, hP, page_at _ _ _ (by omega), page_at _ _ _ (by omega)]
      have : i = 0 ∨ i = 1 ∨ i = 2 ∨ i = 3 := by omega
      rcases this with rfl | rfl | rfl | rfl <;> rfl
    have e3 : Q.drop 4 = P.drop 4 := by
      apply List.ext_getElem?
      intro i
      rw [List.getElem?_drop, List.getElem?_drop]
      by_cases hi : i < 4
      · have h1 := num i hi
        rw [List.getD_eq_getElem?_getD, List.getD_eq_getElem?_getD, List.getElem?_eq_getElem (show 4 + i < Q.length by omega), List.getElem?_eq_getElem (show 4 + i < P.length by omega)] at h1
        rw [List.getElem?_eq_getElem (show 4 + i < Q.length by omega), List.getElem?_eq_getElem (show 4 + i < P.length by omega)]
        simpa using h1
      · rw [hat (4 + i) (by omega)]
    have e1 : Q.take 4 = P.take 4 := by rw [tQ, tP, e3]
    rw [← List.take_append_drop 4 Q, e1, e3, List.take_append_drop]
theorem spoilt {n : Int} {k : Nat} {b P : List Nat} (hk : k < 256) (hb : ∀ x ∈ b, x < 256) (h : putE n k b = (P, 0)) {p N : Nat} (hp : p ≤ 508) :
    (getE n (Cr.turnd P p N 4)).2.2 = 0 ↔ Cr.zer N 4 = true := by
  obtain ⟨hg, hP, hb4, hn0, hn1⟩ := getE_put h
  have hl : P.length = 512 := by rw [hP]; exact page_len hb4
  have hP8 : ∀ x ∈ P, x < 256 := by rw [hP]; exact page_lt hk hb
  have hteq := Cr.turnd_eq (l := P) (p := p) (n := N) (k := 4) (by omega)
  constructor
  · intro h0
    exact hteq.1 (near hk hb h (Cr.turnd_lt hP8 p N 4) hp (fun i hi => by rw [Cr.turnd_at P p N 4 (by omega), if_neg hi]) h0)
  · intro hz
    rw [hteq.2 hz, hg]
/-- One byte of a page is another one: none. -/
theorem one {n : Int} {k : Nat} {b P : List Nat} (hk : k < 256) (hb : ∀ x ∈ b, x < 256) (h : putE n k b = (P, 0)) {p y : Nat} (hp : p < 512) (hy : y < 256) (hne : P[p]? ≠ some y) :
    (getE n (P.set p y)).2.2 ≠ 0 := by
  intro h0
  obtain ⟨-, hP, hb4, -, -⟩ := getE_put h
  have hl : P.length = 512 := by rw [hP]; exact page_len hb4
  have hP8 : ∀ x ∈ P, x < 256 := by rw [hP]; exact page_lt hk hb
  have hQ8 : ∀ x ∈ P.set p y, x < 256 := fun x hx => by
    rcases List.mem_or_eq_of_mem_set hx with h | rfl
    · exact hP8 x h
    · exact hy
  have e := near (p := min p 508) hk hb h hQ8 (by omega) (fun i hi => by rw [List.getElem?_set, if_neg (by omega)]) h0
  apply hne
  rw [← e, List.getElem?_set, if_pos rfl, if_pos (by omega)]
theorem nz0 : Cr.raw 4294967295 (List.replicate 64 0) = 4231468184 := by decide +kernel
theorem nz1 : Cr.raw 4231468184 (List.replicate 64 0) = 4158167844 := by decide +kernel
theorem nz2 : Cr.raw 4158167844 (List.replicate 64 0) = 2345306063 := by decide +kernel
theorem nz3 : Cr.raw 2345306063 (List.replicate 64 0) = 1200442991 := by decide +kernel
theorem nz4 : Cr.raw 1200442991 (List.replicate 64 0) = 64332339 := by decide +kernel
theorem nz5 : Cr.raw 64332339 (List.replicate 64 0) = 1158271177 := by decide +kernel
theorem nz6 : Cr.raw 1158271177 (List.replicate 64 0) = 3425213895 := by decide +kernel
theorem nz7 : Cr.raw 3425213895 (List.replicate 60 0) = 329799228 := by decide +kernel
theorem noughts_raw : Cr.raw 4294967295 (List.replicate 508 0) = 329799228 := by
  have e : ∀ j : Nat, List.replicate (64 + j) 0 = List.replicate 64 0 ++ List.replicate j 0 := fun j => (List.replicate_append_replicate ..).symm
  rw [show 508 = 64 + 444 from rfl, e, Cr.raw_append, nz0, show 444 = 64 + 380 from rfl, e, Cr.raw_append, nz1, show 380 = 64 + 316 from rfl, e, Cr.raw_append, nz2, show 316 = 64 + 252 from rfl, e, Cr.raw_append, nz3, show 252 = 64 + 188 from rfl, e, Cr.raw_append, nz4, show 188 = 64 + 124 from rfl, e, Cr.raw_append, nz5, show 124 = 64 + 60 from rfl, e, Cr.raw_append, nz6, nz7]
theorem noughts_sum : four (Cr.of (List.replicate 508 0)) ≠ [0, 0, 0, 0] := by
  intro h
  have h32 : Cr.B32 (Cr.of (List.replicate 508 0)) := Cr.of_b32 (fun x hx => by rw [List.eq_of_mem_replicate hx]; omega)
  have h0 := four_inj h32 Cr.zero_b32 (h.trans (by decide))
  rw [Cr.of_eq, Cr.ones_eq, noughts_raw, Cr.flip_eq, Cr.ones_eq] at h0
  exact absurd h0 (by decide)
theorem noughts (n : Int) : (getE n (List.replicate 512 0)).2.2 ≠ 0 := by
  intro h
  obtain ⟨⟨k', c, e⟩, hq⟩ : ∃ r, getE n (List.replicate 512 0) = r := ⟨_, rfl⟩
  rw [hq] at h
  simp only at h
  subst h
  obtain ⟨-, hQ, hc4, -, -⟩ := getE_put (putE_get hq)
  have t : (List.replicate 512 0).take 4 = four (Cr.of ((List.replicate 512 0).drop 4)) := by rw [hQ, page_take, page_drop]
  rw [List.drop_replicate, List.take_replicate] at t
  exact noughts_sum t.symm
end Go.Proofs.Ytdmomnpmicagcaa.Pg
