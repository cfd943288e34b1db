/-
  Plain mathematics of chapter 7 (queue): things with their turns in a heap (no thing is ahead of the one above it), sifted up and down; what it holds, in the order in which it goes out.
-/
import Derived.Test.YtiogmgpkaiicpaaQuMath
namespace Go.Proofs.Ytiogmgpkaiicpaa.Qu

section
variable {α : Type} {lt : α → α → Bool}
/-- Ahead: less; or alike, and pushed first. -/
def ah (lt : α → α → Bool) (a b : α × Nat) : Bool := lt a.1 b.1 || (!lt b.1 a.1 && decide (a.2 < b.2))
theorem ah_iff {a b : α × Nat} : ah lt a b = true ↔ lt a.1 b.1 = true ∨ (lt b.1 a.1 = false ∧ a.2 < b.2) := by simp [ah]
theorem ah_order (ho : Order lt) : Order (ah lt) where
  irr := fun a => by simp [ah, ho.irr]
  trans := fun a b c h1 h2 => by
    rw [ah_iff] at *
    rcases h1 with h1 | ⟨h1, t1⟩ <;> rcases h2 with h2 | ⟨h2, t2⟩
    · exact .inl (ho.trans _ _ _ h1 h2)
    · exact .inl (ho.lt_le h1 h2)
    · exact .inl (ho.le_lt h1 h2)
    · exact .inr ⟨ho.le_le h1 h2, by omega⟩
  alike := fun a b c h => by
    simp only [ah_iff] at *
    rcases h with h | ⟨h, t⟩
    · rcases ho.alike _ _ c.1 h with h1 | h1
      · exact .inl (.inl h1)
      · exact .inr (.inl h1)
    · cases hac : lt a.1 c.1 with
      | true => exact .inl (.inl rfl)
      | false =>
        cases hcb : lt c.1 b.1 with
        | true => exact .inr (.inl rfl)
        | false =>
          cases hca : lt c.1 a.1 with
          | true => have := ho.lt_le hca h; rw [hcb] at this; cases this
          | false =>
            cases hbc : lt b.1 c.1 with
            | true => have := ho.lt_le hbc hac; rw [h] at this; cases this
            | false =>
              by_cases ht : a.2 < c.2
              · exact .inl (.inr ⟨rfl, ht⟩)
              · exact .inr (.inr ⟨rfl, by omega⟩)
theorem ah_total {a b : α × Nat} (h : a.2 ≠ b.2) : ah lt a b = true ∨ ah lt b a = true := by
  simp only [ah_iff]
  cases lt a.1 b.1 <;> cases lt b.1 a.1 <;> simp <;> omega

theorem ah_turn (ho : Order lt) {a b : α × Nat} (h : a.2 < b.2) : ah lt a b = !lt b.1 a.1 := by
  unfold ah
  rw [decide_eq_true h]
  cases hab : lt a.1 b.1 with
  | true => rw [ho.asymm hab]; rfl
  | false => simp
theorem ah_else {a b : α × Nat} (h : ¬ a.2 < b.2) : ah lt a b = lt a.1 b.1 := by
  unfold ah
  rw [decide_eq_false h]
  simp

/-- None is ahead of the one above it. -/
def IsHeap (lt : α → α → Bool) (A : List (α × Nat)) : Prop := ∀ k a b, 0 < k → A[k]? = some a → A[(k - 1) / 2]? = some b → ah lt a b = false
theorem IsHeap.top (ho : Order lt) {A : List (α × Nat)} (h : IsHeap lt A) {r : α × Nat} (hr : A[0]? = some r) : ∀ (k : Nat) (a : α × Nat), A[k]? = some a → ah lt a r = false := by
  intro k
  induction k using Nat.strongRecOn with
  | ind k ih =>
    intro a ha
    rcases Nat.eq_zero_or_pos k with rfl | hk
    · rw [hr] at ha; cases ha; exact (ah_order ho).irr _
    · have hl : (k - 1) / 2 < A.length := by have := (List.getElem?_eq_some_iff.1 ha).1; omega
      have hb := List.getElem?_eq_getElem hl
      exact (ah_order ho).le_le (ih _ (by omega) _ hb) (h k a _ hk ha hb)

theorem two_sets {A : List (α × Nat)} {i j : Nat} (hi : i < A.length) (hj : j < A.length) (x y : α × Nat) (k : Nat) :
    ((A.set i y).set j x)[k]? = if k = j then some x else if k = i then some y else A[k]? := by
  by_cases h1 : k = j
  · subst h1; rw [if_pos rfl, List.getElem?_set_self (by rw [List.length_set]; exact hj)]
  · rw [if_neg h1, List.getElem?_set_ne (fun h => h1 h.symm)]
    by_cases h2 : k = i
    · subst h2; rw [if_pos rfl, List.getElem?_set_self hi]
    · rw [if_neg h2, List.getElem?_set_ne (fun h => h2 h.symm)]
theorem two_perm {A : List (α × Nat)} {i j : Nat} {x y : α × Nat} (hx : A[i]? = some x) (hy : A[j]? = some y) : ((A.set i y).set j x).Perm A := by
  obtain ⟨hi, rfl⟩ := List.getElem?_eq_some_iff.1 hx
  obtain ⟨hj, rfl⟩ := List.getElem?_eq_some_iff.1 hy
  exact List.set_set_perm hi hj

/-- A heap, but for what stands at i, which may go up. -/
structure Up (lt : α → α → Bool) (A : List (α × Nat)) (i : Nat) : Prop where
  rest : ∀ k a b, 0 < k → k ≠ i → A[k]? = some a → A[(k - 1) / 2]? = some b → ah lt a b = false
  over : ∀ k a c, 0 < k → (k - 1) / 2 = i → 0 < i → A[k]? = some a → A[(i - 1) / 2]? = some c → ah lt a c = false
theorem Up.push {A : List (α × Nat)} (h : IsHeap lt A) (x : α × Nat) : Up lt (A ++ [x]) A.length where
  rest := fun k a b hk hne ha hb => by
    have hlt : k < A.length := by have := (List.getElem?_eq_some_iff.1 ha).1; simp at this; omega
    rw [List.getElem?_append_left hlt] at ha
    rw [List.getElem?_append_left (by omega)] at hb
    exact h k a b hk ha hb
  over := fun k a c hk hp _ ha _ => by have := (List.getElem?_eq_some_iff.1 ha).1; simp at this; omega
theorem Up.done {A : List (α × Nat)} {i : Nat} (h : Up lt A i) (hd : ∀ a b, 0 < i → A[i]? = some a → A[(i - 1) / 2]? = some b → ah lt a b = false) : IsHeap lt A := fun k a b hk ha hb => by
  by_cases hki : k = i
  · subst hki; exact hd a b hk ha hb
  · exact h.rest k a b hk hki ha hb
theorem Up.step (ho : Order lt) {A : List (α × Nat)} {i p : Nat} (h : Up lt A i) (hi : 0 < i) (hp : (i - 1) / 2 = p) {x y : α × Nat} (hx : A[i]? = some x) (hy : A[p]? = some y) (hxy : ah lt x y = true) : Up lt ((A.set i y).set p x) p := by
  have hil := (List.getElem?_eq_some_iff.1 hx).1
  have hpl := (List.getElem?_eq_some_iff.1 hy).1
  have O := ah_order ho
  constructor
  · intro k a b hk hne ha hb
    rw [two_sets hil hpl] at ha hb
    rw [if_neg hne] at ha
    by_cases hki : k = i
    · subst hki
      rw [if_pos rfl] at ha
      rw [if_pos hp] at hb
      cases ha; cases hb
      exact O.asymm hxy
    · rw [if_neg hki] at ha
      by_cases h1 : (k - 1) / 2 = p
      · rw [if_pos h1] at hb
        cases hb
        have hay := h.rest k a y hk hki ha (by rw [h1]; exact hy)
        cases hax : ah lt a x with
        | false => rfl
        | true => rw [O.trans _ _ _ hax hxy] at hay; cases hay
      · rw [if_neg h1] at hb
        by_cases h2 : (k - 1) / 2 = i
        · rw [if_pos h2] at hb
          cases hb
          exact h.over k a y hk h2 hi ha (by rw [hp]; exact hy)
        · rw [if_neg h2] at hb
          exact h.rest k a b hk hki ha hb
  · intro k a c hk hkp hp0 ha hc
    rw [two_sets hil hpl] at ha hc
    rw [if_neg (by omega), if_neg (by omega)] at hc
    rw [if_neg (by omega)] at ha
    have hyc := h.rest p y c hp0 (by omega) hy hc
    by_cases hki : k = i
    · rw [if_pos hki] at ha; cases ha; exact hyc
    · rw [if_neg hki] at ha
      exact O.le_le hyc (h.rest k a y hk hki ha (by rw [hkp]; exact hy))

/-- A heap, but for what stands at i, which may go down. -/
structure Down (lt : α → α → Bool) (A : List (α × Nat)) (i : Nat) : Prop where
  rest : ∀ k a b, 0 < k → (k - 1) / 2 ≠ i → A[k]? = some a → A[(k - 1) / 2]? = some b → ah lt a b = false
  over : ∀ k a c, 0 < k → (k - 1) / 2 = i → 0 < i → A[k]? = some a → A[(i - 1) / 2]? = some c → ah lt a c = false
theorem Down.done {A : List (α × Nat)} {i : Nat} (h : Down lt A i) (hd : ∀ k a b, 0 < k → (k - 1) / 2 = i → A[k]? = some a → A[i]? = some b → ah lt a b = false) : IsHeap lt A := fun k a b hk ha hb => by
  by_cases hki : (k - 1) / 2 = i
  · exact hd k a b hk hki ha (by rw [← hki]; exact hb)
  · exact h.rest k a b hk hki ha hb
theorem Down.step (ho : Order lt) {A : List (α × Nat)} {i l : Nat} (h : Down lt A i) (hl : 0 < l) (hi : (l - 1) / 2 = i) {x y : α × Nat} (hx : A[i]? = some x) (hy : A[l]? = some y) (hyx : ah lt y x = true)
    (hmin : ∀ k a, 0 < k → (k - 1) / 2 = i → A[k]? = some a → ah lt a y = false) : Down lt ((A.set i y).set l x) l := by
  have hil := (List.getElem?_eq_some_iff.1 hx).1
  have hll := (List.getElem?_eq_some_iff.1 hy).1
  have O := ah_order ho
  constructor
  · intro k a b hk hne ha hb
    rw [two_sets hil hll] at ha hb
    rw [if_neg hne] at hb
    by_cases h1 : (k - 1) / 2 = i
    · rw [if_pos h1] at hb
      cases hb
      by_cases hkl : k = l
      · rw [if_pos hkl] at ha; cases ha; exact O.asymm hyx
      · rw [if_neg hkl, if_neg (by omega)] at ha
        exact hmin k a hk h1 ha
    · rw [if_neg h1] at hb
      by_cases hkl : k = l
      · exact absurd (by rw [hkl]; exact hi) h1
      · rw [if_neg hkl] at ha
        by_cases hki : k = i
        · rw [if_pos hki] at ha
          cases ha
          subst hki
          exact h.over l y b hl hi hk hy hb
        · rw [if_neg hki] at ha
          exact h.rest k a b hk h1 ha hb
  · intro k a c hk hkl hl0 ha hc
    rw [two_sets hil hll] at ha hc
    rw [if_neg (by omega), if_neg (by omega)] at ha
    rw [hi, if_neg (by omega), if_pos rfl] at hc
    cases hc
    exact h.rest k a y hk (by omega) ha (by rw [hkl]; exact hy)
/-- The last one in the first one's place. -/
theorem Down.pop {A : List (α × Nat)} (h : IsHeap lt A) (z : α × Nat) : Down lt ((A.set 0 z).take (A.length - 1)) 0 where
  rest := fun k a b hk hne ha hb => by
    rw [List.getElem?_take] at ha hb
    split at ha
    · split at hb
      · rw [List.getElem?_set_ne (by omega)] at ha
        rw [List.getElem?_set_ne (by omega)] at hb
        exact h k a b hk ha hb
      · cases hb
    · cases ha
  over := fun _ _ _ _ _ h0 => absurd h0 (by omega)
theorem pop_perm {A : List (α × Nat)} {r z : α × Nat} (hr : A[0]? = some r) (hz : A[A.length - 1]? = some z) : (r :: (A.set 0 z).take (A.length - 1)).Perm A := by
  match A, hr, hz with
  | [], hr, _ => cases hr
  | [a], hr, _ => simp at hr; subst hr; simp
  | a :: b :: m, hr, hz =>
    simp only [List.getElem?_cons_zero, Option.some.injEq] at hr
    subst hr
    have hne : b :: m ≠ [] := by simp
    have hl : (b :: m).getLast hne = z := by
      simp only [List.length_cons, Nat.add_sub_cancel, List.getElem?_cons_succ] at hz
      rw [List.getLast_eq_getElem]
      rw [List.getElem?_eq_getElem (by simp)] at hz
      simpa using hz
    have ht : ((a :: b :: m).set 0 z).take ((a :: b :: m).length - 1) = z :: (b :: m).dropLast := by
      simp [List.dropLast_eq_take]
    rw [ht]
    refine List.Perm.cons a ?_
    have e := List.dropLast_concat_getLast hne
    rw [hl] at e
    exact (List.perm_append_comm (l₁ := [z]) (l₂ := (b :: m).dropLast)).trans (List.Perm.of_eq e)

/-- What is in a heap, in the order in which it goes out; m: how many were pushed. -/
def Held (lt : α → α → Bool) (A : List (α × Nat)) (S : List α) (m : Nat) : Prop :=
  ∃ I : List (α × Nat), I.Perm A ∧ Row (ah lt) I ∧ I.map Prod.fst = S ∧ (∀ x ∈ A, x.2 < m) ∧ (A.map Prod.snd).Nodup
theorem Held.nil : Held lt ([] : List (α × Nat)) [] 0 := ⟨[], .refl _, by simp [Row], rfl, by simp, by simp⟩
theorem Held.length {A : List (α × Nat)} {S : List α} {m : Nat} (h : Held lt A S m) : S.length = A.length := by
  obtain ⟨I, hp, -, rfl, -⟩ := h
  rw [List.length_map, hp.length_eq]
theorem Held.perm {A A' : List (α × Nat)} {S : List α} {m : Nat} (h : Held lt A S m) (hp : A'.Perm A) : Held lt A' S m := by
  obtain ⟨I, h1, h2, h3, h4, h5⟩ := h
  exact ⟨I, h1.trans hp.symm, h2, h3, fun x hx => h4 x (hp.mem_iff.1 hx), (hp.map Prod.snd).nodup_iff.2 h5⟩
theorem ins_ah (I : List (α × Nat)) (x : α) (m : Nat) (h : ∀ y ∈ I, y.2 < m) : (ins (ah lt) I (x, m)).map Prod.fst = ins lt (I.map Prod.fst) x := by
  induction I with
  | nil => rfl
  | cons y r ih =>
    have hy := h y (by simp)
    have e : ah lt (x, m) y = lt x y.1 := by
      unfold ah
      rw [decide_eq_false (by show ¬ m < y.2; omega)]
      simp
    rw [ins_cons, List.map_cons, ins_cons, e]
    by_cases hx : lt x y.1 = true
    · rw [if_pos hx, if_pos hx]; rfl
    · rw [if_neg hx, if_neg hx, List.map_cons, ih (fun z hz => h z (by simp [hz]))]
theorem Held.push (ho : Order lt) {A : List (α × Nat)} {S : List α} {m : Nat} (h : Held lt A S m) (x : α) : Held lt (A ++ [(x, m)]) (ins lt S x) (m + 1) := by
  obtain ⟨I, h1, h2, rfl, h4, h5⟩ := h
  refine ⟨ins (ah lt) I (x, m), ?_, ins_row (ah_order ho) h2 _, ins_ah I x m (fun y hy => h4 y (h1.mem_iff.1 hy)), ?_, ?_⟩
  · exact (ins_perm I (x, m)).trans ((h1.cons _).trans (List.perm_append_comm (l₁ := [(x, m)])))
  · intro y hy
    rcases List.mem_append.1 hy with hy | hy
    · have := h4 y hy; omega
    · simp at hy; subst hy; exact Nat.lt_succ_self m
  · rw [List.map_append, List.nodup_append]
    refine ⟨h5, by simp, ?_⟩
    intro a ha b hb hab
    simp only [List.map_cons, List.map_nil, List.mem_singleton] at hb
    obtain ⟨y, hy, rfl⟩ := List.mem_map.1 ha
    have := h4 y hy
    omega
theorem nodup_snd {A : List (α × Nat)} (h : (A.map Prod.snd).Nodup) {a b : α × Nat} (ha : a ∈ A) (hb : b ∈ A) (e : a.2 = b.2) : a = b := by
  induction A with
  | nil => cases ha
  | cons c r ih =>
    rw [List.map_cons, List.nodup_cons] at h
    rcases List.mem_cons.1 ha with rfl | ha' <;> rcases List.mem_cons.1 hb with rfl | hb'
    · rfl
    · exact absurd (List.mem_map.2 ⟨b, hb', e.symm⟩) h.1
    · exact absurd (List.mem_map.2 ⟨a, ha', e⟩) h.1
    · exact ih h.2 ha' hb'
/-- What stands first in a heap is what goes out first. -/
theorem Held.top (ho : Order lt) {A : List (α × Nat)} {S : List α} {m : Nat} (h : Held lt A S m) (hh : IsHeap lt A) {r : α × Nat} (hr : A[0]? = some r) : ∃ T, S = r.1 :: T ∧ ∀ A', (r :: A').Perm A → Held lt A' T m := by
  obtain ⟨I, h1, h2, rfl, h4, h5⟩ := h
  have hrA := List.mem_of_getElem? hr
  cases I with
  | nil => have := h1.symm.mem_iff.1 hrA; cases this
  | cons b J =>
    have hbA : b ∈ A := h1.mem_iff.1 (by simp)
    have hb : ah lt b r = false := by
      obtain ⟨k, hk⟩ := List.getElem?_of_mem hbA
      exact IsHeap.top ho hh hr k b hk
    have hbr : b = r := by
      rcases List.mem_cons.1 (h1.symm.mem_iff.1 hrA) with e | hrJ
      · exact e.symm
      · have hrb := h2.head r hrJ
        by_cases e : b.2 = r.2
        · exact nodup_snd h5 hbA hrA e
        · rcases ah_total (lt := lt) e with h | h
          · rw [hb] at h; cases h
          · rw [hrb] at h; cases h
    subst hbr
    refine ⟨J.map Prod.fst, rfl, fun A' hp => ⟨J, (h1.trans hp.symm).cons_inv, h2.tail, rfl, fun x hx => h4 x (hp.mem_iff.1 (by simp [hx])), ?_⟩⟩
    have := (hp.map Prod.snd).nodup_iff.2 h5
    rw [List.map_cons, List.nodup_cons] at this
    exact this.2
end
end Go.Proofs.Ytiogmgpkaiicpaa.Qu
