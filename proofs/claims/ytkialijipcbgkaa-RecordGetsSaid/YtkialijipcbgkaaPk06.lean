/-
  QuMath: Plain mathematics of chapter 7 (queue): lists in their order, kept by inserting behind what is not behind.
  QuHeap: Plain mathematics of chapter 7 (queue): things with their turns in a heap (no thing is ahead of the one above it), sifted up and down; what it holds, in the order in which it goes out.
  BpWay: Plain mathematics of chapter 10's way: places that are joined as a list, pairs that wait, least rank first; what has changed is passed over.
  BpWait: Plain mathematics: the pairs that wait in a queue, least rank first, of these the leftmost. (Entries of whatever struct: rk tells the rank, pl the place.)
-/
import Derived.Test.YtkialijipcbgkaaPk02
namespace Go.Proofs.Ytkialijipcbgkaa.Qu

section
variable {α : Type} {lt : α → α → Bool}
/-- An order, as the chapter says. -/
structure Order (lt : α → α → Bool) : Prop where
  irr : ∀ a, lt a a = false
  trans : ∀ a b c, lt a b = true → lt b c = true → lt a c = true
  alike : ∀ a b c, lt a b = true → lt a c = true ∨ lt c b = true
theorem Order.asymm (h : Order lt) {a b : α} (hab : lt a b = true) : lt b a = false := by
  cases hba : lt b a with
  | false => rfl
  | true => have h1 := h.trans a b a hab hba; rw [h.irr a] at h1; cases h1
/-- What is not behind, then strictly behind. -/
theorem Order.le_lt (h : Order lt) {a b c : α} (hab : lt b a = false) (hbc : lt b c = true) : lt a c = true := by
  rcases h.alike b c a hbc with h1 | h1
  · rw [hab] at h1; cases h1
  · exact h1
theorem Order.lt_le (h : Order lt) {a b c : α} (hab : lt a b = true) (hbc : lt c b = false) : lt a c = true := by
  rcases h.alike a b c hab with h1 | h1
  · exact h1
  · rw [hbc] at h1; cases h1
theorem Order.le_le (h : Order lt) {a b c : α} (hab : lt b a = false) (hbc : lt c b = false) : lt c a = false := by
  cases hca : lt c a with
  | false => rfl
  | true =>
    rcases h.alike c a b hca with h1 | h1
    · rw [hbc] at h1; cases h1
    · rw [hab] at h1; cases h1

/-- Behind all that are not behind it. -/
def ins (lt : α → α → Bool) : List α → α → List α
  | [], x => [x]
  | y :: r, x => if lt x y = true then x :: y :: r else y :: ins lt r x
theorem ins_cons (y : α) (r : List α) (x : α) : ins lt (y :: r) x = if lt x y = true then x :: y :: r else y :: ins lt r x := rfl
/-- All of a list, one behind the other. -/
def sorted (lt : α → α → Bool) (l : List α) : List α := l.foldl (ins lt) []
theorem sorted_snoc (l : List α) (x : α) : sorted lt (l ++ [x]) = ins lt (sorted lt l) x := by simp [sorted]
theorem ins_perm (S : List α) (x : α) : (ins lt S x).Perm (x :: S) := by
  induction S with
  | nil => exact List.Perm.refl _
  | cons y r ih =>
    unfold ins
    by_cases h : lt x y = true
    · rw [if_pos h]
    · rw [if_neg h]
      exact (ih.cons y).trans (List.Perm.swap x y r)
theorem ins_len (S : List α) (x : α) : (ins lt S x).length = S.length + 1 := by rw [(ins_perm S x).length_eq]; rfl
theorem foldl_perm (T l : List α) : (l.foldl (ins lt) T).Perm (T ++ l) := by
  induction l generalizing T with
  | nil => simp
  | cons x r ih =>
    refine (ih (ins lt T x)).trans ?_
    refine ((ins_perm T x).append_right r).trans ?_
    rw [List.cons_append]
    exact List.perm_middle.symm
theorem sorted_perm (l : List α) : (sorted lt l).Perm l := foldl_perm (lt := lt) [] l
theorem sorted_len (l : List α) : (sorted lt l).length = l.length := (sorted_perm l).length_eq

/-- In its order: none is less than one ahead of it. -/
def Row (lt : α → α → Bool) (S : List α) : Prop := S.Pairwise (fun a b => lt b a = false)
theorem Row.tail {x : α} {S : List α} (h : Row lt (x :: S)) : Row lt S := (List.pairwise_cons.1 h).2
theorem Row.head {x : α} {S : List α} (h : Row lt (x :: S)) : ∀ y ∈ S, lt y x = false := (List.pairwise_cons.1 h).1
theorem ins_row (ho : Order lt) {S : List α} (h : Row lt S) (x : α) : Row lt (ins lt S x) := by
  induction S with
  | nil => simp [ins, Row]
  | cons y r ih =>
    unfold ins
    by_cases hx : lt x y = true
    · rw [if_pos hx]
      refine List.pairwise_cons.2 ⟨fun z hz => ?_, h⟩
      rcases List.mem_cons.1 hz with rfl | hz
      · exact ho.asymm hx
      · exact ho.asymm (ho.lt_le hx (h.head z hz))
    · rw [if_neg hx]
      refine List.pairwise_cons.2 ⟨fun z hz => ?_, ih h.tail⟩
      rcases List.mem_cons.1 ((ins_perm r x).mem_iff.1 hz) with rfl | hz
      · simpa using hx
      · exact h.head z hz
theorem foldl_row (ho : Order lt) {T : List α} (h : Row lt T) (l : List α) : Row lt (l.foldl (ins lt) T) := by
  induction l generalizing T with
  | nil => exact h
  | cons x r ih => exact ih (ins_row ho h x)
theorem sorted_row (ho : Order lt) (l : List α) : Row lt (sorted lt l) := foldl_row ho (by simp [Row]) l

/-! Two that are sorted, and then sorted together. -/
theorem ins_comm (ho : Order lt) {x y : α} (h : lt x y = true) (S : List α) : ins lt (ins lt S x) y = ins lt (ins lt S y) x := by
  have hyx := ho.asymm h
  induction S with
  | nil => simp [ins, h, hyx]
  | cons z r ih =>
    by_cases hxz : lt x z = true
    · by_cases hyz : lt y z = true
      · simp [ins, hxz, hyz, h, hyx]
      · simp [ins, hxz, hyz, hyx]
    · by_cases hyz : lt y z = true
      · exact absurd (ho.trans x y z h hyz) hxz
      · simp [ins, hxz, hyz, ih]
theorem foldl_past (ho : Order lt) {x : α} {S : List α} (h : ∀ z ∈ S, lt x z = true) (T : List α) : S.foldl (ins lt) (ins lt T x) = ins lt (S.foldl (ins lt) T) x := by
  induction S generalizing T with
  | nil => rfl
  | cons z r ih =>
    rw [List.foldl_cons, List.foldl_cons, ins_comm ho (h z (by simp)), ih (fun y hy => h y (by simp [hy]))]
theorem foldl_ins (ho : Order lt) {S : List α} (h : Row lt S) (x : α) (T : List α) : (ins lt S x).foldl (ins lt) T = ins lt (S.foldl (ins lt) T) x := by
  induction S generalizing T with
  | nil => rfl
  | cons y r ih =>
    rw [ins_cons]
    by_cases hx : lt x y = true
    · rw [if_pos hx, List.foldl_cons]
      exact foldl_past ho (fun z hz => by
        rcases List.mem_cons.1 hz with rfl | hz
        · exact hx
        · exact ho.lt_le hx (h.head z hz)) T
    · rw [if_neg hx, List.foldl_cons, List.foldl_cons, ih h.tail]
theorem snoc_ind {β : Type} {C : List β → Prop} (h0 : C []) (h1 : ∀ l x, C l → C (l ++ [x])) (l : List β) : C l := by
  have : ∀ m : List β, C m.reverse := by
    intro m
    induction m with
    | nil => exact h0
    | cons x r ih => rw [List.reverse_cons]; exact h1 _ _ ih
  have := this l.reverse
  rwa [List.reverse_reverse] at this
theorem foldl_sorted (ho : Order lt) (l T : List α) : (sorted lt l).foldl (ins lt) T = l.foldl (ins lt) T := by
  induction l using snoc_ind with
  | h0 => rfl
  | h1 l x ih => rw [sorted_snoc, foldl_ins ho (sorted_row ho l), ih, List.foldl_append]; rfl
theorem sorted_both (ho : Order lt) (a b : List α) : sorted lt (sorted lt a ++ sorted lt b) = sorted lt (a ++ b) := by
  unfold sorted
  rw [List.foldl_append, List.foldl_append]
  show (sorted lt b).foldl (ins lt) ((sorted lt a).foldl (ins lt) []) = _
  rw [foldl_sorted ho, foldl_sorted ho]
/-- What stands in its order already. -/
theorem sorted_of_row {l : List α} (h : Row lt l) : sorted lt l = l := by
  induction l using snoc_ind with
  | h0 => rfl
  | h1 l x ih =>
    have h1 := List.pairwise_append.1 h
    rw [sorted_snoc, ih h1.1]
    have h2 : ∀ y ∈ l, lt x y = false := fun y hy => h1.2.2 y hy x (by simp)
    clear ih h h1
    induction l with
    | nil => rfl
    | cons y r ih =>
      unfold ins
      rw [if_neg (by rw [h2 y (by simp)]; simp), ih (fun z hz => h2 z (by simp [hz]))]
      rfl
end

/-! Numbers by what is left of them. -/
def rank (x b : Int) : Int := if b = 0 then 0 else x.tmod b
def ltR (b : Int) (x y : Int) : Bool := decide (rank x b < rank y b)
theorem ltR_order (b : Int) : Order (ltR b) where
  irr := fun a => by simp [ltR]
  trans := fun a c d h1 h2 => by simp only [ltR, decide_eq_true_eq] at *; omega
  alike := fun a c d h => by simp only [ltR, decide_eq_true_eq] at *; omega
end Go.Proofs.Ytkialijipcbgkaa.Qu
namespace Go.Proofs.Ytkialijipcbgkaa.Qu

section
variable {α : Type} {lt : α → α → Bool}
/-- Ahead: less; or alike, and pushed first. -/
def ah (lt : α → α → Bool) (a b : α × Nat) : Bool := lt a.1 b.1 || (!lt b.1 a.1 && decide (a.2 < b.2))
theorem ah_iff {a b : α × Nat} : ah lt a b = true ↔ lt a.1 b.1 = true ∨ (lt b.1 a.1 = false ∧ a.2 < b.2) := by simp [ah]
theorem ah_order (ho : Order lt) : Order (ah lt) where
  irr := fun a => by simp [ah, ho.irr]
  trans := fun a b c h1 h2 => by
    rw [ah_iff] at *
    rcases h1 with h1 | ⟨h1, t1⟩ <;> rcases h2 with h2 | ⟨h2, t2⟩
    · exact .inl (ho.trans _ _ _ h1 h2)
    · exact .inl (ho.lt_le h1 h2)
    · exact .inl (ho.le_lt h1 h2)
    · exact .inr ⟨ho.le_le h1 h2, by omega⟩
  alike := fun a b c h => by
    simp only [ah_iff] at *
    rcases h with h | ⟨h, t⟩
    · rcases ho.alike _ _ c.1 h with h1 | h1
      · exact .inl (.inl h1)
      · exact .inr (.inl h1)
    · cases hac : lt a.1 c.1 with
      | true => exact .inl (.inl rfl)
      | false =>
        cases hcb : lt c.1 b.1 with
        | true => exact .inr (.inl rfl)
        | false =>
          cases hca : lt c.1 a.1 with
          | true => have := ho.lt_le hca h; rw [hcb] at this; cases this
          | false =>
            cases hbc : lt b.1 c.1 with
            | true => have := ho.lt_le hbc hac; rw [h] at this; cases this
            | false =>
              by_cases ht : a.2 < c.2
              · exact .inl (.inr ⟨rfl, ht⟩)
              · exact .inr (.inr ⟨rfl, by omega⟩)
theorem ah_total {a b : α × Nat} (h : a.2 ≠ b.2) : ah lt a b = true ∨ ah lt b a = true := by
  simp only [ah_iff]
  cases lt a.1 b.1 <;> cases lt b.1 a.1 <;> simp <;> omega

theorem ah_turn (ho : Order lt) {a b : α × Nat} (h : a.2 < b.2) : ah lt a b = !lt b.1 a.1 := by
  unfold ah
  rw [decide_eq_true h]
  cases hab : lt a.1 b.1 with
  | true => rw [ho.asymm hab]; rfl
  | false => simp
theorem ah_else {a b : α × Nat} (h : ¬ a.2 < b.2) : ah lt a b = lt a.1 b.1 := by
  unfold ah
  rw [decide_eq_false h]
  simp

/-- None is ahead of the one above it. -/
def IsHeap (lt : α → α → Bool) (A : List (α × Nat)) : Prop := ∀ k a b, 0 < k → A[k]? = some a → A[(k - 1) / 2]? = some b → ah lt a b = false
theorem IsHeap.top (ho : Order lt) {A : List (α × Nat)} (h : IsHeap lt A) {r : α × Nat} (hr : A[0]? = some r) : ∀ (k : Nat) (a : α × Nat), A[k]? = some a → ah lt a r = false := by
  intro k
  induction k using Nat.strongRecOn with
  | ind k ih =>
    intro a ha
    rcases Nat.eq_zero_or_pos k with rfl | hk
    · rw [hr] at ha; cases ha; exact (ah_order ho).irr _
    · have hl : (k - 1) / 2 < A.length := by have := (List.getElem?_eq_some_iff.1 ha).1; omega
      have hb := List.getElem?_eq_getElem hl
      exact (ah_order ho).le_le (ih _ (by omega) _ hb) (h k a _ hk ha hb)

theorem two_sets {A : List (α × Nat)} {i j : Nat} (hi : i < A.length) (hj : j < A.length) (x y : α × Nat) (k : Nat) :
    ((A.set i y).set j x)[k]? = if k = j then some x else if k = i then some y else A[k]? := by
  by_cases h1 : k = j
  · subst h1; rw [if_pos rfl, List.getElem?_set_self (by rw [List.length_set]; exact hj)]
  · rw [if_neg h1, List.getElem?_set_ne (fun h => h1 h.symm)]
    by_cases h2 : k = i
    · subst h2; rw [if_pos rfl, List.getElem?_set_self hi]
    · rw [if_neg h2, List.getElem?_set_ne (fun h => h2 h.symm)]
theorem two_perm {A : List (α × Nat)} {i j : Nat} {x y : α × Nat} (hx : A[i]? = some x) (hy : A[j]? = some y) : ((A.set i y).set j x).Perm A := by
  obtain ⟨hi, rfl⟩ := List.getElem?_eq_some_iff.1 hx
  obtain ⟨hj, rfl⟩ := List.getElem?_eq_some_iff.1 hy
  exact List.set_set_perm hi hj

/-- A heap, but for what stands at i, which may go up. -/
structure Up (lt : α → α → Bool) (A : List (α × Nat)) (i : Nat) : Prop where
  rest : ∀ k a b, 0 < k → k ≠ i → A[k]? = some a → A[(k - 1) / 2]? = some b → ah lt a b = false
  over : ∀ k a c, 0 < k → (k - 1) / 2 = i → 0 < i → A[k]? = some a → A[(i - 1) / 2]? = some c → ah lt a c = false
theorem Up.push {A : List (α × Nat)} (h : IsHeap lt A) (x : α × Nat) : Up lt (A ++ [x]) A.length where
  rest := fun k a b hk hne ha hb => by
    have hlt : k < A.length := by have := (List.getElem?_eq_some_iff.1 ha).1; simp at this; omega
    rw [List.getElem?_append_left hlt] at ha
    rw [List.getElem?_append_left (by omega)] at hb
    exact h k a b hk ha hb
  over := fun k a c hk hp _ ha _ => by have := (List.getElem?_eq_some_iff.1 ha).1; simp at this; omega
theorem Up.done {A : List (α × Nat)} {i : Nat} (h : Up lt A i) (hd : ∀ a b, 0 < i → A[i]? = some a → A[(i - 1) / 2]? = some b → ah lt a b = false) : IsHeap lt A := fun k a b hk ha hb => by
  by_cases hki : k = i
  · subst hki; exact hd a b hk ha hb
  · exact h.rest k a b hk hki ha hb
theorem Up.step (ho : Order lt) {A : List (α × Nat)} {i p : Nat} (h : Up lt A i) (hi : 0 < i) (hp : (i - 1) / 2 = p) {x y : α × Nat} (hx : A[i]? = some x) (hy : A[p]? = some y) (hxy : ah lt x y = true) : Up lt ((A.set i y).set p x) p := by
  have hil := (List.getElem?_eq_some_iff.1 hx).1
  have hpl := (List.getElem?_eq_some_iff.1 hy).1
  have O := ah_order ho
  constructor
  · intro k a b hk hne ha hb
    rw [two_sets hil hpl] at ha hb
    rw [if_neg hne] at ha
    by_cases hki : k = i
    · subst hki
      rw [if_pos rfl] at ha
      rw [if_pos hp] at hb
      cases ha; cases hb
      exact O.asymm hxy
    · rw [if_neg hki] at ha
      by_cases h1 : (k - 1) / 2 = p
      · rw [if_pos h1] at hb
        cases hb
        have hay := h.rest k a y hk hki ha (by rw [h1]; exact hy)
        cases hax : ah lt a x with
        | false => rfl
        | true => rw [O.trans _ _ _ hax hxy] at hay; cases hay
      · rw [if_neg h1] at hb
        by_cases h2 : (k - 1) / 2 = i
        · rw [if_pos h2] at hb
          cases hb
          exact h.over k a y hk h2 hi ha (by rw [hp]; exact hy)
        · rw [if_neg h2] at hb
          exact h.rest k a b hk hki ha hb
  · intro k a c hk hkp hp0 ha hc
    rw [two_sets hil hpl] at ha hc
    rw [if_neg (by omega), if_neg (by omega)] at hc
    rw [if_neg (by omega)] at ha
    have hyc := h.rest p y c hp0 (by omega) hy hc
    by_cases hki : k = i
    · rw [if_pos hki] at ha; cases ha; exact hyc
    · rw [if_neg hki] at ha
      exact O.le_le hyc (h.rest k a y hk hki ha (by rw [hkp]; exact hy))

/-- A heap, but for what stands at i, which may go down. -/
structure Down (lt : α → α → Bool) (A : List (α × Nat)) (i : Nat) : Prop where
  rest : ∀ k a b, 0 < k → (k - 1) / 2 ≠ i → A[k]? = some a → A[(k - 1) / 2]? = some b → ah lt a b = false
  over : ∀ k a c, 0 < k → (k - 1) / 2 = i → 0 < i → A[k]? = some a → A[(i - 1) / 2]? = some c → ah lt a c = false
theorem Down.done {A : List (α × Nat)} {i : Nat} (h : Down lt A i) (hd : ∀ k a b, 0 < k → (k - 1) / 2 = i → A[k]? = some a → A[i]? = some b → ah lt a b = false) : IsHeap lt A := fun k a b hk ha hb => by
  by_cases hki : (k - 1) / 2 = i
  · exact hd k a b hk hki ha (by rw [← hki]; exact hb)
  · exact h.rest k a b hk hki ha hb
theorem Down.step (ho : Order lt) {A : List (α × Nat)} {i l : Nat} (h : Down lt A i) (hl : 0 < l) (hi : (l - 1) / 2 = i) {x y : α × Nat} (hx : A[i]? = some x) (hy : A[l]? = some y) (hyx : ah lt y x = true)
    (hmin : ∀ k a, 0 < k → (k - 1) / 2 = i → A[k]? = some a → ah lt a y = false) : Down lt ((A.set i y).set l x) l := by
  have hil := (List.getElem?_eq_some_iff.1 hx).1
  have hll := (List.getElem?_eq_some_iff.1 hy).1
  have O := ah_order ho
  constructor
  · intro k a b hk hne ha hb
    rw [two_sets hil hll] at ha hb
    rw [if_neg hne] at hb
    by_cases h1 : (k - 1) / 2 = i
    · rw [if_pos h1] at hb
      cases hb
      by_cases hkl : k = l
      · rw [if_pos hkl] at ha; cases ha; exact O.asymm hyx
      · rw [if_neg hkl, if_neg (by omega)] at ha
        exact hmin k a hk h1 ha
    · rw [if_neg h1] at hb
      by_cases hkl : k = l
      · exact absurd (by rw [hkl]; exact hi) h1
      · rw [if_neg hkl] at ha
        by_cases hki : k = i
        · rw [if_pos hki] at ha
          cases ha
          subst hki
          exact h.over l y b hl hi hk hy hb
        · rw [if_neg hki] at ha
          exact h.rest k a b hk h1 ha hb
  · intro k a c hk hkl hl0 ha hc
    rw [two_sets hil hll] at ha hc
    rw [if_neg (by omega), if_neg (by omega)] at ha
    rw [hi, if_neg (by omega), if_pos rfl] at hc
    cases hc
    exact h.rest k a y hk (by omega) ha (by rw [hkl]; exact hy)
/-- The last one in the first one's place. -/
theorem Down.pop {A : List (α × Nat)} (h : IsHeap lt A) (z : α × Nat) : Down lt ((A.set 0 z).take (A.length - 1)) 0 where
  rest := fun k a b hk hne ha hb => by
    rw [List.getElem?_take] at ha hb
    split at ha
    · split at hb
      · rw [List.getElem?_set_ne (by omega)] at ha
        rw [List.getElem?_set_ne (by omega)] at hb
        exact h k a b hk ha hb
      · cases hb
    · cases ha
  over := fun _ _ _ _ _ h0 => absurd h0 (by omega)
theorem pop_perm {A : List (α × Nat)} {r z : α × Nat} (hr : A[0]? = some r) (hz : A[A.length - 1]? = some z) : (r :: (A.set 0 z).take (A.length - 1)).Perm A := by
  match A, hr, hz with
  | [], hr, _ => cases hr
  | [a], hr, _ => simp at hr; subst hr; simp
  | a :: b :: m, hr, hz =>
    simp only [List.getElem?_cons_zero, Option.some.injEq] at hr
    subst hr
    have hne : b :: m ≠ [] := by simp
    have hl : (b :: m).getLast hne = z := by
      simp only [List.length_cons, Nat.add_sub_cancel, List.getElem?_cons_succ] at hz
      rw [List.getLast_eq_getElem]
      rw [List.getElem?_eq_getElem (by simp)] at hz
      simpa using hz
    have ht : ((a :: b :: m).set 0 z).take ((a :: b :: m).length - 1) = z :: (b :: m).dropLast := by
      simp [List.dropLast_eq_take]
    rw [ht]
    refine List.Perm.cons a ?_
    have e := List.dropLast_concat_getLast hne
    rw [hl] at e
    exact (List.perm_append_comm (l₁ := [z]) (l₂ := (b :: m).dropLast)).trans (List.Perm.of_eq e)

/-- What is in a heap, in the order in which it goes out; m: how many were pushed. -/
def Held (lt : α → α → Bool) (A : List (α × Nat)) (S : List α) (m : Nat) : Prop :=
  ∃ I : List (α × Nat), I.Perm A ∧ Row (ah lt) I ∧ I.map Prod.fst = S ∧ (∀ x ∈ A, x.2 < m) ∧ (A.map Prod.snd).Nodup
theorem Held.nil : Held lt ([] : List (α × Nat)) [] 0 := ⟨[], .refl _, by simp [Row], rfl, by simp, by simp⟩
theorem Held.length {A : List (α × Nat)} {S : List α} {m : Nat} (h : Held lt A S m) : S.length = A.length := by
  obtain ⟨I, hp, -, rfl, -⟩ := h
  rw [List.length_map, hp.length_eq]
theorem Held.perm {A A' : List (α × Nat)} {S : List α} {m : Nat} (h : Held lt A S m) (hp : A'.Perm A) : Held lt A' S m := by
  obtain ⟨I, h1, h2, h3, h4, h5⟩ := h
  exact ⟨I, h1.trans hp.symm, h2, h3, fun x hx => h4 x (hp.mem_iff.1 hx), (hp.map Prod.snd).nodup_iff.2 h5⟩
theorem ins_ah (I : List (α × Nat)) (x : α) (m : Nat) (h : ∀ y ∈ I, y.2 < m) : (ins (ah lt) I (x, m)).map Prod.fst = ins lt (I.map Prod.fst) x := by
  induction I with
  | nil => rfl
  | cons y r ih =>
    have hy := h y (by simp)
    have e : ah lt (x, m) y = lt x y.1 := by
      unfold ah
      rw [decide_eq_false (by show ¬ m < y.2; omega)]
      simp
    rw [ins_cons, List.map_cons, ins_cons, e]
    by_cases hx : lt x y.1 = true
    · rw [if_pos hx, if_pos hx]; rfl
    · rw [if_neg hx, if_neg hx, List.map_cons, ih (fun z hz => h z (by simp [hz]))]
theorem Held.push (ho : Order lt) {A : List (α × Nat)} {S : List α} {m : Nat} (h : Held lt A S m) (x : α) : Held lt (A ++ [(x, m)]) (ins lt S x) (m + 1) := by
  obtain ⟨I, h1, h2, rfl, h4, h5⟩ := h
  refine ⟨ins (ah lt) I (x, m), ?_, ins_row (ah_order ho) h2 _, ins_ah I x m (fun y hy => h4 y (h1.mem_iff.1 hy)), ?_, ?_⟩
  · exact (ins_perm I (x, m)).trans ((h1.cons _).trans (List.perm_append_comm (l₁ := [(x, m)])))
  · intro y hy
    rcases List.mem_append.1 hy with hy | hy
    · have := h4 y hy; omega
    · simp at hy; subst hy; exact Nat.lt_succ_self m
  · rw [List.map_append, List.nodup_append]
    refine ⟨h5, by simp, ?_⟩
    intro a ha b hb hab
    simp only [List.map_cons, List.map_nil, List.mem_singleton] at hb
    obtain ⟨y, hy, rfl⟩ := List.mem_map.1 ha
    have := h4 y hy
    omega
theorem nodup_snd {A : List (α × Nat)} (h : (A.map Prod.snd).Nodup) {a b : α × Nat} (ha : a ∈ A) (hb : b ∈ A) (e : a.2 = b.2) : a = b := by
  induction A with
  | nil => cases ha
  | cons c r ih =>
    rw [List.map_cons, List.nodup_cons] at h
    rcases List.mem_cons.1 ha with rfl | ha' <;> rcases List.mem_cons.1 hb with rfl | hb'
    · rfl
    · exact absurd (List.mem_map.2 ⟨b, hb', e.symm⟩) h.1
    · exact absurd (List.mem_map.2 ⟨a, ha', e⟩) h.1
    · exact ih h.2 ha' hb'
/-- What stands first in a heap is what goes out first. -/
theorem Held.top (ho : Order lt) {A : List (α × Nat)} {S : List α} {m : Nat} (h : Held lt A S m) (hh : IsHeap lt A) {r : α × Nat} (hr : A[0]? = some r) : ∃ T, S = r.1 :: T ∧ ∀ A', (r :: A').Perm A → Held lt A' T m := by
  obtain ⟨I, h1, h2, rfl, h4, h5⟩ := h
  have hrA := List.mem_of_getElem? hr
  cases I with
  | nil => have := h1.symm.mem_iff.1 hrA; cases this
  | cons b J =>
    have hbA : b ∈ A := h1.mem_iff.1 (by simp)
    have hb : ah lt b r = false := by
      obtain ⟨k, hk⟩ := List.getElem?_of_mem hbA
      exact IsHeap.top ho hh hr k b hk
    have hbr : b = r := by
      rcases List.mem_cons.1 (h1.symm.mem_iff.1 hrA) with e | hrJ
      · exact e.symm
      · have hrb := h2.head r hrJ
        by_cases e : b.2 = r.2
        · exact nodup_snd h5 hbA hrA e
        · rcases ah_total (lt := lt) e with h | h
          · rw [hb] at h; cases h
          · rw [hrb] at h; cases h
    subst hbr
    refine ⟨J.map Prod.fst, rfl, fun A' hp => ⟨J, (h1.trans hp.symm).cons_inv, h2.tail, rfl, fun x hx => h4 x (hp.mem_iff.1 (by simp [hx])), ?_⟩⟩
    have := (hp.map Prod.snd).nodup_iff.2 h5
    rw [List.map_cons, List.nodup_cons] at this
    exact this.2
end
end Go.Proofs.Ytkialijipcbgkaa.Qu
namespace Go.Proofs.Ytkialijipcbgkaa.Bp

section
variable {J : Int → Int → Option (Int × Nat)} {ps X Y : List Nat} {f : Nat → Int} {a b : Nat} {t : Int} {r : Nat}
/-- What stands at the places when a place is given a token. -/
def put (f : Nat → Int) (a : Nat) (t : Int) (p : Nat) : Int := if p = a then t else f p
theorem put_map {X : List Nat} (h : a ∉ X) : X.map (put f a t) = X.map f := by
  refine List.map_congr_left fun p hp => ?_
  exact if_neg (fun e : p = a => h (e ▸ hp))
theorem put_same : put f a t a = t := if_pos rfl
theorem put_other {p : Nat} (h : p ≠ a) : put f a t p = f p := if_neg h
theorem apart (hs : (X ++ a :: b :: Y).Pairwise (· < ·)) : a ∉ X ∧ a ∉ Y ∧ b ∉ X ∧ b ∉ Y ∧ a < b := by
  rw [List.pairwise_append] at hs
  obtain ⟨_, h2, h3⟩ := hs
  have h4 := List.pairwise_cons.1 h2
  have h5 := List.pairwise_cons.1 h4.2
  refine ⟨fun h => ?_, fun h => ?_, fun h => ?_, fun h => ?_, h4.1 b (by simp)⟩
  · exact Nat.lt_irrefl _ (h3 a h a (by simp))
  · exact Nat.lt_irrefl _ (h4.1 a (by simp [h]))
  · exact Nat.lt_irrefl _ (h3 b h b (by simp))
  · exact Nat.lt_irrefl _ (h5.1 b h)
theorem fewer (hs : (X ++ a :: b :: Y).Pairwise (· < ·)) : (X ++ a :: Y).Pairwise (· < ·) :=
  hs.sublist (List.Sublist.append (List.Sublist.refl _) (List.Sublist.cons_cons _ (List.Sublist.cons _ (List.Sublist.refl _))))
theorem put_row (h1 : a ∉ X) (h2 : a ∉ Y) : (X ++ a :: Y).map (put f a t) = joined ((X ++ a :: b :: Y).map f) X.length t := by
  unfold joined
  rw [List.map_append, List.map_cons, put_map h1, put_map h2, put_same, List.map_append]
  congr 1
  · rw [List.take_left' (by simp)]
  · rw [List.map_cons, List.map_cons, List.drop_append]
    simp
/-- The pairs of a row are those of its places. -/
theorem cand_places {i : Nat} (h : cand J (ps.map f) i = some (t, r)) : ∃ X a b Y, ps = X ++ a :: b :: Y ∧ X.length = i ∧ J (f a) (f b) = some (t, r) := by
  obtain ⟨x, y, h1, h2, h3⟩ := cand_some h
  rw [List.getElem?_map] at h1 h2
  cases h4 : ps[i]? with
  | none => rw [h4] at h1; cases h1
  | some a =>
    cases h5 : ps[i + 1]? with
    | none => rw [h5] at h2; cases h2
    | some b =>
      rw [h4] at h1; rw [h5] at h2
      cases h1; cases h2
      have hi := (List.getElem?_eq_some_iff.1 h4).1
      refine ⟨ps.take i, a, b, ps.drop (i + 2), ?_, by rw [List.length_take]; omega, h3⟩
      conv => lhs; rw [← List.take_append_drop i ps]
      congr 1
      rw [List.drop_eq_getElem?_toList_append, h4, List.drop_eq_getElem?_toList_append, h5]
      rfl
theorem cand_at (h : J (f a) (f b) = some (t, r)) : cand J ((X ++ a :: b :: Y).map f) X.length = some (t, r) := by
  rw [cand_of (x := f a) (y := f b) (by simp) (by simp), h]
/-- A pair that is ahead of all others is the one that a step joins. -/
theorem least_place (hs : (X ++ a :: b :: Y).Pairwise (· < ·)) (hJ : J (f a) (f b) = some (t, r))
    (hm : ∀ X' a' b' Y' t' r', X ++ a :: b :: Y = X' ++ a' :: b' :: Y' → J (f a') (f b') = some (t', r') → r < r' ∨ (r = r' ∧ a ≤ a')) : Least J ((X ++ a :: b :: Y).map f) X.length t r := by
  refine ⟨cand_at hJ, fun i u s hc => ?_⟩
  obtain ⟨X', a', b', Y', he, rfl, hJ'⟩ := cand_places hc
  rcases hm X' a' b' Y' u s he hJ' with h | ⟨h, h2⟩
  · exact .inl h
  · refine .inr ⟨h, ?_⟩
    rcases Nat.lt_or_ge X'.length X.length with hl | hl
    · exfalso
      have h3 : (X ++ a :: b :: Y)[X'.length]? = some a' := by rw [he]; simp
      rw [List.getElem?_append_left hl] at h3
      have h4 := List.mem_of_getElem? h3
      rw [List.pairwise_append] at hs
      have := hs.2.2 a' h4 a (by simp)
      omega
    · exact hl
/-- The pairs behind a step: those that were there, apart from the place, and the two at it. -/
theorem pairs_after {X' Y' : List Nat} {a' b' : Nat} (hs : (X ++ a :: b :: Y).Pairwise (· < ·)) (he : X ++ a :: Y = X' ++ a' :: b' :: Y') :
    (a' = a ∧ Y = b' :: Y') ∨ (b' = a ∧ X = X' ++ [a']) ∨ (a' ≠ a ∧ b' ≠ a ∧ ∃ X'' Y'', X ++ a :: b :: Y = X'' ++ a' :: b' :: Y'') := by
  obtain ⟨hX, hY, -, -, -⟩ := apart hs
  rcases List.append_eq_append_iff.1 he with ⟨bs, h1, h2⟩ | ⟨us, h1, h2⟩
  · cases bs with
    | nil =>
      rw [List.nil_append] at h2
      injection h2 with h3 h4
      exact .inl ⟨h3.symm, h4⟩
    | cons c bs =>
      injection h2 with h3 h4
      refine .inr (.inr ⟨fun e => hY ?_, fun e => hY ?_, X ++ a :: b :: bs, Y', ?_⟩)
      · rw [h4, ← e]; simp
      · rw [h4, ← e]; simp
      · rw [h4]; simp
  · cases us with
    | nil =>
      rw [List.nil_append] at h2
      injection h2 with h3 h4
      exact .inl ⟨h3, h4.symm⟩
    | cons c us =>
      injection h2 with h3 h4
      cases us with
      | nil =>
        injection h4 with h5 h6
        exact .inr (.inl ⟨h5, by rw [h1, h3]⟩)
      | cons d us =>
        injection h4 with h5 h6
        refine .inr (.inr ⟨fun e => hX ?_, fun e => hX ?_, X', us ++ a :: b :: Y, ?_⟩)
        · rw [h1, ← h3, e]; simp
        · rw [h1, ← h5, e]; simp
        · rw [h1, ← h3, ← h5]; simp
end

/-- On the way: the places that are left, what stands at them, the pairs that wait (place, next place, join, rank). -/
structure Way (J : Int → Int → Option (Int × Nat)) (want : List Int) (ps : List Nat) (f : Nat → Int) (W : Nat → Nat → Int → Nat → Prop) : Prop where
  sorted : ps.Pairwise (· < ·)
  goal : nf J (ps.map f) = want
  waits : ∀ X a b Y t r, ps = X ++ a :: b :: Y → J (f a) (f b) = some (t, r) → W a b t r

section
variable {J : Int → Int → Option (Int × Nat)} {want : List Int} {ps : List Nat} {f : Nat → Int} {W W' : Nat → Nat → Int → Nat → Prop}
theorem Way.done (h : Way J want ps f W) (hW : ∀ a b t r, ¬ W a b t r) : ps.map f = want := by
  rw [← h.goal]
  refine (nf_none (stepOf_none.2 fun i => ?_)).symm
  cases hc : cand J (ps.map f) i with
  | none => rfl
  | some p =>
    obtain ⟨X, a, b, Y, he, -, hJ⟩ := cand_places (t := p.1) (r := p.2) hc
    exact absurd (h.waits X a b Y _ _ he hJ) (hW _ _ _ _)
/-- What waits no more is no pair. -/
theorem Way.skip (h : Way J want ps f W) (hW : ∀ X a b Y t r, ps = X ++ a :: b :: Y → J (f a) (f b) = some (t, r) → W a b t r → W' a b t r) : Way J want ps f W' :=
  ⟨h.sorted, h.goal, fun X a b Y t r he hJ => hW X a b Y t r he hJ (h.waits X a b Y t r he hJ)⟩
/-- A pair that is ahead of all that wait is joined. -/
theorem Way.next {X Y : List Nat} {a b : Nat} {t : Int} {r : Nat} (h : Way J want (X ++ a :: b :: Y) f W) (hJ : J (f a) (f b) = some (t, r))
    (hm : ∀ a' b' t' r', W a' b' t' r' → r < r' ∨ (r = r' ∧ a ≤ a'))
    (hold : ∀ a' b' t' r', a' ≠ a → b' ≠ a → W a' b' t' r' → W' a' b' t' r')
    (hprev : ∀ X' p t' r', X = X' ++ [p] → J (f p) t = some (t', r') → W' p a t' r')
    (hnext : ∀ c Y' t' r', Y = c :: Y' → J t (f c) = some (t', r') → W' a c t' r') : Way J want (X ++ a :: Y) (put f a t) W' := by
  obtain ⟨hX, hY, -, -, -⟩ := apart h.sorted
  refine ⟨fewer h.sorted, ?_, fun X' a' b' Y' t' r' he hJ' => ?_⟩
  · have hl := least_place h.sorted hJ (fun X' a' b' Y' t' r' he hJ' => hm _ _ _ _ (h.waits X' a' b' Y' t' r' he hJ'))
    rw [put_row (b := b) hX hY, ← nf_step hl.step]
    exact h.goal
  · rcases pairs_after h.sorted he with ⟨rfl, h2⟩ | ⟨rfl, h2⟩ | ⟨h1, h2, X'', Y'', h3⟩
    · have hb : b' ≠ a' := fun e => hY (by rw [h2, e]; simp)
      rw [put_same, put_other hb] at hJ'
      exact hnext b' Y' t' r' h2 hJ'
    · have ha : a' ≠ b' := fun e => hX (by rw [h2, e]; simp)
      rw [put_same, put_other ha] at hJ'
      exact hprev X' a' t' r' h2 hJ'
    · rw [put_other h1, put_other h2] at hJ'
      exact hold _ _ _ _ h1 h2 (h.waits X'' a' b' Y'' t' r' h3 hJ')
end

/-- Neighbours stand in two rows of numbers: behind the last stands z, ahead of the first y. -/
structure Linked (ps : List Nat) (nx pv : List Int) (y z : Int) : Prop where
  nxt : ∀ (X : List Nat) (a b : Nat) (Y : List Nat), ps = X ++ a :: b :: Y → nx[a]? = some (b : Int)
  prv : ∀ (X : List Nat) (a b : Nat) (Y : List Nat), ps = X ++ a :: b :: Y → pv[b]? = some (a : Int)
  lst : ∀ (X : List Nat) (a : Nat), ps = X ++ [a] → nx[a]? = some z
  fst : ∀ (a : Nat) (Y : List Nat), ps = a :: Y → pv[a]? = some y

section
variable {nx pv : List Int} {y z : Int} {X Y : List Nat} {a b c : Nat}
theorem set_here {l : List Int} {i : Nat} {x u : Int} (h : l[i]? = some u) : (l.set i x)[i]? = some x := by
  have := (List.getElem?_eq_some_iff.1 h).1
  rw [List.getElem?_set_self this]
theorem set_there {l : List Int} {i j : Nat} {x : Int} (h : i ≠ j) : (l.set i x)[j]? = l[j]? := List.getElem?_set_ne h
theorem Linked.join (h : Linked (X ++ a :: b :: c :: Y) nx pv y z) (hs : (X ++ a :: b :: c :: Y).Pairwise (· < ·)) : Linked (X ++ a :: c :: Y) (nx.set a (c : Int)) (pv.set c (a : Int)) y z := by
  have hs2 := fewer hs
  obtain ⟨hX, hY, -, -, -⟩ := apart hs
  obtain ⟨-, -, hcX, hcY, hac⟩ := apart hs2
  have hna := h.nxt X a b (c :: Y) rfl
  have hpc := h.prv (X ++ [a]) b c Y (by simp)
  refine ⟨fun X' a' b' Y' he => ?_, fun X' a' b' Y' he => ?_, fun X' a' he => ?_, fun a' Y' he => ?_⟩
  · rcases pairs_after hs he with ⟨rfl, h2⟩ | ⟨rfl, h2⟩ | ⟨h1, h2, X'', Y'', h3⟩
    · injection h2 with h2 h3
      subst h2
      exact set_here hna
    · have ha : a' ≠ b' := fun e => hX (by rw [h2, e]; simp)
      rw [set_there (Ne.symm ha)]
      exact h.nxt X' a' b' (b :: c :: Y) (by rw [h2]; simp)
    · rw [set_there (Ne.symm h1)]
      exact h.nxt X'' a' b' Y'' h3
  · rcases pairs_after hs he with ⟨rfl, h2⟩ | ⟨rfl, h2⟩ | ⟨h1, h2, X'', Y'', h3⟩
    · injection h2 with h2 h3
      subst h2
      exact set_here hpc
    · rw [set_there (by omega)]
      exact h.prv X' a' b' (b :: c :: Y) (by rw [h2]; simp)
    · have hbc : b' ≠ c := fun e => by
        subst e
        -- the pair whose second place is c is that of b
        have e1 := h.prv X'' a' b' Y'' h3
        rw [hpc] at e1
        have e2 : a' = b := by injection e1 with e1; omega
        subst e2
        have hm : a' ∈ X ++ a :: b' :: Y := by rw [he]; simp
        obtain ⟨-, -, hbX, hbY, hab⟩ := apart hs
        rw [List.mem_append, List.mem_cons, List.mem_cons] at hm
        rcases hm with hm | hm | hm | hm
        · exact hbX hm
        · omega
        · exact hbY (by rw [hm]; simp)
        · exact hbY (by simp [hm])
      rw [set_there (Ne.symm hbc)]
      exact h.prv X'' a' b' Y'' h3
  · have ha : a' ≠ a := fun e => by
      subst e
      have h1 : (X ++ a' :: c :: Y).getLast? = some a' := by rw [he]; simp
      rw [List.getLast?_append, List.getLast?_cons_cons] at h1
      have h2 : a' ∈ c :: Y := by
        cases h3 : (c :: Y).getLast? with
        | none => simp at h3
        | some u =>
          rw [h3] at h1
          simp at h1
          subst h1
          exact List.mem_of_getLast? h3
      exact hY h2
    rw [set_there (Ne.symm ha)]
    have hl : (X ++ a :: b :: c :: Y).getLast? = some a' := by
      have h1 : (X ++ a :: c :: Y).getLast? = some a' := by rw [he]; simp
      rw [List.getLast?_append, List.getLast?_cons_cons] at h1
      rw [List.getLast?_append, List.getLast?_cons_cons, List.getLast?_cons_cons]
      exact h1
    obtain ⟨X'', hx⟩ := List.getLast?_eq_some_iff.1 hl
    exact h.lst X'' a' hx
  · cases X with
    | nil =>
      injection he with h1 h2
      subst h1
      rw [set_there (by omega)]
      exact h.fst a _ rfl
    | cons x X =>
      injection he with h1 h2
      subst h1
      have hc : x ≠ c := fun e => hcX (by rw [e]; simp)
      rw [set_there (Ne.symm hc)]
      exact h.fst x _ rfl
theorem Linked.join_last (h : Linked (X ++ [a, b]) nx pv y z) (hs : (X ++ [a, b]).Pairwise (· < ·)) : Linked (X ++ [a]) (nx.set a z) pv y z := by
  obtain ⟨hX, -, -, -, hab⟩ := apart hs
  have hna := h.nxt X a b [] rfl
  refine ⟨fun X' a' b' Y' he => ?_, fun X' a' b' Y' he => ?_, fun X' a' he => ?_, fun a' Y' he => ?_⟩
  · rcases pairs_after hs he with ⟨rfl, h2⟩ | ⟨rfl, h2⟩ | ⟨h1, h2, X'', Y'', h3⟩
    · cases h2
    · have ha : a' ≠ b' := fun e => hX (by rw [h2, e]; simp)
      rw [set_there (Ne.symm ha)]
      exact h.nxt X' a' b' [b] (by rw [h2]; simp)
    · rw [set_there (Ne.symm h1)]
      exact h.nxt X'' a' b' Y'' h3
  · rcases pairs_after hs he with ⟨rfl, h2⟩ | ⟨rfl, h2⟩ | ⟨h1, h2, X'', Y'', h3⟩
    · cases h2
    · exact h.prv X' a' b' [b] (by rw [h2]; simp)
    · exact h.prv X'' a' b' Y'' h3
  · have h1 := List.append_inj_right' he rfl
    injection h1 with h1
    subst h1
    exact set_here hna
  · cases X with
    | nil => injection he with h1 h2; subst h1; exact h.fst a _ rfl
    | cons x X => injection he with h1 h2; subst h1; exact h.fst x _ rfl
/-- The places of a row at its beginning. -/
theorem range_pair {n : Nat} (he : List.range n = X ++ a :: b :: Y) : a = X.length ∧ b = X.length + 1 ∧ X.length + 1 < n := by
  have hl := congrArg List.length he
  simp at hl
  have h1 : (List.range n)[X.length]? = some a := by rw [he]; simp
  have h2 : (List.range n)[X.length + 1]? = some b := by rw [he]; simp
  rw [List.getElem?_range (by omega)] at h1 h2
  exact ⟨(Option.some.inj h1).symm, (Option.some.inj h2).symm, by omega⟩
theorem Linked.start {n : Nat} (hn : ∀ i, i + 1 < n → nx[i]? = some ((i + 1 : Nat) : Int)) (hz : ∀ i, i + 1 = n → nx[i]? = some z) (hp : ∀ i, i + 1 < n → pv[i + 1]? = some (i : Int)) (hy : 0 < n → pv[0]? = some y) : Linked (List.range n) nx pv y z := by
  refine ⟨fun X a b Y he => ?_, fun X a b Y he => ?_, fun X a he => ?_, fun a Y he => ?_⟩
  · obtain ⟨rfl, rfl, h⟩ := range_pair he
    exact hn _ h
  · obtain ⟨rfl, rfl, h⟩ := range_pair he
    exact hp _ h
  · have hl := congrArg List.length he
    simp at hl
    have h1 : (List.range n)[X.length]? = some a := by rw [he]; simp
    rw [List.getElem?_range (by omega)] at h1
    rw [← Option.some.inj h1]
    exact hz _ hl.symm
  · have hl := congrArg List.length he
    simp at hl
    have h1 : (List.range n)[0]? = some a := by rw [he]; simp
    rw [List.getElem?_range (by omega)] at h1
    rw [← Option.some.inj h1]
    exact hy (by omega)
end
theorem range_sorted (n : Nat) : (List.range n).Pairwise (· < ·) := List.pairwise_lt_range
theorem range_row (l : List Int) (d : Int) : (List.range l.length).map (fun i => l.getD i d) = l := by
  refine List.ext_getElem? fun i => ?_
  rw [List.getElem?_map]
  rcases Nat.lt_or_ge i l.length with h | h
  · rw [List.getElem?_range h, List.getElem?_eq_getElem h]
    simp [List.getD, List.getElem?_eq_getElem h]
  · rw [List.getElem?_eq_none (by simpa using h), List.getElem?_eq_none h]
    rfl
theorem Way.start {J : Int → Int → Option (Int × Nat)} {l : List Int} {d : Int} {W : Nat → Nat → Int → Nat → Prop}
    (hW : ∀ i x u t r, l[i]? = some x → l[i + 1]? = some u → J x u = some (t, r) → W i (i + 1) t r) : Way J (nf J l) (List.range l.length) (fun i => l.getD i d) W := by
  refine ⟨range_sorted _, by rw [range_row], fun X a b Y t r he hJ => ?_⟩
  obtain ⟨rfl, rfl, h⟩ := range_pair he
  have h1 : l[X.length]? = some (l.getD X.length d) := by simp [List.getD, List.getElem?_eq_getElem (show X.length < l.length by omega)]
  have h2 : l[X.length + 1]? = some (l.getD (X.length + 1) d) := by simp [List.getD, List.getElem?_eq_getElem h]
  exact hW _ _ _ _ _ h1 h2 hJ
end Go.Proofs.Ytkialijipcbgkaa.Bp
namespace Go.Proofs.Ytkialijipcbgkaa.Bp
section
variable {α : Type} (rk : α → Nat) (pl : α → Int)
/-- The order of those that wait. -/
def ltW (x y : α) : Bool := decide (rk x < rk y ∨ (rk x = rk y ∧ pl x < pl y))
theorem ltW_iff {x y : α} : ltW rk pl x y = true ↔ rk x < rk y ∨ (rk x = rk y ∧ pl x < pl y) := by simp [ltW]
theorem ltW_no {x y : α} : ltW rk pl x y = false ↔ rk y < rk x ∨ (rk x = rk y ∧ pl y ≤ pl x) := by
  unfold ltW
  rw [decide_eq_false_iff_not]
  omega
theorem ltW_order : Qu.Order (ltW rk pl) where
  irr := fun a => (ltW_no rk pl).2 (.inr ⟨rfl, Int.le_refl _⟩)
  trans := fun a b c hab hbc => by rw [ltW_iff] at hab hbc ⊢; omega
  alike := fun a b c hab => by rw [ltW_iff] at hab; rw [ltW_iff, ltW_iff]; omega
/-- What goes out first is ahead of all that stay. -/
theorem first_least {x : α} {S : List α} (h : Qu.Row (ltW rk pl) (x :: S)) : ∀ e ∈ x :: S, rk x < rk e ∨ (rk x = rk e ∧ pl x ≤ pl e) := fun e he => by
  rcases List.mem_cons.1 he with rfl | he
  · exact .inr ⟨rfl, Int.le_refl _⟩
  · have := (ltW_no rk pl).1 (h.head e he)
    omega
end
theorem mem_ins {α : Type} {lt : α → α → Bool} {S : List α} {x e : α} : e ∈ Qu.ins lt S x ↔ e = x ∨ e ∈ S := by
  rw [(Qu.ins_perm S x).mem_iff, List.mem_cons]
end Go.Proofs.Ytkialijipcbgkaa.Bp
namespace Go.Proofs.Ytkialijipcbgkaa.Qu
/-- What a heap holds stands in the order in which it goes out. -/
theorem Held.row {α : Type} {lt : α → α → Bool} {A : List (α × Nat)} {S : List α} {m : Nat} (h : Held lt A S m) : Row lt S := by
  obtain ⟨I, -, hr, rfl, -⟩ := h
  unfold Row at hr ⊢
  rw [List.pairwise_map]
  exact hr.imp (fun {a b} hab => by
    cases hl : lt b.1 a.1 with
    | false => rfl
    | true =>
      have : ah lt b a = true := ah_iff.2 (.inl hl)
      rw [hab] at this
      cases this)
theorem Held.all {α : Type} {lt : α → α → Bool} {A : List (α × Nat)} {S : List α} {m : Nat} (h : Held lt A S m) {C : α → Prop} (hA : ∀ x ∈ A, C x.1) : ∀ x ∈ S, C x := by
  obtain ⟨I, hp, -, rfl, -⟩ := h
  intro x hx
  obtain ⟨y, hy, rfl⟩ := List.mem_map.1 hx
  exact hA y (hp.mem_iff.1 hy)
end Go.Proofs.Ytkialijipcbgkaa.Qu
