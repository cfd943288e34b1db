/-
  Plain mathematics of chapter 6 (deal): orders, steps, what is taken.
-/
import Derived.Test.YtggpldghdaggfaaEl
namespace Go.Proofs.Ytggpldghdaggfaa.Dl

/-- 0, 1, .. n - 1. -/
def ids (n : Nat) : List Int := (List.range n).map (fun i : Nat => (i : Int))
theorem ids_len (n : Nat) : (ids n).length = n := by simp [ids]
theorem ids_at {n i : Nat} (h : i < n) : (ids n)[i]? = some (i : Int) := by simp [ids, h]
theorem ids_succ (n : Nat) : ids (n + 1) = ids n ++ [(n : Int)] := by simp [ids, List.range_succ]
theorem ids_nodup (n : Nat) : (ids n).Nodup := by
  unfold ids
  exact List.Pairwise.map _ (fun a b h e => h (by exact_mod_cast e)) (List.nodup_range (n := n))
theorem mem_ids {n : Nat} {x : Int} : x ∈ ids n ↔ 0 ≤ x ∧ x < n := by
  simp only [ids, List.mem_map, List.mem_range]
  constructor
  · rintro ⟨i, hi, rfl⟩; omega
  · intro h; exact ⟨x.toNat, by omega, by omega⟩

def at' (p : List Int) (i : Nat) : Int := p.getD i 0
theorem at_of {p : List Int} {i : Nat} {x : Int} (h : p[i]? = some x) : at' p i = x := by simp [at', h]
theorem get_at {p : List Int} {i : Nat} (h : i < p.length) : p[i]? = some (at' p i) := by
  rw [at', List.getD_eq_getElem?_getD, List.getElem?_eq_getElem h]; rfl
/-- What stands at i and what stands at k change places. -/
def swap (p : List Int) (i k : Nat) : List Int := (p.set i (at' p k)).set k (at' p i)
theorem swap_len (p : List Int) (i k : Nat) : (swap p i k).length = p.length := by simp [swap]
theorem swap_at {p : List Int} {i k : Nat} (hi : i < p.length) (hk : k < p.length) (j : Nat) : (swap p i k)[j]? = if k = j then some (at' p i) else if i = j then some (at' p k) else p[j]? := by
  unfold swap
  rw [List.getElem?_set, List.getElem?_set, List.length_set, if_pos hi, if_pos hk]
theorem swap_perm {p : List Int} {i k : Nat} (hi : i < p.length) (hk : k < p.length) : (swap p i k).Perm p := by
  have h := List.set_set_perm hi hk
  have e1 : at' p k = p[k] := at_of (List.getElem?_eq_getElem hk)
  have e2 : at' p i = p[i] := at_of (List.getElem?_eq_getElem hi)
  unfold swap
  rw [e1, e2]
  exact h
theorem nodup_at {p : List Int} (h : p.Nodup) {i j : Nat} {x : Int} (hi : p[i]? = some x) (hj : p[j]? = some x) : i = j :=
  (List.getElem?_inj (List.getElem?_eq_some_iff.1 hi).1 h).1 (hi.trans hj.symm)
/-- Where x stands. -/
def pos (p : List Int) (x : Int) : Nat := p.idxOf x
theorem pos_lt {p : List Int} {x : Int} (h : x ∈ p) : pos p x < p.length := List.idxOf_lt_length_iff.2 h
theorem at_pos {p : List Int} {x : Int} (h : x ∈ p) : p[pos p x]? = some x := by
  rw [List.getElem?_eq_getElem (pos_lt h)]
  exact congrArg some (List.getElem_idxOf (pos_lt h))
theorem pos_at {p : List Int} (h : p.Nodup) {i : Nat} {x : Int} (hi : p[i]? = some x) : pos p x = i := nodup_at h (at_pos (List.mem_of_getElem? hi)) hi

/-! The order of steps. -/
/-- From place i down to 1, by the next step each. -/
def walk : Nat → List Int → List Int → List Int
  | 0, _, p => p
  | _ + 1, [], p => p
  | i + 1, x :: r, p => walk i r (swap p (i + 1) x.toNat)
def order (n : Nat) (steps : List Int) : List Int := walk (n - 1) steps (ids n)
/-- Steps for places from i down to 1. -/
def fits : Nat → List Int → Bool
  | 0, [] => true
  | i + 1, x :: r => decide (0 ≤ x) && decide (x ≤ (i : Int) + 1) && fits i r
  | _, _ => false
def may (n : Int) (steps : List Int) : Bool := fits (n - 1).toNat steps
def of (n : Int) (steps : List Int) : List Int × Nat :=
  if n < 0 then ([], 2) else if 65536 < n then ([], 3) else if may n steps = true then (order n.toNat steps, 0) else ([], 2)
theorem fits_len {i : Nat} {steps : List Int} (h : fits i steps = true) : steps.length = i := by
  induction i generalizing steps with
  | zero => cases steps with
    | nil => rfl
    | cons x r => simp [fits] at h
  | succ i ih => cases steps with
    | nil => simp [fits] at h
    | cons x r =>
      simp only [fits, Bool.and_eq_true] at h
      rw [List.length_cons, ih h.2]
theorem fits_cons {i : Nat} {x : Int} {r : List Int} (h : fits (i + 1) (x :: r) = true) : 0 ≤ x ∧ x ≤ (i : Int) + 1 ∧ fits i r = true := by
  simp only [fits, Bool.and_eq_true, decide_eq_true_eq] at h
  exact ⟨h.1.1, h.1.2, h.2⟩
theorem walk_len (i : Nat) (steps p : List Int) : (walk i steps p).length = p.length := by
  induction i generalizing steps p with
  | zero => rfl
  | succ i ih => cases steps with
    | nil => rfl
    | cons x r => rw [walk, ih, swap_len]
theorem walk_perm {i : Nat} {steps p : List Int} (h : fits i steps = true) (hi : i < p.length) : (walk i steps p).Perm p := by
  induction i generalizing steps p with
  | zero => exact List.Perm.refl _
  | succ i ih => cases steps with
    | nil => exact List.Perm.refl _
    | cons x r =>
      obtain ⟨h0, h1, h2⟩ := fits_cons h
      rw [walk]
      exact (ih h2 (by rw [swap_len]; omega)).trans (swap_perm hi (by omega))
theorem walk_above {i : Nat} {steps p : List Int} (h : fits i steps = true) (hi : i < p.length) {j : Nat} (hj : i < j) : (walk i steps p)[j]? = p[j]? := by
  induction i generalizing steps p with
  | zero => rfl
  | succ i ih => cases steps with
    | nil => rfl
    | cons x r =>
      obtain ⟨h0, h1, h2⟩ := fits_cons h
      rw [walk, ih h2 (by rw [swap_len]; omega) (by omega), swap_at hi (by omega), if_neg (by omega), if_neg (by omega)]

/-- The steps whose order it is: from place i down to 1. -/
def backs (p : List Int) : Nat → List Int → List Int
  | 0, _ => []
  | i + 1, now => (pos now (at' p (i + 1)) : Int) :: backs p i (swap now (i + 1) (pos now (at' p (i + 1))))
def back (p : List Int) : List Int := backs p (p.length - 1) (ids p.length)
theorem backs_len (p : List Int) (i : Nat) (now : List Int) : (backs p i now).length = i := by
  induction i generalizing now with
  | zero => rfl
  | succ i ih => rw [backs, List.length_cons, ih]
theorem eq_of_at {p q : List Int} (h : ∀ j : Nat, p[j]? = q[j]?) : p = q := List.ext_getElem? h
/-- Where the places above i are alike, the one below is not among them. -/
theorem pos_le {p now : List Int} (hn : now.Nodup) (hp : p.Perm now) {i : Nat} (hi : i < p.length) (ha : ∀ j, i < j → now[j]? = p[j]?) : pos now (at' p i) ≤ i ∧ now[pos now (at' p i)]? = some (at' p i) := by
  have h1 := get_at hi
  have hm : at' p i ∈ now := hp.mem_iff.1 (List.mem_of_getElem? h1)
  have h2 := at_pos hm
  refine ⟨?_, h2⟩
  rcases Nat.lt_or_ge i (pos now (at' p i)) with h | h
  · rw [ha _ h] at h2
    have := nodup_at (hp.nodup_iff.2 hn) h1 h2
    omega
  · exact h
theorem walk_backs {p : List Int} {i : Nat} : ∀ {now : List Int}, now.Nodup → p.Perm now → i < p.length → (∀ j, i < j → now[j]? = p[j]?) → walk i (backs p i now) now = p ∧ fits i (backs p i now) = true := by
  induction i with
  | zero =>
    intro now hn hp hi ha
    refine ⟨eq_of_at fun j => ?_, rfl⟩
    rcases Nat.eq_zero_or_pos j with rfl | h
    · obtain ⟨h1, h2⟩ := pos_le hn hp hi ha
      have e : pos now (at' p 0) = 0 := by omega
      rw [e] at h2
      rw [walk, h2, get_at hi]
    · rw [walk, ha j h]
  | succ i ih =>
    intro now hn hp hi ha
    obtain ⟨h1, h2⟩ := pos_le hn hp hi ha
    have hl : p.length = now.length := hp.length_eq
    have hs := swap_perm (p := now) (i := i + 1) (k := pos now (at' p (i + 1))) (by omega) (by omega)
    have h3 := ih (now := swap now (i + 1) (pos now (at' p (i + 1)))) (hs.nodup_iff.2 hn) (hp.trans hs.symm) (by omega) (by
      intro j hj
      rw [swap_at (by omega) (by omega)]
      by_cases e1 : pos now (at' p (i + 1)) = j
      · have e2 : j = i + 1 := by omega
        rw [if_pos e1, e2, at', List.getD_eq_getElem?_getD, ← e2, ← e1, h2]
        rw [e1, e2]
        exact (get_at hi).symm
      · rw [if_neg e1]
        by_cases e2 : i + 1 = j
        · rw [if_pos e2, ← e2, at_of h2]
          exact (get_at hi).symm
        · rw [if_neg e2]
          exact ha j (by omega))
    rw [backs, walk, Int.toNat_natCast]
    refine ⟨h3.1, ?_⟩
    simp only [fits, Bool.and_eq_true, decide_eq_true_eq]
    exact ⟨⟨by omega, by omega⟩, h3.2⟩
theorem backs_walk {i : Nat} : ∀ {steps now : List Int}, now.Nodup → i < now.length → fits i steps = true → backs (walk i steps now) i now = steps := by
  induction i with
  | zero =>
    intro steps now hn hi h
    rw [backs]
    exact (List.eq_nil_of_length_eq_zero (fits_len h)).symm
  | succ i ih =>
    intro steps now hn hi h
    cases steps with
    | nil => simp [fits] at h
    | cons x r =>
      obtain ⟨h0, h1, h2⟩ := fits_cons h
      have hx : x.toNat < now.length := by omega
      have hs := swap_perm (p := now) hi hx
      have e1 : (walk i r (swap now (i + 1) x.toNat))[i + 1]? = some (at' now x.toNat) := by
        rw [walk_above h2 (by rw [swap_len]; omega) (by omega), swap_at hi hx]
        by_cases e : x.toNat = i + 1
        · rw [if_pos e, e]
        · rw [if_neg e, if_pos rfl]
      have e2 : pos now (at' now x.toNat) = x.toNat := pos_at hn (get_at hx)
      rw [walk, backs, at_of e1, e2, ih (hs.nodup_iff.2 hn) (by rw [swap_len]; omega) h2]
      congr 1
      omega

/-- Whether these are the numbers from 0 on, each once. -/
def Ord (p : List Int) : Prop := (∀ x ∈ p, 0 ≤ x ∧ x < p.length) ∧ p.Nodup
instance (p : List Int) : Decidable (Ord p) := inferInstanceAs (Decidable (_ ∧ _))
def isOrd (p : List Int) : Bool := decide (p.length ≤ 65536) && decide (Ord p)
theorem ord_perm {p : List Int} : Ord p ↔ p.Perm (ids p.length) := by
  constructor
  · rintro ⟨h1, h2⟩
    refine (List.perm_ext_iff_of_nodup h2 (ids_nodup _)).2 fun x => ⟨fun hx => mem_ids.2 (h1 x hx), fun hx => ?_⟩
    by_cases hm : x ∈ p
    · exact hm
    · have := List.Nodup.length_le_of_subset (l₁ := x :: p) (l₂ := ids p.length) (List.nodup_cons.2 ⟨hm, h2⟩) (by
        intro y hy
        rcases List.mem_cons.1 hy with rfl | hy
        · exact hx
        · exact mem_ids.2 (h1 y hy))
      rw [ids_len, List.length_cons] at this
      omega
  · intro h
    exact ⟨fun x hx => mem_ids.1 (h.mem_iff.1 hx), h.nodup_iff.2 (ids_nodup _)⟩
theorem order_back {p : List Int} (h : Ord p) : order p.length (back p) = p ∧ may p.length (back p) = true := by
  by_cases h0 : p.length = 0
  · obtain rfl : p = [] := List.eq_nil_of_length_eq_zero h0
    exact ⟨by simp [order, back, walk, ids], by simp [may, back, backs, fits]⟩
  · have := walk_backs (i := p.length - 1) (ids_nodup p.length) (ord_perm.1 h) (by omega) (by
      intro j hj
      rw [List.getElem?_eq_none (by rw [ids_len]; omega), List.getElem?_eq_none (by omega)])
    unfold may
    rw [show ((p.length : Int) - 1).toNat = p.length - 1 by omega]
    exact this
theorem order_len (n : Nat) (steps : List Int) : (order n steps).length = n := by unfold order; rw [walk_len, ids_len]
theorem order_ord {n : Nat} {steps : List Int} (h : may n steps = true) : Ord (order n steps) := by
  rw [ord_perm, order_len]
  unfold may at h
  rw [show ((n : Int) - 1).toNat = n - 1 by omega] at h
  by_cases h0 : n = 0
  · subst h0; exact List.Perm.refl _
  · exact walk_perm h (by rw [ids_len]; omega)
theorem back_order {n : Nat} {steps : List Int} (h : may n steps = true) : back (order n steps) = steps := by
  unfold may at h
  rw [show ((n : Int) - 1).toNat = n - 1 by omega] at h
  unfold back
  rw [order_len]
  by_cases h0 : n = 0
  · subst h0
    exact (List.eq_nil_of_length_eq_zero (fits_len h)).symm
  · exact backs_walk (ids_nodup n) (by rw [ids_len]; omega) h

/-- The error of what is no order. -/
def why (p : List Int) : Nat := if 65536 < p.length then 3 else if Ord p then 0 else 2
def backE (p : List Int) : List Int × Nat := if why p = 0 then (back p, 0) else ([], why p)
/-- At each number's place where it stands. -/
def turn (p : List Int) : List Int := (List.range p.length).map (fun i : Nat => ((pos p (i : Int) : Nat) : Int))
def turnE (p : List Int) : List Int × Nat := if why p = 0 then (turn p, 0) else ([], why p)
theorem why_zero {p : List Int} : why p = 0 ↔ p.length ≤ 65536 ∧ Ord p := by
  unfold why
  by_cases h1 : 65536 < p.length
  · rw [if_pos h1]; constructor
    · intro h; cases h
    · intro h; omega
  · rw [if_neg h1]
    by_cases h2 : Ord p
    · rw [if_pos h2]; exact ⟨fun _ => ⟨by omega, h2⟩, fun _ => rfl⟩
    · rw [if_neg h2]; exact ⟨fun h => (by cases h), fun h => absurd h.2 h2⟩
theorem isOrd_why (p : List Int) : isOrd p = decide (why p = 0) := by
  unfold isOrd
  by_cases h : why p = 0
  · rw [decide_eq_true h]
    have := why_zero.1 h
    simp [this]
  · rw [decide_eq_false h]
    have := fun a => h (why_zero.2 a)
    simp only [Bool.and_eq_false_iff, decide_eq_false_iff_not]
    by_cases h1 : p.length ≤ 65536
    · exact .inr fun h2 => this ⟨h1, h2⟩
    · exact .inl h1
theorem turn_len (p : List Int) : (turn p).length = p.length := by simp [turn]
theorem turn_at {p : List Int} {i : Nat} (h : i < p.length) : (turn p)[i]? = some (pos p (i : Int) : Int) := by simp [turn, h]
theorem ord_mem {p : List Int} (h : Ord p) {i : Nat} (hi : i < p.length) : (i : Int) ∈ p := (ord_perm.1 h).mem_iff.2 (mem_ids.2 ⟨by omega, by omega⟩)
theorem turn_ord {p : List Int} (h : Ord p) : Ord (turn p) := by
  refine ⟨fun x hx => ?_, ?_⟩
  · rw [turn_len]
    simp only [turn, List.mem_map, List.mem_range] at hx
    obtain ⟨i, hi, rfl⟩ := hx
    have := pos_lt (ord_mem h hi)
    omega
  · refine List.pairwise_iff_getElem.2 fun i j hi hj hij e => ?_
    rw [turn_len] at hi hj
    have e1 := List.getElem?_eq_getElem (l := turn p) (i := i) (by rw [turn_len]; exact hi)
    have e2 := List.getElem?_eq_getElem (l := turn p) (i := j) (by rw [turn_len]; exact hj)
    rw [turn_at hi] at e1
    rw [turn_at hj] at e2
    have e3 : pos p (i : Int) = pos p (j : Int) := by
      rw [← e, ← e1] at e2
      have := Option.some.inj e2
      omega
    have h1 := at_pos (ord_mem h hi)
    have h2 := at_pos (ord_mem h hj)
    rw [e3, h2] at h1
    have := Option.some.inj h1
    omega

/-! What is taken by an order. -/
def takes (p : List Int) (l : List Nat) : List Nat := p.map (fun x => l.getD x.toNat 0)
def takeE (p : List Int) (l : List Nat) : List Nat × Nat := if why p = 0 then (if l.length = p.length then (takes p l, 0) else ([], 2)) else ([], why p)
theorem takes_len (p : List Int) (l : List Nat) : (takes p l).length = p.length := by simp [takes]
theorem takes_at {p : List Int} {l : List Nat} {i : Nat} {x : Int} (h : p[i]? = some x) : (takes p l)[i]? = some (l.getD x.toNat 0) := by simp [takes, h]
theorem takes_turn {p : List Int} (h : Ord p) {l : List Nat} (hl : l.length = p.length) : takes (turn p) (takes p l) = l := by
  refine List.ext_getElem? fun i => ?_
  by_cases hi : i < p.length
  · have h1 := at_pos (ord_mem h hi)
    rw [takes_at (turn_at hi), Int.toNat_natCast, List.getD_eq_getElem?_getD, takes_at h1, Int.toNat_natCast, List.getD_eq_getElem?_getD, List.getElem?_eq_getElem (l := l) (by omega)]
    rfl
  · rw [List.getElem?_eq_none (by rw [takes_len, turn_len]; omega), List.getElem?_eq_none (by omega)]
/-- The order that has at each place what p has at q's. -/
def both (p q : List Int) : List Int := q.map (fun x => at' p x.toNat)
theorem both_len (p q : List Int) : (both p q).length = q.length := by simp [both]
theorem ord_get {p : List Int} (h : Ord p) {i : Nat} (hi : i < p.length) : 0 ≤ at' p i ∧ at' p i < p.length := h.1 _ (List.mem_of_getElem? (get_at hi))
theorem both_at {p q : List Int} {i : Nat} (hi : i < q.length) : (both p q)[i]? = some (at' p (at' q i).toNat) := by simp [both, get_at hi]
theorem both_ord {p q : List Int} (hp : Ord p) (hq : Ord q) (h : q.length = p.length) : Ord (both p q) := by
  refine ⟨fun x hx => ?_, ?_⟩
  · rw [both_len, h]
    simp only [both, List.mem_map] at hx
    obtain ⟨y, hy, rfl⟩ := hx
    have := hq.1 y hy
    exact ord_get hp (by omega)
  · refine List.pairwise_iff_getElem.2 fun i j hi hj hij e => ?_
    rw [both_len] at hi hj
    have e1 := List.getElem?_eq_getElem (l := both p q) (i := i) (by rw [both_len]; exact hi)
    have e2 := List.getElem?_eq_getElem (l := both p q) (i := j) (by rw [both_len]; exact hj)
    rw [both_at hi] at e1
    rw [both_at hj] at e2
    have e3 : at' p (at' q i).toNat = at' p (at' q j).toNat := by
      rw [← e, ← e1] at e2
      exact (Option.some.inj e2).symm
    have b1 := ord_get hq hi
    have b2 := ord_get hq hj
    have g1 := get_at (p := p) (i := (at' q i).toNat) (by omega)
    have g2 := get_at (p := p) (i := (at' q j).toNat) (by omega)
    rw [e3] at g1
    have e4 := nodup_at hp.2 g1 g2
    have g3 := get_at hi
    have e5 : at' q i = at' q j := by omega
    rw [e5] at g3
    have := nodup_at hq.2 g3 (get_at hj)
    omega
theorem takes_both {p q : List Int} (hq : Ord q) (h : q.length = p.length) (l : List Nat) : takes (both p q) l = takes q (takes p l) := by
  refine List.ext_getElem? fun i => ?_
  by_cases hi : i < q.length
  · have b := ord_get hq hi
    rw [takes_at (both_at hi), takes_at (get_at hi), List.getD_eq_getElem?_getD (l := takes p l), takes_at (get_at (by omega))]
    rfl
  · rw [List.getElem?_eq_none (by rw [takes_len, both_len]; omega), List.getElem?_eq_none (by rw [takes_len]; omega)]
end Go.Proofs.Ytggpldghdaggfaa.Dl
