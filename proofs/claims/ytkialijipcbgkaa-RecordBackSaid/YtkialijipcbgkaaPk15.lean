/-
  BqMath: Plain mathematics of a row while its pairs are joined: what stands at the places, what waits; a pair that waits no more is passed over, the first of those that wait is joined.
  QuSpec: Words for queues: what an order's function answers, what a queue holds. (The queue's own memory is told by the program's side: IsQ.)
  SetL: Own lists of elements of several cells: an element set whole, the list made shorter.
  QuHasP: The program's queue of stook/bpe.pair: what its memory holds; made, Len; which of two entries is ahead.
-/
import Derived.Test.YtkialijipcbgkaaPk06
import Derived.Test.YtkialijipcbgkaaPk14
import Derived.Test.YtkialijipcbgkaaPk03
import Derived.Test.YtkialijipcbgkaaPk08
import Derived.Test.YtkialijipcbgkaaPk01
import Derived.Test.YtkialijipcbgkaaPk02
import Derived.BigRegion
import Derived.StillTailTactics
namespace Go.Proofs.Ytkialijipcbgkaa.Bp
set_option linter.unusedVariables false

/-- What is known of the joins: a join is greater than what it joins; of one rank there is one pair. -/
structure Grows (J : Int → Int → Option (Int × Nat)) : Prop where
  up : ∀ {x y t : Int} {r : Nat}, J x y = some (t, r) → 0 ≤ x ∧ x < t ∧ 0 ≤ y ∧ y < t
  inj : ∀ {x y x' y' t t' : Int} {r : Nat}, J x y = some (t, r) → J x' y' = some (t', r) → x = x' ∧ y = y'

/-- The order in which pairs are joined. -/
def ltP : Pr → Pr → Bool := ltW Pr.f6 Pr.f3
theorem ltP_order : Qu.Order ltP := ltW_order _ _
/-- What stands at a place. -/
def at_ (T : List Int) (p : Nat) : Int := T.getD p (-1)
theorem at_of {T : List Int} {p : Nat} {x : Int} (h : T[p]? = some x) : at_ T p = x := by unfold at_; rw [List.getD_eq_getElem?_getD, h]; rfl
theorem of_at {T : List Int} {p : Nat} (h : p < T.length) : T[p]? = some (at_ T p) := by
  unfold at_
  rw [List.getD_eq_getElem?_getD, List.getElem?_eq_getElem h]
  rfl
theorem at_set {T : List Int} {a p : Nat} {t : Int} (h : a < T.length) : at_ (T.set a t) p = if p = a then t else at_ T p := by
  unfold at_
  rw [List.getD_eq_getElem?_getD, List.getD_eq_getElem?_getD]
  by_cases e : p = a
  · subst e
    rw [if_pos rfl, List.getElem?_set_self h]
    rfl
  · rw [if_neg e, List.getElem?_set_ne (Ne.symm e)]
/-- Two places come to wait, if what stands there can be joined. -/
def waitS (J : Int → Int → Option (Int × Nat)) (T : List Int) (S : List Pr) (a b : Nat) : List Pr :=
  match J (at_ T a) (at_ T b) with
  | some (t, r) => Qu.ins ltP S ⟨at_ T a, at_ T b, a, b, t, r⟩
  | none => S
theorem waitS_some {J : Int → Int → Option (Int × Nat)} {T : List Int} {S : List Pr} {a b : Nat} {t : Int} {r : Nat} (h : J (at_ T a) (at_ T b) = some (t, r)) : waitS J T S a b = Qu.ins ltP S ⟨at_ T a, at_ T b, a, b, t, r⟩ := by
  unfold waitS
  rw [h]
theorem waitS_none {J : Int → Int → Option (Int × Nat)} {T : List Int} {S : List Pr} {a b : Nat} (h : J (at_ T a) (at_ T b) = none) : waitS J T S a b = S := by
  unfold waitS
  rw [h]
theorem mem_waitS {J : Int → Int → Option (Int × Nat)} {T : List Int} {S : List Pr} {a b : Nat} {e : Pr} : e ∈ waitS J T S a b ↔ e ∈ S ∨ ∃ t r, J (at_ T a) (at_ T b) = some (t, r) ∧ e = ⟨at_ T a, at_ T b, a, b, t, r⟩ := by
  cases h : J (at_ T a) (at_ T b) with
  | none =>
    rw [waitS_none h]
    exact ⟨.inl, fun h => h.elim id (fun ⟨t, r, h2, _⟩ => by cases h2)⟩
  | some q =>
    obtain ⟨t, r⟩ := q
    rw [waitS_some h, mem_ins]
    constructor
    · rintro (rfl | h2)
      · exact .inr ⟨t, r, rfl, rfl⟩
      · exact .inl h2
    · rintro (h2 | ⟨t', r', h2, rfl⟩)
      · exact .inr h2
      · cases h2
        exact .inl rfl

/-- A pair that waits: once it stood side by side; if what stands there is the same still, it does. -/
def Ent (J : Int → Int → Option (Int × Nat)) (n : Nat) (T : List Int) (ps : List Nat) (e : Pr) : Prop :=
  ∃ a b : Nat, e.f3 = (a : Int) ∧ e.f4 = (b : Int) ∧ a ≤ n + 1 ∧ b ≤ n + 1 ∧ J e.f1 e.f2 = some (e.f5, e.f6) ∧ (at_ T a = e.f1 → at_ T b = e.f2 → ∃ X Y, ps = X ++ a :: b :: Y) ∧ (e.f1 ≤ at_ T a ∨ at_ T a = -1) ∧ (e.f2 ≤ at_ T b ∨ at_ T b = -1)
/-- A row on its way: n tokens it began with; ps: the places that are left; T: what stands at the places; A, N: the places ahead and behind; S: what waits. -/
structure St (J : Int → Int → Option (Int × Nat)) (n : Nat) (T A N : List Int) (S : List Pr) (ps : List Nat) : Prop where
  sorted : ps.Pairwise (· < ·)
  within : ∀ p ∈ ps, 0 < p ∧ p ≤ n
  len : n + 1 < T.length
  linked : Linked (0 :: (ps ++ [n + 1])) N A 0 0
  tok : ∀ p ∈ ps, 0 ≤ at_ T p
  gone : ∀ p, p ≤ n + 1 → p ∉ ps → at_ T p = -1
  waits : ∀ X a b Y t r, ps = X ++ a :: b :: Y → J (at_ T a) (at_ T b) = some (t, r) → ∃ e ∈ S, e.f3 = (a : Int) ∧ e.f4 = (b : Int) ∧ e.f5 = t ∧ e.f6 = r
  good : ∀ e ∈ S, Ent J n T ps e

section
variable {J : Int → Int → Option (Int × Nat)} {n : Nat} {T A N : List Int} {S : List Pr} {ps : List Nat} {e : Pr}
/-- Two that stand side by side do so when others are joined. -/
theorem kept {X Y X' Y' : List Nat} {a b a' b' : Nat} (he : X ++ a :: b :: Y = X' ++ a' :: b' :: Y') (h1 : a' ≠ a) (h2 : a' ≠ b) (h3 : b' ≠ a) (h4 : b' ≠ b) : ∃ X'' Y'', X ++ a :: Y = X'' ++ a' :: b' :: Y'' := by
  rcases List.append_eq_append_iff.1 he with ⟨bs, e1, e2⟩ | ⟨us, e1, e2⟩
  · cases bs with
    | nil => injection e2 with e2; exact absurd e2.symm h1
    | cons c bs =>
      injection e2 with e2 e3
      cases bs with
      | nil => injection e3 with e3; exact absurd e3.symm h2
      | cons d bs =>
        injection e3 with e3 e4
        exact ⟨X ++ a :: bs, Y', by rw [e4]; simp⟩
  · cases us with
    | nil => injection e2 with e2; exact absurd e2 h1
    | cons c us =>
      injection e2 with e2 e3
      cases us with
      | nil => injection e3 with e3; exact absurd e3 h3
      | cons d us =>
        injection e3 with e3 e4
        exact ⟨X', us ++ a :: Y, by rw [e1, ← e2, ← e3]; simp⟩
theorem full_sorted (hs : ps.Pairwise (· < ·)) (hw : ∀ p ∈ ps, 0 < p ∧ p ≤ n) : (0 :: (ps ++ [n + 1])).Pairwise (· < ·) := by
  refine List.pairwise_cons.2 ⟨fun p hp => ?_, List.pairwise_append.2 ⟨hs, List.pairwise_singleton _ _, fun p hp q hq => ?_⟩⟩
  · rcases List.mem_append.1 hp with h | h
    · exact (hw p h).1
    · rw [List.mem_singleton.1 h]; omega
  · rw [List.mem_singleton.1 hq]
    have := (hw p hp).2
    omega
/-- Nothing waits: no pair can be joined. -/
theorem St.none_ (h : St J n T A N [] ps) : stepOf J (ps.map (at_ T)) = none := by
  refine stepOf_none.2 fun i => ?_
  cases hc : cand J (ps.map (at_ T)) i with
  | none => rfl
  | some q =>
    obtain ⟨X, a, b, Y, he, -, hJ⟩ := cand_places (t := q.1) (r := q.2) hc
    obtain ⟨e, hm, -⟩ := h.waits X a b Y _ _ he hJ
    cases hm
/-- What has changed is passed over. -/
theorem St.miss (hJ : Grows J) (h : St J n T A N (e :: S) ps) {a b : Nat} (ha : e.f3 = (a : Int)) (hb : e.f4 = (b : Int)) (hn : ¬ (at_ T a = e.f1 ∧ at_ T b = e.f2)) : St J n T A N S ps := by
  refine ⟨h.sorted, h.within, h.len, h.linked, h.tok, h.gone, fun X a' b' Y t r he hj => ?_, fun e' he' => h.good e' (List.mem_cons_of_mem _ he')⟩
  obtain ⟨e', hm, h1, h2, h3, h4⟩ := h.waits X a' b' Y t r he hj
  rcases List.mem_cons.1 hm with rfl | hm
  · exfalso
    obtain ⟨a'', b'', g1, g2, -, -, g3, -⟩ := h.good e' (List.mem_cons_self ..)
    obtain rfl : a' = a := by omega
    obtain rfl : b' = b := by omega
    rw [h3, h4] at g3
    obtain ⟨e1, e2⟩ := hJ.inj hj g3
    exact hn ⟨e1, e2⟩
  · exact ⟨e', hm, h1, h2, h3, h4⟩
/-- The first of those that wait is joined. -/
theorem St.hit (hJ : Grows J) (h : St J n T A N (e :: S) ps) (ho : Qu.Row ltP (e :: S)) {a b : Nat} (ha : e.f3 = (a : Int)) (hb : e.f4 = (b : Int)) (h1 : at_ T a = e.f1) (h2 : at_ T b = e.f2) :
    ∃ c p : Nat, a ≤ n ∧ b ≤ n ∧ c ≤ n + 1 ∧ p ≤ n ∧ N[b]? = some (c : Int) ∧ (A.set c (a : Int))[a]? = some (p : Int) ∧ (N.set a (c : Int))[p]? = some (a : Int) ∧ (N.set a (c : Int))[a]? = some (c : Int) ∧ c < A.length ∧ a < N.length ∧
      ∃ ps', stepOf J (ps.map (at_ T)) = some (ps'.map (at_ ((T.set a e.f5).set b (-1)))) ∧ ps'.length + 1 = ps.length ∧
        St J n ((T.set a e.f5).set b (-1)) (A.set c (a : Int)) (N.set a (c : Int)) (waitS J ((T.set a e.f5).set b (-1)) (waitS J ((T.set a e.f5).set b (-1)) S p a) a c) ps' := by
  obtain ⟨t, ht⟩ : ∃ t, e.f5 = t := ⟨_, rfl⟩
  obtain ⟨a0, b0, g1, g2, -, -, hj, g3, -⟩ := h.good e (List.mem_cons_self ..)
  obtain rfl : a0 = a := by omega
  obtain rfl : b0 = b := by omega
  obtain ⟨X, Y, rfl⟩ := g3 h1 h2
  rw [ht] at hj ⊢
  obtain ⟨hX, hY, hbX, hbY, hab⟩ := apart h.sorted
  obtain ⟨hu1, hu2, hu3, hu4⟩ := hJ.up hj
  have haW := h.within a0 (by simp)
  have hbW := h.within b0 (by simp)
  have hlen := h.len
  have hjT : J (at_ T a0) (at_ T b0) = some (t, e.f6) := by rw [h1, h2]; exact hj
  -- what stands at the places then
  have hT : ∀ p, at_ ((T.set a0 t).set b0 (-1)) p = if p = b0 then -1 else if p = a0 then t else at_ T p := fun p => by
    rw [at_set (by rw [List.length_set]; omega), at_set (by omega)]
  obtain ⟨T', hT'⟩ : ∃ T', (T.set a0 t).set b0 (-1) = T' := ⟨_, rfl⟩
  rw [hT'] at hT ⊢
  have hTa : at_ T' a0 = t := by rw [hT, if_neg (by omega), if_pos rfl]
  have hTb : at_ T' b0 = -1 := by rw [hT, if_pos rfl]
  have hTo : ∀ p, p ≠ a0 → p ≠ b0 → at_ T' p = at_ T p := fun p q1 q2 => by rw [hT, if_neg q2, if_neg q1]
  have hlenT : n + 1 < T'.length := by rw [← hT', List.length_set, List.length_set]; exact hlen
  -- its neighbours
  obtain ⟨c, Z, hc⟩ : ∃ c Z, Y ++ [n + 1] = c :: Z := by
    cases Y with
    | nil => exact ⟨_, _, rfl⟩
    | cons c Y => exact ⟨c, Y ++ [n + 1], rfl⟩
  obtain ⟨W, p, hp⟩ : ∃ W p, 0 :: X = W ++ [p] := ⟨(0 :: X).dropLast, (0 :: X).getLast (by simp), (List.dropLast_concat_getLast (by simp)).symm⟩
  have hL : 0 :: ((X ++ a0 :: b0 :: Y) ++ [n + 1]) = (W ++ [p]) ++ a0 :: b0 :: c :: Z := by
    rw [← hp, ← hc]; simp
  have hL2 : 0 :: ((X ++ a0 :: Y) ++ [n + 1]) = (W ++ [p]) ++ a0 :: c :: Z := by
    rw [← hp, ← hc]; simp
  have hfs := full_sorted h.sorted h.within
  have hlk := h.linked
  rw [hL] at hfs hlk
  have hlk2 := hlk.join hfs
  have hnb := hlk.nxt (W ++ [p] ++ [a0]) b0 c Z (by simp)
  have hpa := hlk2.prv W p a0 (c :: Z) (by simp)
  have hnp := hlk2.nxt W p a0 (c :: Z) (by simp)
  have hna := hlk2.nxt (W ++ [p]) a0 c Z (by simp)
  have hAc := hlk2.prv (W ++ [p]) a0 c Z (by simp)
  have hcY : c ∈ Y ∨ c = n + 1 := by
    have : c ∈ Y ++ [n + 1] := by rw [hc]; simp
    simpa using this
  have hcn : c ≤ n + 1 := by
    rcases hcY with h | h
    · have := (‹St J n T A N (e :: S) _›).within c (by simp [h])
      omega
    · omega
  have hpX : p ∈ X ∨ p = 0 := by
    have : p ∈ 0 :: X := by rw [hp]; simp
    rcases List.mem_cons.1 this with h | h
    · exact .inr h
    · exact .inl h
  have hpn : p ≤ n := by
    rcases hpX with h | h
    · have := (‹St J n T A N (e :: S) _›).within p (by simp [h])
      omega
    · omega
  have hca : c ≠ a0 := fun e1 => by
    rcases hcY with h | h
    · exact hY (e1 ▸ h)
    · omega
  have hcb : c ≠ b0 := fun e1 => by
    rcases hcY with h | h
    · exact hbY (e1 ▸ h)
    · omega
  have hpa' : p ≠ a0 := fun e1 => by
    rcases hpX with h | h
    · exact hX (e1 ▸ h)
    · omega
  have hpb : p ≠ b0 := fun e1 => by
    rcases hpX with h | h
    · exact hbX (e1 ▸ h)
    · omega
  have hA0 : A[c]? ≠ none := fun e1 => by
    have := hlk.prv (W ++ [p] ++ [a0]) b0 c Z (by simp)
    rw [e1] at this
    cases this
  have hcA : c < A.length := by
    apply Decidable.byContradiction
    intro hge
    exact hA0 (List.getElem?_eq_none (by omega))
  have haN : a0 < N.length := by
    have := hlk.nxt (W ++ [p]) a0 b0 (c :: Z) (by simp)
    exact (List.getElem?_eq_some_iff.1 this).1
  have hbps : b0 ∉ X ++ a0 :: Y := by
    intro hm
    rcases List.mem_append.1 hm with h | h
    · exact hbX h
    · rcases List.mem_cons.1 h with h | h
      · omega
      · exact hbY h
  have hsame : (X ++ a0 :: Y).map (at_ T') = (X ++ a0 :: Y).map (put (at_ T) a0 t) := by
    refine List.map_congr_left fun q hq => ?_
    rw [hT, if_neg (fun e1 : q = b0 => hbps (e1 ▸ hq))]
    rfl
  have hleast : Least J ((X ++ a0 :: b0 :: Y).map (at_ T)) X.length t e.f6 := by
    refine least_place h.sorted hjT fun X' a' b' Y' t' r' he' hj' => ?_
    obtain ⟨e', hm, q1, q2, q3, q4⟩ := h.waits X' a' b' Y' t' r' he' hj'
    have := first_least Pr.f6 Pr.f3 ho e' hm
    rw [q1, q4, ha] at this
    omega
  refine ⟨c, p, haW.2, hbW.2, hcn, hpn, hnb, hpa, hnp, hna, hcA, haN, X ++ a0 :: Y, ?_, by simp; omega, ?_⟩
  · rw [hleast.step, hsame, put_row (b := b0) hX hY]
  refine ⟨fewer h.sorted, fun q hq => h.within q ?_, hlenT, ?_, fun q hq => ?_, fun q hq hqn => ?_, fun X' a' b' Y' t' r' he' hj' => ?_, fun e' he' => ?_⟩
  · rcases List.mem_append.1 hq with h | h
    · simp [h]
    · rcases List.mem_cons.1 h with h | h <;> simp [h]
  · rw [hL2]; exact hlk2
  · rw [hT, if_neg (fun e1 : q = b0 => hbps (e1 ▸ hq))]
    split
    · omega
    · refine h.tok q ?_
      rcases List.mem_append.1 hq with h | h
      · simp [h]
      · rcases List.mem_cons.1 h with h | h <;> simp [h]
  · rw [hT]
    split
    · rfl
    · rename_i hqb
      rw [if_neg (fun e1 : q = a0 => hqn (by simp [e1]))]
      refine h.gone q hq fun hm => hqn ?_
      rcases List.mem_append.1 hm with h | h
      · simp [h]
      · rcases List.mem_cons.1 h with h | h
        · simp [h]
        · rcases List.mem_cons.1 h with h | h
          · exact absurd h hqb
          · simp [h]
  · rcases pairs_after h.sorted he' with ⟨rfl, q2⟩ | ⟨rfl, q2⟩ | ⟨q1, q2, X'', Y'', q3⟩
    · obtain rfl : c = b' := by rw [q2] at hc; injection hc with hc; exact hc.symm
      exact ⟨_, mem_waitS.2 (.inr ⟨t', r', hj', rfl⟩), rfl, rfl, rfl, rfl⟩
    · obtain rfl : p = a' := by
        rw [q2, ← List.cons_append] at hp
        have := List.append_inj_right' hp rfl
        injection this with this
        exact this.symm
      exact ⟨_, mem_waitS.2 (.inl (mem_waitS.2 (.inr ⟨t', r', hj', rfl⟩))), rfl, rfl, rfl, rfl⟩
    · have hma : a' ∈ X ++ a0 :: Y := by rw [he']; simp
      have hmb : b' ∈ X ++ a0 :: Y := by rw [he']; simp
      rw [hTo a' q1 (fun e1 => hbps (e1 ▸ hma)), hTo b' q2 (fun e1 => hbps (e1 ▸ hmb))] at hj'
      obtain ⟨e', hm, r1, r2, r3, r4⟩ := h.waits X'' a' b' Y'' t' r' q3 hj'
      rcases List.mem_cons.1 hm with rfl | hm
      · exfalso; omega
      · exact ⟨e', mem_waitS.2 (.inl (mem_waitS.2 (.inl hm))), r1, r2, r3, r4⟩
  · rcases mem_waitS.1 he' with he' | ⟨t', r', hj', rfl⟩
    · rcases mem_waitS.1 he' with he' | ⟨t', r', hj', rfl⟩
      · obtain ⟨a', b', r1, r2, r3, r4, r5, r6, r7, r8⟩ := h.good e' (List.mem_cons_of_mem _ he')
        obtain ⟨v1, v2, v3, v4⟩ := hJ.up r5
        refine ⟨a', b', r1, r2, r3, r4, r5, fun s1 s2 => ?_, ?_, ?_⟩
        · have n1 : a' ≠ b0 := fun e1 => by rw [e1, hTb] at s1; omega
          have n2 : b' ≠ b0 := fun e1 => by rw [e1, hTb] at s2; omega
          have n3 : a' ≠ a0 := fun e1 => by
            subst e1
            rw [hTa] at s1
            rw [h1] at r7
            omega
          have n4 : b' ≠ a0 := fun e1 => by
            subst e1
            rw [hTa] at s2
            rw [h1] at r8
            omega
          rw [hTo a' n3 n1] at s1
          rw [hTo b' n4 n2] at s2
          obtain ⟨X', Y', q⟩ := r6 s1 s2
          exact kept q n3 n1 n4 n2
        · rw [hT]
          split
          · exact .inr rfl
          · split
            · rename_i _ e1
              rw [e1, h1] at r7
              omega
            · exact r7
        · rw [hT]
          split
          · exact .inr rfl
          · split
            · rename_i _ e1
              rw [e1, h1] at r8
              omega
            · exact r8
      · refine ⟨p, a0, rfl, rfl, by omega, by omega, hj', fun _ _ => ?_, .inl (Int.le_refl _), .inl (Int.le_refl _)⟩
        have hp0 : p ≠ 0 := fun e1 => by
          have := (hJ.up hj').1
          rw [hTo p hpa' hpb, e1, h.gone 0 (by omega) (fun hm => by have := h.within 0 hm; omega)] at this
          omega
        cases W with
        | nil =>
          injection hp with hp
          exact absurd hp.symm hp0
        | cons w0 W =>
          injection hp with hp hp2
          exact ⟨W, Y, by rw [hp2]; simp⟩
    · refine ⟨a0, c, rfl, rfl, by omega, hcn, hj', fun _ _ => ?_, .inl (Int.le_refl _), .inl (Int.le_refl _)⟩
      rcases hcY with hm | hm
      · cases Y with
        | nil => cases hm
        | cons y Y =>
          injection hc with hc
          exact ⟨X, Y, by rw [hc]⟩
      · exfalso
        have := (hJ.up hj').2.2.1
        rw [hTo c hca hcb, hm, h.gone (n + 1) (by omega) (fun hm => by have := h.within _ hm; omega)] at this
        omega
end

/-! The beginning. -/
section
variable {J : Int → Int → Option (Int × Nat)}
/-- What waits when the first k places were asked. -/
def startS (J : Int → Int → Option (Int × Nat)) (T : List Int) : Nat → List Pr
  | 0 => []
  | k + 1 => waitS J T (startS J T k) k (k + 1)
theorem mem_startS {T : List Int} {e : Pr} : ∀ {k : Nat}, e ∈ startS J T k ↔ ∃ i t r, i < k ∧ J (at_ T i) (at_ T (i + 1)) = some (t, r) ∧ e = ⟨at_ T i, at_ T (i + 1), i, (i + 1 : Nat), t, r⟩ := by
  intro k
  induction k with
  | zero => exact ⟨fun h => (by cases h), fun ⟨i, t, r, h, _⟩ => (by omega)⟩
  | succ k ih =>
    show e ∈ waitS J T (startS J T k) k (k + 1) ↔ _
    rw [mem_waitS, ih]
    constructor
    · rintro (⟨i, t, r, h1, h2, h3⟩ | ⟨t, r, h2, h3⟩)
      · exact ⟨i, t, r, by omega, h2, h3⟩
      · exact ⟨k, t, r, by omega, h2, h3⟩
    · rintro ⟨i, t, r, h1, h2, h3⟩
      by_cases e1 : i = k
      · subst e1
        exact .inr ⟨t, r, h2, h3⟩
      · exact .inl ⟨i, t, r, by omega, h2, h3⟩
theorem range'_row (n : Nat) : 0 :: (List.range' 1 n ++ [n + 1]) = List.range (n + 2) := by
  rw [List.range_eq_range', List.range'_succ]
  congr 1
  rw [List.range'_concat]
  simp [Nat.add_comm]
theorem range'_pair {X Y : List Nat} {a b n : Nat} (he : List.range' 1 n = X ++ a :: b :: Y) : a = X.length + 1 ∧ b = X.length + 2 ∧ X.length + 1 < n := by
  have hl := congrArg List.length he
  simp at hl
  have h1 : (List.range' 1 n)[X.length]? = some a := by rw [he]; simp
  have h2 : (List.range' 1 n)[X.length + 1]? = some b := by rw [he]; simp
  rw [List.getElem?_range' (by omega)] at h1 h2
  have := Option.some.inj h1
  have := Option.some.inj h2
  omega
theorem St.start (hJ : Grows J) {n : Nat} {l T A N : List Int} (hl : l.length = n) (hT : n + 1 < T.length) (h0 : at_ T 0 = -1) (h1 : ∀ i x, l[i]? = some x → at_ T (i + 1) = x) (h2 : at_ T (n + 1) = -1) (hl0 : ∀ x ∈ l, 0 ≤ x)
    (hN : ∀ i, i ≤ n → N[i]? = some ((i + 1 : Nat) : Int)) (hN2 : N[n + 1]? = some 0) (hA : ∀ i, i ≤ n → A[i + 1]? = some (i : Int)) (hA0 : A[0]? = some 0) : St J n T A N (startS J T (n + 1)) (List.range' 1 n) := by
  have hin : ∀ p, p ∈ List.range' 1 n ↔ 0 < p ∧ p ≤ n := fun p => by rw [List.mem_range'_1]; omega
  refine ⟨List.pairwise_lt_range' .., fun p hp => (hin p).1 hp, hT, ?_, fun p hp => ?_, fun p hp hn => ?_, fun X a b Y t r he hj => ?_, fun e he => ?_⟩
  · rw [range'_row]
    exact Linked.start (fun i hi => hN i (by omega)) (fun i hi => by obtain rfl : i = n + 1 := by omega
                                                                     exact hN2) (fun i hi => hA i (by omega)) (fun _ => hA0)
  · obtain ⟨q1, q2⟩ := (hin p).1 hp
    obtain ⟨i, rfl⟩ : ∃ i, p = i + 1 := ⟨p - 1, by omega⟩
    obtain ⟨x, hx⟩ : ∃ x, l[i]? = some x := ⟨l[i]'(by omega), List.getElem?_eq_getElem (by omega)⟩
    rw [h1 i x hx]
    exact hl0 x (List.mem_of_getElem? hx)
  · rcases Nat.eq_zero_or_pos p with rfl | hpos
    · exact h0
    · have : ¬ (0 < p ∧ p ≤ n) := fun h => hn ((hin p).2 h)
      obtain rfl : p = n + 1 := by omega
      exact h2
  · obtain ⟨rfl, rfl, q⟩ := range'_pair he
    exact ⟨_, mem_startS.2 ⟨X.length + 1, t, r, by omega, hj, rfl⟩, rfl, rfl, rfl, rfl⟩
  · obtain ⟨i, t, r, q1, hj, rfl⟩ := mem_startS.1 he
    refine ⟨i, i + 1, rfl, rfl, by omega, by omega, hj, fun _ _ => ?_, .inl (Int.le_refl _), .inl (Int.le_refl _)⟩
    have hi0 : i ≠ 0 := fun e1 => by
      have := (hJ.up hj).1
      rw [e1, h0] at this
      omega
    have hin1 : i + 1 ≤ n := by
      apply Decidable.byContradiction
      intro hge
      obtain rfl : i = n := by omega
      have := (hJ.up hj).2.2.1
      rw [h2] at this
      omega
    refine ⟨List.range' 1 (i - 1), List.range' (i + 2) (n - i - 1), ?_⟩
    have e1 : List.range' 1 n = List.range' 1 (i - 1) ++ List.range' i (n - i + 1) := by
      rw [List.range'_eq_append_iff]
      refine ⟨i - 1, by omega, rfl, ?_⟩
      congr 1 <;> omega
    rw [e1]
    congr 1
    rw [List.range'_succ]
    congr 1
    obtain ⟨k, hk⟩ : ∃ k, n - i = k + 1 := ⟨n - i - 1, by omega⟩
    rw [hk, List.range'_succ]
    simp
theorem start_row {n : Nat} {l T : List Int} (hl : l.length = n) (h1 : ∀ i x, l[i]? = some x → at_ T (i + 1) = x) : (List.range' 1 n).map (at_ T) = l := by
  refine List.ext_getElem? fun i => ?_
  rw [List.getElem?_map]
  rcases Nat.lt_or_ge i n with h | h
  · obtain ⟨x, hx⟩ : ∃ x, l[i]? = some x := ⟨l[i]'(by omega), List.getElem?_eq_getElem (by omega)⟩
    rw [List.getElem?_range' h, hx]
    show some (at_ T (1 + 1 * i)) = some x
    rw [show 1 + 1 * i = i + 1 by omega, h1 i x hx]
  · rw [List.getElem?_eq_none (by simpa using h), List.getElem?_eq_none (by omega)]
    rfl
end
end Go.Proofs.Ytkialijipcbgkaa.Bp
namespace Go.Proofs.Ytkialijipcbgkaa
open Go.RowKit
set_option linter.unusedVariables false

def intV (x : Int) : Value := .int .i64 x
def strV (s : ByteArray) : Value := .string s
def atV (x : Int × Int) : Value := .agg #[.int .i64 x.1, .int .i64 x.2]
def AtOk (x : Int × Int) : Prop := I64 x.1 ∧ I64 x.2
/-- The function value of a closure. -/
def fnV (fn : Nat) (caps : Array Value) : Value := .func (.func fn) #[] caps
/-- A call of this function enters it (it stands for no function of the machine's own). -/
def Enters (fn : Nat) : Prop := ∀ (args : Array Value) (w : World), (callFunc fn args).run Try.prog w = .ok (.enter fn args) w
theorem enters_of {f : Nat} {fn : Func} {c : Code} (hf : Try.prog.funcs[f]? = some fn) (hname : (fn.name == "runtime.NumGoroutine") = false) (hb : fn.body = some c) : Enters f := fun args w => by
  have h1 : fn.name ≠ "runtime.NumGoroutine" := by simpa using hname
  simp [callFunc, hf, h1, hb]
/-- The function answers this order, in whatever world in which but blocks of F, and new ones, were turned. -/
structure Less {α : Type} (val : α → Value) (ok : α → Prop) (fn : Nat) (caps : Array Value) (lt : α → α → Bool) (w : World) (F : Nat → Prop) : Prop where
  ent : Enters fn
  ans : ∀ a b, ok a → ok b → ∀ w', Turned F w w' → Calls Try.prog fn (#[val a, val b] ++ caps) w' (IsBool (lt a b) w')
theorem Less.step {α : Type} {val : α → Value} {ok : α → Prop} {fn : Nat} {caps : Array Value} {lt : α → α → Bool} {w w' : World} {F G : Nat → Prop} (h : Less val ok fn caps lt w F) (ht : Turned F w w') (hG : ∀ k, k < w.heap.size → G k → F k) : Less val ok fn caps lt w' G :=
  ⟨h.ent, fun a b ha hb w'' ht2 => h.ans a b ha hb w'' (ht.trans ht2 hG)⟩
theorem Less.mono {α : Type} {val : α → Value} {ok : α → Prop} {fn : Nat} {caps : Array Value} {lt : α → α → Bool} {w : World} {F G : Nat → Prop} (h : Less val ok fn caps lt w F) (hG : ∀ k, k < w.heap.size → G k → F k) : Less val ok fn caps lt w G :=
  ⟨h.ent, fun a b ha hb w'' ht2 => h.ans a b ha hb w'' (ht2.mono hG)⟩
end Go.Proofs.Ytkialijipcbgkaa
namespace Go.Proofs.Ytkialijipcbgkaa
open Go.RowKit
set_option linter.unusedVariables false

/-- Cells set one behind the other, from k on. -/
def setAll (w : World) (g k : Nat) : List Value → World
  | [] => w
  | u :: r => setAll (w.setCell ⟨g, k, none⟩ u) g (k + 1) r
def putAll (C : List Value) (k : Nat) : List Value → List Value
  | [] => C
  | u :: r => putAll (C.set k u) (k + 1) r
theorem setAll_heap {g : Nat} {e : TypeId} (us : List Value) : ∀ {w : World} {k : Nat} {C : List Value}, w.heap[g]? = some (.cells C.toArray e (0, 0)) →
    (setAll w g k us).heap[g]? = some (.cells (putAll C k us).toArray e (0, 0)) := by
  induction us with
  | nil => exact fun h => h
  | cons u r ih =>
    intro w k C h
    refine ih ?_
    rw [heap_setCell_same w g k _ _ u h]
    simp
theorem setAll_grown {g : Nat} (us : List Value) : ∀ (w : World) (k : Nat), w.grownBy (setAll w g k us) (some g) := by
  induction us with
  | nil => exact fun w k => ⟨rfl, rfl, rfl, Nat.le_refl _, fun _ _ _ => rfl⟩
  | cons u r ih =>
    intro w k
    obtain ⟨h1, h2, h3, h4, h5⟩ := ih (w.setCell ⟨g, k, none⟩ u) (k + 1)
    refine ⟨h1, h2, h3, Nat.le_trans (show w.heap.size ≤ (w.setCell ⟨g, k, none⟩ u).heap.size by simp) h4, fun i hi hne => ?_⟩
    exact (h5 i (by simpa using hi) hne).trans (heap_setCell_other w ⟨g, k, none⟩ i u (fun e => hne (by simp [e])))
theorem putAll_mid (c : List Value) (us : List Value) : ∀ (a b : List Value), us.length = b.length → putAll (a ++ b ++ c) a.length us = a ++ us ++ c := by
  induction us with
  | nil =>
    intro a b h
    have hb : b = [] := List.eq_nil_of_length_eq_zero h.symm
    subst hb
    rfl
  | cons u r ih =>
    intro a b h
    cases b with
    | nil => simp at h
    | cons y b =>
      have h' : r.length = b.length := by simpa using h
      have e : (a ++ y :: b ++ c).set a.length u = (a ++ [u]) ++ b ++ c := by simp
      have := ih (a ++ [u]) b h'
      rw [← e] at this
      rw [List.length_append, List.length_singleton] at this
      show putAll ((a ++ y :: b ++ c).set a.length u) (a.length + 1) r = _
      rw [this]
      simp

section
variable {P : Program} {α : Type} {K : El P α} {w w' : World} {base B : Nat} {v : Value} {l : List α}
theorem flat_put {l : List α} {k : Nat} (hk : k < l.length) (x : α) : putAll (K.flat l) (k * K.size) (K.enc x) = K.flat (l.set k x) := by
  have e : l = l.take k ++ l[k] :: l.drop (k + 1) := by simp
  have hl : (K.flat (l.take k)).length = k * K.size := by rw [flat_len, List.length_take, Nat.min_eq_left (by omega)]
  have e1 : K.flat l = K.flat (l.take k) ++ K.enc l[k] ++ K.flat (l.drop (k + 1)) := by
    conv => lhs; rw [e]
    rw [flat_app, flat_cons, List.append_assoc]
  have e2 : K.flat (l.set k x) = K.flat (l.take k) ++ K.enc x ++ K.flat (l.drop (k + 1)) := by
    rw [List.set_eq_take_append_cons_drop, if_pos hk, flat_app, flat_cons, List.append_assoc]
  rw [e1, e2, ← hl]
  exact putAll_mid _ _ _ _ (by rw [K.len, K.len])
/-- One element is set, all its cells. -/
theorem OwnL.setAll_ {g c n : Nat} (h : OwnL K w base (.slice (some ⟨g, 0, none⟩) n c) l) {j : Nat} (hj : j < l.length) {x : α} (hx : K.ok x) :
    OwnL K (setAll w g (j * K.size) (K.enc x)) base (.slice (some ⟨g, 0, none⟩) n c) (l.set j x) ∧ w.grownBy (setAll w g (j * K.size) (K.enc x)) (some g) := by
  rcases h.2 with ⟨e, rfl⟩ | ⟨g', s, e, hb, hs, hm, hh⟩
  · cases e
  · injection e with e1 e2 e3
    injection e1 with e1
    injection e1 with e1
    subst e1 e2 e3
    refine ⟨⟨fun y hy => ?_, .inr ⟨g, s, by rw [List.length_set], hb, hs, by rw [List.length_set]; exact hm, ?_⟩⟩, setAll_grown _ _ _⟩
    · rcases List.mem_or_eq_of_mem_set hy with h3 | rfl
      · exact h.1 y h3
      · exact hx
    · rw [setAll_heap (K.enc x) hh, ← List.set_append_left _ _ hj, flat_put (by simp; omega) x]
/-- The same slice, shorter: what stood behind is spare room. -/
theorem OwnL.take_ {g c n : Nat} (h : OwnL K w base (.slice (some ⟨g, 0, none⟩) n c) l) {k : Nat} (hk : k ≤ l.length) : OwnL K w base (.slice (some ⟨g, 0, none⟩) k c) (l.take k) := by
  rcases h.2 with ⟨e, rfl⟩ | ⟨g', s, e, hb, hs, hm, hh⟩
  · cases e
  · injection e with e1 e2 e3
    injection e1 with e1
    injection e1 with e1
    subst e1 e2 e3
    have hl : (l.take k).length = k := by rw [List.length_take, Nat.min_eq_left hk]
    have hl2 : (l.take k).length + (l.drop k ++ s).length = l.length + s.length := by rw [hl, List.length_append, List.length_drop]; omega
    refine ⟨fun y hy => h.1 y (List.mem_of_mem_take hy), .inr ⟨g, l.drop k ++ s, by rw [hl2, hl], hb, fun y hy => ?_, by rw [hl2]; exact hm, ?_⟩⟩
    · rcases List.mem_append.1 hy with hy | hy
      · exact h.1 y (List.mem_of_mem_drop hy)
      · exact hs y hy
    · rw [hh, ← List.append_assoc, List.take_append_drop]
end
end Go.Proofs.Ytkialijipcbgkaa
namespace Go.Proofs.Ytkialijipcbgkaa
open Go.RowKit
set_option linter.unusedVariables false

def qPK : El Try.prog (Pr × Nat) where
  e := 155
  s := 144
  size := 7
  bytes := 56
  zero := .agg #[.int .i64 0, .int .i64 0, .int .i64 0, .int .i64 0, .int .i64 0, .int .u32 0, .int .u64 0]
  z := ((⟨0, 0, 0, 0, 0, 0⟩ : Pr), 0)
  enc := fun x => [.int .i64 x.1.1, .int .i64 x.1.2, .int .i64 x.1.3, .int .i64 x.1.4, .int .i64 x.1.5, .int .u32 (x.1.6 : Nat), .int .u64 (x.2 : Nat)]
  ok := fun x => PrOk x.1 ∧ x.2 < 9223372036854775807
  len := fun _ => rfl
  one := fun x u hu => by simp at hu; rcases hu with rfl | rfl | rfl | rfl | rfl | rfl | rfl <;> rfl
  okz := by simp [I64, PrOk]
  encz := rfl
  pos := by decide
  under := Try.underlying144
  info := by kernel_rfl

/-- The queue's own block. -/
def HeadP (w : World) (qb fn : Nat) (caps : Array Value) (v : Value) (m : Nat) : Prop := w.heap[qb]? = some (.cells #[fnV fn caps, v, .int .u64 (m : Nat)] 146 (0, 0))
/-- The queue's memory: its own block, and the heap's. -/
structure HasP (w : World) (qb g n c : Nat) (A : List (Pr × Nat)) (m : Nat) (fn : Nat) (caps : Array Value) : Prop where
  head : HeadP w qb fn caps (.slice (some ⟨g, 0, none⟩) n c) m
  own : OwnL qPK w 0 (.slice (some ⟨g, 0, none⟩) n c) A
  apart : qb ≠ g
  len : A.length = n
section
variable {w w' : World} {qb g n c m fn : Nat} {caps : Array Value} {v : Value} {A : List (Pr × Nat)}
theorem HeadP.lt_ (h : HeadP w qb fn caps v m) : qb < w.heap.size := (Array.getElem?_eq_some_iff.1 h).1
theorem HeadP.less (h : HeadP w qb fn caps v m) : w.cell? ⟨qb, 0, none⟩ = some (.func (.func fn) #[] caps) := by rw [cell_of_row _ qb 0 _ _ _ h]; rfl
theorem HeadP.list (h : HeadP w qb fn caps v m) : w.cell? ⟨qb, 1, none⟩ = some v := by rw [cell_of_row _ qb 1 _ _ _ h]; rfl
theorem HeadP.turns (h : HeadP w qb fn caps v m) : w.cell? ⟨qb, 2, none⟩ = some (.int .u64 (m : Nat)) := by rw [cell_of_row _ qb 2 _ _ _ h]; rfl
theorem HeadP.cool (h : HeadP w qb fn caps v m) (j : Nat) : w.frozen? ⟨qb, j, none⟩ = false := frozen_of_row w qb j _ _ h
theorem HeadP.block_ (h : HeadP w qb fn caps v m) (hb : w'.heap[qb]? = w.heap[qb]?) : HeadP w' qb fn caps v m := hb.trans h
theorem HeadP.setList (h : HeadP w qb fn caps v m) (u : Value) : HeadP (w.setCell ⟨qb, 1, none⟩ u) qb fn caps u m := by unfold HeadP; rw [heap_setCell_same w qb 1 _ _ _ h]; rfl
theorem HeadP.setTurns (h : HeadP w qb fn caps v m) (k : Nat) : HeadP (w.setCell ⟨qb, 2, none⟩ (.int .u64 (k : Nat))) qb fn caps v k := by unfold HeadP; rw [heap_setCell_same w qb 2 _ _ _ h]; rfl
theorem HasP.below_ (h : HasP w qb g n c A m fn caps) (hb : Below w.heap.size w w') : HasP w' qb g n c A m fn caps where
  head := h.head.block_ (hb.block qb h.head.lt_)
  own := h.own.below_ hb (Nat.le_refl _)
  apart := h.apart
  len := h.len
theorem HasP.drew_ (h : HasP w qb g n c A m fn caps) : HasP w.drew qb g n c A m fn caps := ⟨h.head, h.own.drew_, h.apart, h.len⟩
theorem HasP.has (h : HasP w qb g n c A m fn caps) {k : Nat} {x : Pr × Nat} (hx : A[k]? = some x) :
    (
    w.cell? ⟨g, k * 7, none⟩ = some (.int .i64 x.1.1) ∧
    w.cell? ⟨g, k * 7 + 1, none⟩ = some (.int .i64 x.1.2) ∧
    w.cell? ⟨g, k * 7 + 2, none⟩ = some (.int .i64 x.1.3) ∧
    w.cell? ⟨g, k * 7 + 3, none⟩ = some (.int .i64 x.1.4) ∧
    w.cell? ⟨g, k * 7 + 4, none⟩ = some (.int .i64 x.1.5) ∧
    w.cell? ⟨g, k * 7 + 5, none⟩ = some (.int .u32 (x.1.6 : Nat)) ∧
    w.cell? ⟨g, k * 7 + 6, none⟩ = some (.int .u64 (x.2 : Nat)) ∧
    qPK.ok x) := by
  have hk := (List.getElem?_eq_some_iff.1 hx).1
  obtain ⟨g', y, e, _, _, hok, hy, hc, _⟩ := h.own.at_ hk
  injection e with e
  injection e with e
  subst e
  rw [hx] at hy
  obtain rfl := Option.some.inj hy
  exact ⟨hc 0 _ rfl, hc 1 _ rfl, hc 2 _ rfl, hc 3 _ rfl, hc 4 _ rfl, hc 5 _ rfl, hc 6 _ rfl, hok⟩
/-- One element of the heap is set. -/
theorem HasP.set (h : HasP w qb g n c A m fn caps) {j : Nat} (hj : j < n) {x : Pr × Nat} (hx : qPK.ok x) :
    HasP (
    ((((((w.setCell ⟨g, j * 7, none⟩ (.int .i64 x.1.1)).setCell ⟨g, j * 7 + 1, none⟩ (.int .i64 x.1.2)).setCell ⟨g, j * 7 + 2, none⟩ (.int .i64 x.1.3)).setCell ⟨g, j * 7 + 3, none⟩ (.int .i64 x.1.4)).setCell ⟨g, j * 7 + 4, none⟩ (.int .i64 x.1.5)).setCell ⟨g, j * 7 + 5, none⟩ (.int .u32 (x.1.6 : Nat))).setCell ⟨g, j * 7 + 6, none⟩ (.int .u64 (x.2 : Nat))
    ) qb g n c (A.set j x) m fn caps ∧
    Turned (fun k => k = qb ∨ k = g) w (
    ((((((w.setCell ⟨g, j * 7, none⟩ (.int .i64 x.1.1)).setCell ⟨g, j * 7 + 1, none⟩ (.int .i64 x.1.2)).setCell ⟨g, j * 7 + 2, none⟩ (.int .i64 x.1.3)).setCell ⟨g, j * 7 + 3, none⟩ (.int .i64 x.1.4)).setCell ⟨g, j * 7 + 4, none⟩ (.int .i64 x.1.5)).setCell ⟨g, j * 7 + 5, none⟩ (.int .u32 (x.1.6 : Nat))).setCell ⟨g, j * 7 + 6, none⟩ (.int .u64 (x.2 : Nat))
    ) := by
  obtain ⟨ho, hg⟩ := h.own.setAll_ (j := j) (by rw [h.len]; exact hj) hx
  have ht := (Turned.of_grown hg).mono (G := fun k => k = qb ∨ k = g) (fun k _ e => .inr (Option.some.inj e).symm)
  exact ⟨⟨h.head.block_ ((Turned.of_grown hg).block qb h.head.lt_ (fun e => h.apart (Option.some.inj e).symm)), ho, h.apart, by rw [List.length_set]; exact h.len⟩, ht⟩
end
theorem not_nilP (fn : Nat) (caps : Array Value) (w : World) : (binOp .eql 118 (.func (.func fn) #[] caps) .nilFunc).run Try.prog w = .ok (.bool false) w := by
  kernel_rfl
theorem nil_notP (fn : Nat) (caps : Array Value) (w : World) : (binOp .neq 118 (.func (.func fn) #[] caps) .nilFunc).run Try.prog w = .ok (.bool true) w := by
  kernel_rfl

set_option maxRecDepth 100000 in
set_option maxHeartbeats 1000000 in
theorem pmadeP {w : World} {qb fn m : Nat} {caps : Array Value} {v : Value} (h : HeadP w qb fn caps v m) :
    Calls Try.prog 109 #[.pointer (some ⟨qb, 0, none⟩)] w (fun e w' => e = .returned (.bool true) ∧ w = w') := by
  have d0 := h.less
  have hnn := fun w => nil_notP fn caps w
  clear h
  go_enter Try.func109, Try.ntmps109
  go_wp2
  go_ret
  exact ⟨rfl, rfl⟩
set_option maxRecDepth 100000 in
set_option maxHeartbeats 1000000 in
theorem pmade_noneP (w : World) :
    Calls Try.prog 109 #[.pointer none] w (fun e w' => e = .returned (.bool false) ∧ w = w') := by
  go_enter Try.func109, Try.ntmps109
  go_wp2
  go_ret
  exact ⟨rfl, rfl⟩
set_option maxRecDepth 100000 in
set_option maxHeartbeats 1000000 in
theorem plenP' {w : World} {qb fn m : Nat} {caps : Array Value} {A0 : Option Addr} {n c : Nat} (h : HeadP w qb fn caps (.slice A0 n c) m) :
    Calls Try.prog 111 #[.pointer (some ⟨qb, 0, none⟩)] w (fun e w' => e = .returned (.int .i64 (n : Nat)) ∧ w = w') := by
  have d1 := h.list
  have HM := Lib.hid (pmadeP h)
  clear h
  go_enter Try.func111, Try.ntmps111
  go_wp2_with (fail)
  refine (HM.out).mono ?_
  rintro e w1 ⟨rfl, rfl⟩
  go_wp2
  go_ret
  exact ⟨rfl, rfl⟩
set_option maxRecDepth 100000 in
set_option maxHeartbeats 1000000 in
theorem pnewP' (fn : Nat) (caps : Array Value) (w : World) :
    Calls Try.prog 83 #[fnV fn caps] w (fun e w' => e = .returned (.pointer (some ⟨w.heap.size, 0, none⟩)) ∧ HeadP w' w.heap.size fn caps (.slice none 0 0) 0 ∧ Below w.heap.size w w') := by
  have hnn := fun w => not_nilP fn caps w
  unfold fnV
  go_enter Try.func83, Try.ntmps83
  go_wp2
  go_ret
  exact ⟨rfl, heap_alloc_new w _, (Below.refl _ w).alloc (Nat.le_refl _) _⟩
end Go.Proofs.Ytkialijipcbgkaa
