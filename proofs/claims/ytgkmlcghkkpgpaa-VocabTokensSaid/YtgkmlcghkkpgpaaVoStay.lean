/-
  What follows of a vocabulary that may be: joins and bytes are found at their own places; what is told of a token.
-/
import Derived.Test.YtgkmlcghkkpgpaaVoSpec
namespace Go.Proofs.Ytgkmlcghkkpgpaa.Vo
theorem first_here {P : List Pc} {f : Pc → Bool} {k : Nat} {p : Pc} (hk : P[k]? = some p) (hp : f p = true) (hn : ∀ j q, j < k → P[j]? = some q → f q = false) : P.findIdx f = k := by
  have hl : k < P.length := (List.getElem?_eq_some_iff.1 hk).1
  rw [List.findIdx_eq hl]
  rw [List.getElem?_eq_getElem hl] at hk
  refine ⟨by rw [Option.some.inj hk]; exact hp, fun j hj => hn j _ hj (List.getElem?_eq_getElem (by omega))⟩
theorem joinOf_self {P : List Pc} (hg : Good P) {k : Nat} {p : Pc} (hk : P[k]? = some p) (hj : p.join = true) : joinOf P p.left p.right = k := by
  refine first_here hk (by simp [hj]) (fun j q hjk hq => ?_)
  have hn := (errAt_join hj (hg k p hk)).2.2.2.2.2.2
  cases h : (q.join && q.left == p.left && q.right == p.right) with
  | false => rfl
  | true =>
    have ht : twin p q = true := by
      simp only [Bool.and_eq_true, beq_iff_eq] at h
      simp [twin, h.1.1, h.1.2, h.2]
    rw [hasJoin_mem hq hjk ht] at hn
    cases hn
theorem tokenOf_self {P : List Pc} (hg : Good P) {k : Nat} {p : Pc} (hk : P[k]? = some p) (hj : p.join = false) : tokenOf P p.byte = k := by
  refine first_here hk (by simp [hj]) (fun j q hjk hq => ?_)
  have hn := (errAt_byte hj (hg k p hk)).2.2.2
  cases h : (!q.join && q.byte == p.byte) with
  | false => rfl
  | true =>
    have : hasByte (P.take k) p = true := by
      unfold hasByte
      rw [List.any_eq_true]
      exact ⟨q, List.mem_of_getElem? (i := j) (by rw [List.getElem?_take, if_pos hjk]; exact hq), h⟩
    rw [this] at hn
    cases hn
theorem found_self {P : List Pc} (hm : May P) {k : Nat} {p : Pc} (hk : P[k]? = some p) (hj : p.join = true) : foundE P p.left p.right = (k, true) := by
  have hl : k < P.length := (List.getElem?_eq_some_iff.1 hk).1
  have h := joinOf_self (may_iff.1 hm).2.1 hk hj
  rw [foundE, if_pos hm, findE, h, if_pos hl]
theorem byte_self {P : List Pc} (hm : May P) {k : Nat} {p : Pc} (hk : P[k]? = some p) (hj : p.join = false) : byteE P p.byte = (k, 0) := by
  rw [byteE, if_pos hm, tokenOf_self (may_iff.1 hm).2.1 hk hj]
theorem expand_in {P : List Pc} (hm : May P) {k : Nat} (hk : k < P.length) : expandE P (k : Int) = (text P k, 0) := by
  rw [expandE, if_pos hm, if_neg (by omega), Int.toNat_natCast]
/-- What check tells, where it tells no error. -/
theorem check_may {P : List Pc} (hm : May P) : check P = (0, 0) := by
  obtain ⟨h1, h2, h3⟩ := may_iff.1 hm
  rw [check_good (by omega) h2, if_neg (by omega)]
theorem check_bad {P : List Pc} (hm : ¬ May P) : ∃ E T, check P = (E, T) ∧ E ≠ 0 := ⟨_, _, rfl, hm⟩
/-- Of a beginning: no error, or that a byte lacks, at its end. -/
theorem check_first {P : List Pc} (hm : May P) {n : Nat} (hn : n ≤ P.length) : check (P.take n) = (0, 0) ∨ check (P.take n) = (7, n) := by
  rcases check_take hm hn with h | h
  · exact .inl (check_may h)
  · exact .inr h

/-! The joins by their ranks. -/
/-- Whether ranks rise along a list of tokens. -/
def Rising (P : List Pc) (l : List Int) : Prop := l.Pairwise (fun a b => rankAt P a < rankAt P b)
theorem rising_joins {P : List Pc} (hg : Good P) {k : Nat} (hk : k ≤ P.length) : Rising P (joinsTo P k) := by
  induction k with
  | zero => exact List.Pairwise.nil
  | succ k ih =>
    have ih := ih (by omega)
    have hkl : k < P.length := by omega
    have hp := List.getElem?_eq_getElem hkl
    obtain ⟨p, hpe⟩ : ∃ p, P[k] = p := ⟨_, rfl⟩
    rw [hpe] at hp
    cases hj : p.join with
    | false => rw [joinsTo_byte hp hj]; exact ih
    | true =>
      rw [joinsTo_join hp hj]
      obtain ⟨o, ho⟩ : ∃ o, joinsTo P k = o := ⟨_, rfl⟩
      have hmem : ∀ t ∈ o, rankAt P t ≠ p.rank := fun t ht e => by
        rw [← ho] at ht
        obtain ⟨T, q, rfl, hT, hq, hqj⟩ := joinsTo_mem ht
        rw [rankAt_of hq] at e
        have hn := (errAt_join hj (hg k p hp)).2.2.2.2.2.2
        rw [hasJoin_mem hq hT (by simp [twin, hqj, e])] at hn
        cases hn
      rw [ho] at ih ⊢
      have hrk : rankAt P (k : Int) = p.rank := rankAt_of hp
      obtain ⟨c, hc⟩ : ∃ c, place P o p.rank = c := ⟨_, rfl⟩
      have hcl : c ≤ o.length := by rw [← hc]; exact place_le _ _ _
      rw [hc]
      have hlow : ∀ t ∈ o.take c, rankAt P t < p.rank := fun t ht => by
        obtain ⟨i, hi, hit⟩ := List.mem_iff_getElem.1 ht
        have hil : i < c := by rw [List.length_take] at hi; omega
        have h2 := List.not_of_lt_findIdx (p := fun t => !decide (rankAt P t < p.rank)) (xs := o) (i := i) (by show i < place P o p.rank; omega)
        rw [List.getElem_take] at hit
        rw [hit] at h2
        simpa using h2
      have hhigh : ∀ t ∈ o.drop c, p.rank < rankAt P t := fun t ht => by
        have hto : t ∈ o := List.mem_of_mem_drop ht
        have hne := hmem t hto
        by_cases hlen : c < o.length
        · have h0 : o[c]? = some o[c] := List.getElem?_eq_getElem hlen
          have h1 : ¬ rankAt P o[c] < p.rank := by
            have h2 := List.findIdx_getElem (p := fun t => !decide (rankAt P t < p.rank)) (xs := o) (w := by show place P o p.rank < o.length; omega)
            have h3 : o[o.findIdx (fun t => !decide (rankAt P t < p.rank))]? = some o[c] := by
              show o[place P o p.rank]? = _
              rw [hc, h0]
            rw [List.getElem?_eq_getElem (by show place P o p.rank < o.length; omega)] at h3
            rw [Option.some.inj h3] at h2
            simpa using h2
          rw [List.drop_eq_getElem_cons hlen] at ht
          rcases List.mem_cons.1 ht with rfl | ht
          · omega
          · have h4 : Rising P (o.drop c) := List.Pairwise.sublist (List.drop_sublist c o) ih
            rw [List.drop_eq_getElem_cons hlen] at h4
            have := (List.pairwise_cons.1 h4).1 t ht
            omega
        · rw [List.drop_of_length_le (by omega)] at ht
          cases ht
      unfold Rising
      rw [List.append_assoc, List.pairwise_append]
      refine ⟨List.Pairwise.sublist (List.take_sublist c o) ih, ?_, fun a ha b hb => ?_⟩
      · rw [List.singleton_append, List.pairwise_cons]
        exact ⟨fun b hb => by rw [hrk]; exact hhigh b hb, List.Pairwise.sublist (List.drop_sublist c o) ih⟩
      · rcases List.mem_append.1 hb with hb | hb
        · simp at hb
          subst hb
          rw [hrk]
          exact hlow a ha
        · have := hlow a ha
          have := hhigh b hb
          omega
/-- How many joins there are in the first k places. -/
def joinCount (P : List Pc) : Nat → Nat
  | 0 => 0
  | k + 1 => match P[k]? with
    | some q => if q.join = true then joinCount P k + 1 else joinCount P k
    | none => joinCount P k
theorem joinCount_len {P : List Pc} {k : Nat} (hk : k ≤ P.length) : (joinsTo P k).length = joinCount P k := by
  induction k with
  | zero => rfl
  | succ k ih =>
    have ih := ih (by omega)
    have hp := List.getElem?_eq_getElem (show k < P.length by omega)
    obtain ⟨p, hpe⟩ : ∃ p, P[k] = p := ⟨_, rfl⟩
    rw [hpe] at hp
    cases hj : p.join with
    | false => rw [joinsTo_byte hp hj, ih, joinCount, hp]; simp [hj]
    | true =>
      rw [joinsTo_join hp hj, joinCount, hp]
      have := place_le P (joinsTo P k) p.rank
      simp only [hj, List.length_append, List.length_take, List.length_drop, List.length_singleton, if_true]
      omega
end Go.Proofs.Ytgkmlcghkkpgpaa.Vo
