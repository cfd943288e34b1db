/-
  VoMathJ: Plain mathematics of chapter 8: the joins by their ranks.
  VoSpecM: What the calls of package vocab answer, said of pieces.
  VoStay: What follows of a vocabulary that may be: joins and bytes are found at their own places; what is told of a token.
  BpSpec: What the calls of package bpe answer, said of pieces, bytes and tokens.
-/
import Derived.Test.YtkialijipcbgkaaPk04
import Derived.Test.YtkialijipcbgkaaPk02
namespace Go.Proofs.Ytkialijipcbgkaa
set_option linter.unusedVariables false

namespace Vo
def rankAt (P : List Pc) (t : Int) : Nat := match P[t.toNat]? with | some q => q.rank | none => 0
theorem rankAt_of {P : List Pc} {t : Nat} {q : Pc} (h : P[t]? = some q) : rankAt P (t : Int) = q.rank := by simp [rankAt, h]
/-- Where a join of this rank is put. -/
def place (P : List Pc) (o : List Int) (r : Nat) : Nat := o.findIdx (fun t => !decide (rankAt P t < r))
def joinsTo (P : List Pc) : Nat → List Int
  | 0 => []
  | k + 1 => match P[k]? with
    | some q => if q.join = true then (joinsTo P k).take (place P (joinsTo P k) q.rank) ++ [(k : Int)] ++ (joinsTo P k).drop (place P (joinsTo P k) q.rank) else joinsTo P k
    | none => joinsTo P k
def joinsE (P : List Pc) : List Int := if May P then joinsTo P P.length else []
theorem joinsTo_byte {P : List Pc} {k : Nat} {q : Pc} (h : P[k]? = some q) (hj : q.join = false) : joinsTo P (k + 1) = joinsTo P k := by
  rw [joinsTo, h]; simp [hj]
theorem joinsTo_join {P : List Pc} {k : Nat} {q : Pc} (h : P[k]? = some q) (hj : q.join = true) : joinsTo P (k + 1) = (joinsTo P k).take (place P (joinsTo P k) q.rank) ++ [(k : Int)] ++ (joinsTo P k).drop (place P (joinsTo P k) q.rank) := by
  rw [joinsTo, h]; simp [hj]
theorem joinsTo_mem {P : List Pc} {k : Nat} {t : Int} (h : t ∈ joinsTo P k) : ∃ (T : Nat) (q : Pc), t = (T : Int) ∧ T < k ∧ P[T]? = some q ∧ q.join = true := by
  induction k with
  | zero => simp [joinsTo] at h
  | succ k ih =>
    have hin : t ∈ joinsTo P k → ∃ (T : Nat) (q : Pc), t = (T : Int) ∧ T < k + 1 ∧ P[T]? = some q ∧ q.join = true := fun h => by
      obtain ⟨T, q, h1, h2, h3⟩ := ih h
      exact ⟨T, q, h1, by omega, h3⟩
    cases hp : P[k]? with
    | none => rw [joinsTo, hp] at h; exact hin h
    | some q =>
      cases hj : q.join with
      | false => rw [joinsTo_byte hp hj] at h; exact hin h
      | true =>
        rw [joinsTo_join hp hj] at h
        simp only [List.mem_append, List.mem_singleton] at h
        rcases h with (h | h) | h
        · exact hin (List.mem_of_mem_take h)
        · exact ⟨k, q, h, by omega, hp, hj⟩
        · exact hin (List.mem_of_mem_drop h)
theorem joinsTo_len (P : List Pc) (k : Nat) : (joinsTo P k).length ≤ k := by
  induction k with
  | zero => simp [joinsTo]
  | succ k ih =>
    cases hp : P[k]? with
    | none => rw [joinsTo, hp]; simp only; omega
    | some q =>
      cases hj : q.join with
      | false => rw [joinsTo_byte hp hj]; omega
      | true =>
        rw [joinsTo_join hp hj]
        simp only [List.length_append, List.length_take, List.length_drop, List.length_singleton]
        omega
theorem place_le (P : List Pc) (o : List Int) (r : Nat) : place P o r ≤ o.length := List.findIdx_le_length
theorem place_next {P : List Pc} {o : List Int} {r j : Nat} {t : Int} (h : j ≤ place P o r) (ht : o[j]? = some t) (hr : rankAt P t < r) : j + 1 ≤ place P o r := by
  rcases Nat.lt_or_ge j (place P o r) with h1 | h1
  · exact h1
  · have e : j = place P o r := by omega
    have hj : j < o.length := (List.getElem?_eq_some_iff.1 ht).1
    have h2 := List.findIdx_getElem (p := fun t => !decide (rankAt P t < r)) (xs := o) (w := by show place P o r < o.length; omega)
    have h3 : o[o.findIdx (fun t => !decide (rankAt P t < r))]? = some t := by rw [← ht, e]; rfl
    rw [List.getElem?_eq_getElem (by show place P o r < o.length; omega)] at h3
    rw [Option.some.inj h3] at h2
    simp at h2
    omega
theorem place_stop {P : List Pc} {o : List Int} {r j : Nat} (h : j ≤ place P o r) (hs : o.length ≤ j ∨ ∃ t, o[j]? = some t ∧ ¬ rankAt P t < r) : place P o r = j := by
  rcases hs with hs | ⟨t, ht, hr⟩
  · have := place_le P o r; omega
  · rcases Nat.lt_or_ge j (place P o r) with h1 | h1
    · have hj : j < o.length := (List.getElem?_eq_some_iff.1 ht).1
      have h2 := List.not_of_lt_findIdx h1
      rw [List.getElem?_eq_getElem hj] at ht
      rw [Option.some.inj ht] at h2
      simp at h2
      omega
    · omega
end Vo
end Go.Proofs.Ytkialijipcbgkaa
namespace Go.Proofs.Ytkialijipcbgkaa.Vo
def sizeE (P : List Pc) (t : Int) : Nat × Nat := ((expandE P t).1.length, (expandE P t).2)
def foundE (P : List Pc) (l r : Int) : Nat × Bool := if May P then findE P l r else (0, false)
end Go.Proofs.Ytkialijipcbgkaa.Vo
namespace Go.Proofs.Ytkialijipcbgkaa.Vo
theorem first_here {P : List Pc} {f : Pc → Bool} {k : Nat} {p : Pc} (hk : P[k]? = some p) (hp : f p = true) (hn : ∀ j q, j < k → P[j]? = some q → f q = false) : P.findIdx f = k := by
  have hl : k < P.length := (List.getElem?_eq_some_iff.1 hk).1
  rw [List.findIdx_eq hl]
  rw [List.getElem?_eq_getElem hl] at hk
  refine ⟨by rw [Option.some.inj hk]; exact hp, fun j hj => hn j _ hj (List.getElem?_eq_getElem (by omega))⟩
theorem joinOf_self {P : List Pc} (hg : Good P) {k : Nat} {p : Pc} (hk : P[k]? = some p) (hj : p.join = true) : joinOf P p.left p.right = k := by
  refine first_here hk (by simp [hj]) (fun j q hjk hq => ?_)
  have hn := (errAt_join hj (hg k p hk)).2.2.2.2.2.2
  cases h : (q.join && q.left == p.left && q.right == p.right) with
  | false => rfl
  | true =>
    have ht : twin p q = true := by
      simp only [Bool.and_eq_true, beq_iff_eq] at h
      simp [twin, h.1.1, h.1.2, h.2]
    rw [hasJoin_mem hq hjk ht] at hn
    cases hn
theorem tokenOf_self {P : List Pc} (hg : Good P) {k : Nat} {p : Pc} (hk : P[k]? = some p) (hj : p.join = false) : tokenOf P p.byte = k := by
  refine first_here hk (by simp [hj]) (fun j q hjk hq => ?_)
  have hn := (errAt_byte hj (hg k p hk)).2.2.2
  cases h : (!q.join && q.byte == p.byte) with
  | false => rfl
  | true =>
    have : hasByte (P.take k) p = true := by
      unfold hasByte
      rw [List.any_eq_true]
      exact ⟨q, List.mem_of_getElem? (i := j) (by rw [List.getElem?_take, if_pos hjk]; exact hq), h⟩
    rw [this] at hn
    cases hn
theorem found_self {P : List Pc} (hm : May P) {k : Nat} {p : Pc} (hk : P[k]? = some p) (hj : p.join = true) : foundE P p.left p.right = (k, true) := by
  have hl : k < P.length := (List.getElem?_eq_some_iff.1 hk).1
  have h := joinOf_self (may_iff.1 hm).2.1 hk hj
  rw [foundE, if_pos hm, findE, h, if_pos hl]
theorem byte_self {P : List Pc} (hm : May P) {k : Nat} {p : Pc} (hk : P[k]? = some p) (hj : p.join = false) : byteE P p.byte = (k, 0) := by
  rw [byteE, if_pos hm, tokenOf_self (may_iff.1 hm).2.1 hk hj]
theorem expand_in {P : List Pc} (hm : May P) {k : Nat} (hk : k < P.length) : expandE P (k : Int) = (text P k, 0) := by
  rw [expandE, if_pos hm, if_neg (by omega), Int.toNat_natCast]
/-- What check tells, where it tells no error. -/
theorem check_may {P : List Pc} (hm : May P) : check P = (0, 0) := by
  obtain ⟨h1, h2, h3⟩ := may_iff.1 hm
  rw [check_good (by omega) h2, if_neg (by omega)]
theorem check_bad {P : List Pc} (hm : ¬ May P) : ∃ E T, check P = (E, T) ∧ E ≠ 0 := ⟨_, _, rfl, hm⟩
/-- Of a beginning: no error, or that a byte lacks, at its end. -/
theorem check_first {P : List Pc} (hm : May P) {n : Nat} (hn : n ≤ P.length) : check (P.take n) = (0, 0) ∨ check (P.take n) = (7, n) := by
  rcases check_take hm hn with h | h
  · exact .inl (check_may h)
  · exact .inr h

/-! The joins by their ranks. -/
/-- Whether ranks rise along a list of tokens. -/
def Rising (P : List Pc) (l : List Int) : Prop := l.Pairwise (fun a b => rankAt P a < rankAt P b)
theorem rising_joins {P : List Pc} (hg : Good P) {k : Nat} (hk : k ≤ P.length) : Rising P (joinsTo P k) := by
  induction k with
  | zero => exact List.Pairwise.nil
  | succ k ih =>
    have ih := ih (by omega)
    have hkl : k < P.length := by omega
    have hp := List.getElem?_eq_getElem hkl
    obtain ⟨p, hpe⟩ : ∃ p, P[k] = p := ⟨_, rfl⟩
    rw [hpe] at hp
    cases hj : p.join with
    | false => rw [joinsTo_byte hp hj]; exact ih
    | true =>
      rw [joinsTo_join hp hj]
      obtain ⟨o, ho⟩ : ∃ o, joinsTo P k = o := ⟨_, rfl⟩
      have hmem : ∀ t ∈ o, rankAt P t ≠ p.rank := fun t ht e => by
        rw [← ho] at ht
        obtain ⟨T, q, rfl, hT, hq, hqj⟩ := joinsTo_mem ht
        rw [rankAt_of hq] at e
        have hn := (errAt_join hj (hg k p hp)).2.2.2.2.2.2
        rw [hasJoin_mem hq hT (by simp [twin, hqj, e])] at hn
        cases hn
      rw [ho] at ih ⊢
      have hrk : rankAt P (k : Int) = p.rank := rankAt_of hp
      obtain ⟨c, hc⟩ : ∃ c, place P o p.rank = c := ⟨_, rfl⟩
      have hcl : c ≤ o.length := by rw [← hc]; exact place_le _ _ _
      rw [hc]
      have hlow : ∀ t ∈ o.take c, rankAt P t < p.rank := fun t ht => by
        obtain ⟨i, hi, hit⟩ := List.mem_iff_getElem.1 ht
        have hil : i < c := by rw [List.length_take] at hi; omega
        have h2 := List.not_of_lt_findIdx (p := fun t => !decide (rankAt P t < p.rank)) (xs := o) (i := i) (by show i < place P o p.rank; omega)
        rw [List.getElem_take] at hit
        rw [hit] at h2
        simpa using h2
      have hhigh : ∀ t ∈ o.drop c, p.rank < rankAt P t := fun t ht => by
        have hto : t ∈ o := List.mem_of_mem_drop ht
        have hne := hmem t hto
        by_cases hlen : c < o.length
        · have h0 : o[c]? = some o[c] := List.getElem?_eq_getElem hlen
          have h1 : ¬ rankAt P o[c] < p.rank := by
            have h2 := List.findIdx_getElem (p := fun t => !decide (rankAt P t < p.rank)) (xs := o) (w := by show place P o p.rank < o.length; omega)
            have h3 : o[o.findIdx (fun t => !decide (rankAt P t < p.rank))]? = some o[c] := by
              show o[place P o p.rank]? = _
              rw [hc, h0]
            rw [List.getElem?_eq_getElem (by show place P o p.rank < o.length; omega)] at h3
            rw [Option.some.inj h3] at h2
            simpa using h2
          rw [List.drop_eq_getElem_cons hlen] at ht
          rcases List.mem_cons.1 ht with rfl | ht
          · omega
          · have h4 : Rising P (o.drop c) := List.Pairwise.sublist (List.drop_sublist c o) ih
            rw [List.drop_eq_getElem_cons hlen] at h4
            have := (List.pairwise_cons.1 h4).1 t ht
            omega
        · rw [List.drop_of_length_le (by omega)] at ht
          cases ht
      unfold Rising
      rw [List.append_assoc, List.pairwise_append]
      refine ⟨List.Pairwise.sublist (List.take_sublist c o) ih, ?_, fun a ha b hb => ?_⟩
      · rw [List.singleton_append, List.pairwise_cons]
        exact ⟨fun b hb => by rw [hrk]; exact hhigh b hb, List.Pairwise.sublist (List.drop_sublist c o) ih⟩
      · rcases List.mem_append.1 hb with hb | hb
        · simp at hb
          subst hb
          rw [hrk]
          exact hlow a ha
        · have := hlow a ha
          have := hhigh b hb
          omega
/-- How many joins there are in the first k places. -/
def joinCount (P : List Pc) : Nat → Nat
  | 0 => 0
  | k + 1 => match P[k]? with
    | some q => if q.join = true then joinCount P k + 1 else joinCount P k
    | none => joinCount P k
theorem joinCount_len {P : List Pc} {k : Nat} (hk : k ≤ P.length) : (joinsTo P k).length = joinCount P k := by
  induction k with
  | zero => rfl
  | succ k ih =>
    have ih := ih (by omega)
    have hp := List.getElem?_eq_getElem (show k < P.length by omega)
    obtain ⟨p, hpe⟩ : ∃ p, P[k] = p := ⟨_, rfl⟩
    rw [hpe] at hp
    cases hj : p.join with
    | false => rw [joinsTo_byte hp hj, ih, joinCount, hp]; simp [hj]
    | true =>
      rw [joinsTo_join hp hj, joinCount, hp]
      have := place_le P (joinsTo P k) p.rank
      simp only [hj, List.length_append, List.length_take, List.length_drop, List.length_singleton, if_true]
      omega
end Go.Proofs.Ytkialijipcbgkaa.Vo
namespace Go.Proofs.Ytkialijipcbgkaa.Bp
open Vo (Pc May text tokenOf joinOf rankAt)

/-- The join of two tokens and its rank. -/
def jn (P : List Pc) (x y : Int) : Option (Int × Nat) := if joinOf P x y < P.length then some (((joinOf P x y : Nat) : Int), rankAt P ((joinOf P x y : Nat) : Int)) else none
def beginL (P : List Pc) (b : List Nat) : List Int := b.map fun c => ((tokenOf P c : Nat) : Int)
/-- The bytes of a row. -/
def textL (P : List Pc) (l : List Int) : List Nat := l.flatMap fun t => text P t.toNat
def enc (P : List Pc) (b : List Nat) : List Int := nf (jn P) (beginL P b)
/-- All are tokens. -/
def Toks (P : List Pc) (l : List Int) : Prop := ∀ t ∈ l, 0 ≤ t ∧ t < (P.length : Int)
instance (P : List Pc) (l : List Int) : Decidable (Toks P l) := inferInstanceAs (Decidable (∀ t ∈ l, 0 ≤ t ∧ t < (P.length : Int)))
def beginE (P : List Pc) (b : List Nat) : List Int × Nat := if May P then (if 4096 < b.length then ([], 3) else (beginL P b, 0)) else ([], 11)
def encE (P : List Pc) (b : List Nat) : List Int × Nat := if May P then (if 4096 < b.length then ([], 3) else (enc P b, 0)) else ([], 11)
def stepE (P : List Pc) (l : List Int) : List Int × Bool × Nat :=
  if May P then (if 4096 < l.length then ([], false, 3) else if Toks P l then (match stepOf (jn P) l with | none => (l, false, 0) | some m => (m, true, 0)) else ([], false, 2)) else ([], false, 11)
def decE (P : List Pc) (l : List Int) : List Nat × Nat :=
  if May P then (if Toks P l then (if 4096 < (textL P l).length then ([], 3) else (textL P l, 0)) else ([], 2)) else ([], 11)

theorem jn_some {P : List Pc} {x y t : Int} {r : Nat} (h : jn P x y = some (t, r)) : ∃ (T : Nat) (q : Pc), t = (T : Int) ∧ P[T]? = some q ∧ q.join = true ∧ q.left = x ∧ q.right = y ∧ q.rank = r ∧ joinOf P x y = T := by
  unfold jn at h
  split at h
  · rename_i hl
    simp only [Option.some.injEq, Prod.mk.injEq] at h
    obtain ⟨rfl, rfl⟩ := h
    obtain ⟨q, hq⟩ : ∃ q, P[joinOf P x y]? = some q := ⟨_, List.getElem?_eq_getElem hl⟩
    have hf := Vo.first_is (f := fun q => q.join && q.left == x && q.right == y) hq
    simp only [Bool.and_eq_true, beq_iff_eq] at hf
    exact ⟨_, q, rfl, hq, hf.1.1, hf.1.2, hf.2, (Vo.rankAt_of hq).symm, rfl⟩
  · cases h
theorem jn_of {P : List Pc} (hg : Vo.Good P) {T : Nat} {q : Pc} (h : P[T]? = some q) (hj : q.join = true) : jn P q.left q.right = some ((T : Int), q.rank) := by
  have e := Vo.joinOf_self hg h hj
  unfold jn
  rw [e, if_pos (List.getElem?_eq_some_iff.1 h).1, Vo.rankAt_of h]
theorem jn_none {P : List Pc} {x y : Int} (h : jn P x y = none) : ¬ joinOf P x y < P.length := by
  unfold jn at h
  split at h
  · cases h
  · assumption
theorem jn_text {P : List Pc} (hg : Vo.Good P) (x y t : Int) (r : Nat) (h : jn P x y = some (t, r)) : text P t.toNat = text P x.toNat ++ text P y.toNat := by
  obtain ⟨T, q, rfl, hq, hj, rfl, rfl, -, -⟩ := jn_some h
  exact (Vo.text_join hg hq hj).1
theorem jn_tok {P : List Pc} (x y t : Int) (r : Nat) (h : jn P x y = some (t, r)) : 0 ≤ t ∧ t < (P.length : Int) := by
  obtain ⟨T, q, rfl, hq, -⟩ := jn_some h
  have := (List.getElem?_eq_some_iff.1 hq).1
  omega
/-- Unlike joins have unlike ranks. -/
theorem jn_rank {P : List Pc} (hg : Vo.Good P) {x y t x' y' t' : Int} {r : Nat} (h : jn P x y = some (t, r)) (h' : jn P x' y' = some (t', r)) : t = t' ∧ x = x' ∧ y = y' := by
  obtain ⟨T, q, rfl, hq, hj, rfl, rfl, hr, -⟩ := jn_some h
  obtain ⟨T', q', rfl, hq', hj', rfl, rfl, hr', -⟩ := jn_some h'
  have key : ∀ (A B : Nat) (p p' : Pc), P[A]? = some p → P[B]? = some p' → p.join = true → p'.join = true → p.rank = p'.rank → A < B → False := by
    intro A B p p' hA hB hp hp' he hAB
    have hn := (Vo.errAt_join hp' (hg B p' hB)).2.2.2.2.2.2
    have : Vo.hasJoin (P.take B) p' = true := by
      unfold Vo.hasJoin
      rw [List.any_eq_true]
      exact ⟨p, List.mem_of_getElem? (i := A) (by rw [List.getElem?_take, if_pos hAB]; exact hA), by simp [hp, he]⟩
    rw [this] at hn; cases hn
  rcases Nat.lt_trichotomy T T' with h1 | h1 | h1
  · exact (key T T' q q' hq hq' hj hj' (hr.trans hr'.symm) h1).elim
  · subst h1
    rw [hq] at hq'
    obtain rfl := Option.some.inj hq'
    exact ⟨rfl, rfl, rfl⟩
  · exact (key T' T q' q hq' hq hj' hj (hr'.trans hr.symm) h1).elim

section
variable {P : List Pc} (hm : May P) (hok : ∀ q ∈ P, q.byte < 256) {b : List Nat} (hb : ∀ c ∈ b, c < 256)
theorem begin_toks (hm : May P) (hok : ∀ q ∈ P, q.byte < 256) {b : List Nat} (hb : ∀ c ∈ b, c < 256) : Toks P (beginL P b) := by
  intro t ht
  unfold beginL at ht
  obtain ⟨c, hc, rfl⟩ := List.mem_map.1 ht
  have := Vo.tokenOf_lt hm hok (hb c hc)
  omega
theorem tok_text (hm : May P) (hok : ∀ q ∈ P, q.byte < 256) {c : Nat} (hc : c < 256) : text P (tokenOf P c) = [c] := by
  have hl := Vo.tokenOf_lt hm hok hc
  obtain ⟨q, hq⟩ : ∃ q, P[tokenOf P c]? = some q := ⟨_, List.getElem?_eq_getElem hl⟩
  have hf := Vo.first_is (f := fun q => !q.join && q.byte == c) hq
  simp only [Bool.and_eq_true, Bool.not_eq_true', beq_iff_eq] at hf
  rw [Vo.text_byte hq hf.1, hf.2]
theorem begin_text (hm : May P) (hok : ∀ q ∈ P, q.byte < 256) : ∀ {b : List Nat}, (∀ c ∈ b, c < 256) → textL P (beginL P b) = b := by
  intro b
  induction b with
  | nil => intro _; rfl
  | cons c b ih =>
    intro hb
    have e := ih (fun x hx => hb x (by simp [hx]))
    unfold textL beginL at e ⊢
    rw [List.map_cons, List.flatMap_cons, e, Int.toNat_natCast, tok_text hm hok (hb c (by simp))]
    rfl
theorem begin_len : (beginL P b).length = b.length := by unfold beginL; simp
theorem enc_text (hm : May P) (hok : ∀ q ∈ P, q.byte < 256) {b : List Nat} (hb : ∀ c ∈ b, c < 256) : textL P (enc P b) = b :=
  (nf_text (T := fun t => text P t.toNat) (jn_text (Vo.may_iff.1 hm).2.1)).trans (begin_text hm hok hb)
theorem enc_toks (hm : May P) (hok : ∀ q ∈ P, q.byte < 256) {b : List Nat} (hb : ∀ c ∈ b, c < 256) : Toks P (enc P b) :=
  nf_all (V := fun t => 0 ≤ t ∧ t < (P.length : Int)) (jn_tok (P := P)) (begin_toks hm hok hb)
theorem enc_len : (enc P b).length ≤ b.length := by have := nf_len (J := jn P) (l := beginL P b); rw [begin_len] at this; exact this
theorem dec_enc (hm : May P) (hok : ∀ q ∈ P, q.byte < 256) {b : List Nat} (hb : ∀ c ∈ b, c < 256) (hl : b.length ≤ 4096) : decE P (enc P b) = (b, 0) := by
  unfold decE
  rw [if_pos hm, if_pos (enc_toks hm hok hb), enc_text hm hok hb, if_neg (by omega)]
theorem step_toks {l m : List Int} (hl : Toks P l) (h : stepOf (jn P) l = some m) : Toks P m := step_all (V := fun t => 0 ≤ t ∧ t < (P.length : Int)) (jn_tok (P := P)) hl h
theorem step_textL (hg : Vo.Good P) {l m : List Int} (h : stepOf (jn P) l = some m) : textL P m = textL P l := step_text (T := fun t => text P t.toNat) (jn_text hg) h
end

/-! A join more, that ranks behind all others -/
section
variable {P : List Pc} {p : Pc}
theorem joinOf_app {x y : Int} : joinOf (P ++ [p]) x y = if joinOf P x y < P.length then joinOf P x y else if (p.join && p.left == x && p.right == y) = true then P.length else P.length + 1 := by
  unfold joinOf
  rw [List.findIdx_append]
  split
  · rfl
  · rw [List.findIdx_cons]
    cases h : (p.join && p.left == x && p.right == y)
    · simp [cond]; omega
    · simp [cond]
theorem jn_app {x y : Int} : jn (P ++ [p]) x y = match jn P x y with | some q => some q | none => if (p.join && p.left == x && p.right == y) = true then some ((P.length : Int), p.rank) else none := by
  by_cases h : joinOf P x y < P.length
  · have e : jn P x y = some (((joinOf P x y : Nat) : Int), rankAt P ((joinOf P x y : Nat) : Int)) := if_pos h
    rw [e]
    unfold jn
    rw [joinOf_app, if_pos h, if_pos (by rw [List.length_append]; omega)]
    simp only [rankAt, Int.toNat_natCast]
    rw [List.getElem?_append_left h]
  · have e : jn P x y = none := if_neg h
    rw [e]
    unfold jn
    rw [joinOf_app, if_neg h]
    by_cases hp : (p.join && p.left == x && p.right == y) = true
    · rw [if_pos hp, if_pos hp, if_pos (by rw [List.length_append]; simp)]
      simp [rankAt]
    · rw [if_neg hp, if_neg hp, if_neg (by rw [List.length_append]; simp)]
theorem tokenOf_app {c : Nat} (h : tokenOf P c < P.length) : tokenOf (P ++ [p]) c = tokenOf P c := by
  unfold tokenOf at h ⊢
  rw [List.findIdx_append, if_pos h]
theorem begin_app (hm : May P) (hok : ∀ q ∈ P, q.byte < 256) {b : List Nat} (hb : ∀ c ∈ b, c < 256) : beginL (P ++ [p]) b = beginL P b := by
  unfold beginL
  refine List.map_congr_left fun c hc => ?_
  rw [tokenOf_app (Vo.tokenOf_lt hm hok (hb c hc))]
variable (hm : May P) (hok : ∀ q ∈ P, q.byte < 256) {b : List Nat} (hb : ∀ c ∈ b, c < 256)
theorem more_rank (hr : ∀ q ∈ P, q.rank < p.rank) {x y t : Int} {r : Nat} (h : jn P x y = some (t, r)) : r < p.rank := by
  obtain ⟨T, q, -, hq, -, -, -, rfl, -⟩ := jn_some h
  exact hr q (List.mem_of_getElem? hq)
theorem more_a (hr : ∀ q ∈ P, q.rank < p.rank) (x y t : Int) (r : Nat) (h : jn P x y = some (t, r)) : jn (P ++ [p]) x y = some (t, r) ∧ r < p.rank := by
  refine ⟨?_, more_rank hr h⟩
  rw [jn_app, h]
theorem more_b (x y t : Int) (r : Nat) (h : jn (P ++ [p]) x y = some (t, r)) : jn P x y = some (t, r) ∨ (x = p.left ∧ y = p.right ∧ r = p.rank) := by
  rw [jn_app] at h
  cases hj : jn P x y with
  | some q => rw [hj] at h; exact .inl h
  | none =>
    rw [hj] at h
    simp only at h
    split at h
    · rename_i hc
      simp only [Bool.and_eq_true, beq_iff_eq] at hc
      simp only [Option.some.injEq, Prod.mk.injEq] at h
      exact .inr ⟨hc.1.2.symm, hc.2.symm, h.2.symm⟩
    · cases h
/-- Bytes among whose tokens the pair does not stand. -/
theorem enc_more (hm : May P) (hok : ∀ q ∈ P, q.byte < 256) {b : List Nat} (hb : ∀ c ∈ b, c < 256) (hr : ∀ q ∈ P, q.rank < p.rank) (hn : ∀ i, ¬ ((enc P b)[i]? = some p.left ∧ (enc P b)[i + 1]? = some p.right)) : enc (P ++ [p]) b = enc P b := by
  unfold enc at hn ⊢
  rw [begin_app hm hok hb, more_nf (R := p.rank) (a := p.left) (b := p.right) (more_a hr) more_b _ _ (Nat.le_refl _)]
  exact nf_none (more_none (a := p.left) (b := p.right) more_b nf_end hn)
/-- .. and those among whose tokens it does. -/
theorem enc_less (hm : May P) (hok : ∀ q ∈ P, q.byte < 256) {b : List Nat} (hb : ∀ c ∈ b, c < 256) (hr : ∀ q ∈ P, q.rank < p.rank) (hj : p.join = true) {i : Nat} (h1 : (enc P b)[i]? = some p.left) (h2 : (enc P b)[i + 1]? = some p.right) : (enc (P ++ [p]) b).length < (enc P b).length := by
  have hno : jn P p.left p.right = none := by
    have := stepOf_none.1 (nf_end (J := jn P) (l := beginL P b)) i
    unfold enc at h1 h2
    rw [cand_of h1 h2] at this
    exact this
  have hk : jn (P ++ [p]) p.left p.right = some ((P.length : Int), p.rank) := by
    rw [jn_app, hno]
    simp [hj]
  unfold enc at h1 h2 ⊢
  rw [begin_app hm hok hb, more_nf (R := p.rank) (a := p.left) (b := p.right) (more_a hr) more_b _ _ (Nat.le_refl _)]
  exact more_less (R := p.rank) h1 h2 hk
end

/-! A byte that no join has parts a document -/
theorem enc_split {P : List Pc} {a b : List Nat} {c : Nat} (h : ∀ q ∈ P, q.join = true → q.left ≠ ((tokenOf P c : Nat) : Int) ∧ q.right ≠ ((tokenOf P c : Nat) : Int)) : enc P (a ++ c :: b) = enc P a ++ ((tokenOf P c : Nat) : Int) :: enc P b := by
  have key : ∀ x y t r, jn P x y = some (t, r) → x ≠ ((tokenOf P c : Nat) : Int) ∧ y ≠ ((tokenOf P c : Nat) : Int) := by
    intro x y t r hj
    obtain ⟨T, q, -, hq, hqj, rfl, rfl, -, -⟩ := jn_some hj
    exact h q (List.mem_of_getElem? hq) hqj
  have e : beginL P (a ++ c :: b) = beginL P a ++ ((tokenOf P c : Nat) : Int) :: beginL P b := by unfold beginL; simp
  unfold enc
  rw [e]
  refine nf_split (fun x => ?_) (fun x => ?_) _ _ _ (Nat.le_refl _)
  · cases hj : jn P ((tokenOf P c : Nat) : Int) x with
    | none => rfl
    | some q => exact absurd rfl (key _ _ q.1 q.2 hj).1
  · cases hj : jn P x ((tokenOf P c : Nat) : Int) with
    | none => rfl
    | some q => exact absurd rfl (key _ _ q.1 q.2 hj).2
end Go.Proofs.Ytkialijipcbgkaa.Bp
