/-
  VoMathC: Plain mathematics of chapter 8: the bytes that are there; what is found first.
  VoMathJ: Plain mathematics of chapter 8: the joins by their ranks.
  VoSpecM: What the calls of package vocab answer, said of pieces.
-/
import Derived.Test.YtaedhccmdbodlaaPk02
import Derived.Test.YtaedhccmdbodlaaPk04
namespace Go.Proofs.Ytaedhccmdbodlaa
set_option linter.unusedVariables false

namespace Vo
def expandE (P : List Pc) (t : Int) : List Nat × Nat := if May P then (if t < 0 ∨ (P.length : Int) ≤ t then ([], 2) else (text P t.toNat, 0)) else ([], 11)
/-- The first token that is this byte. -/
def tokenOf (P : List Pc) (c : Nat) : Nat := P.findIdx (fun q => !q.join && q.byte == c)
def byteE (P : List Pc) (c : Nat) : Nat × Nat := if May P then (tokenOf P c, 0) else (0, 11)
end Vo
namespace Vo
theorem good_app {l : List Pc} {x : Pc} (h : Good (l ++ [x])) : Good l ∧ errAt l x = 0 := by
  constructor
  · have := h.take l.length
    rwa [List.take_left] at this
  · have := h l.length x (by simp)
    rwa [List.take_left] at this
/-- The bytes that are there. -/
def theBytes (P : List Pc) : List Nat := (P.filter (fun q => !q.join)).map (fun q => q.byte)
theorem theBytes_mem {P : List Pc} {b : Nat} : b ∈ theBytes P ↔ ∃ q ∈ P, q.join = false ∧ q.byte = b := by
  simp [theBytes, and_assoc]
theorem theBytes_nodup {P : List Pc} (h : Good P) : (theBytes P).Nodup := by
  revert h
  refine snoc_ind (C := fun P => Good P → (theBytes P).Nodup) (by simp [theBytes]) (fun l x ih h => ?_) P
  obtain ⟨h1, h2⟩ := good_app h
  have hl := ih h1
  cases hj : x.join with
  | true => simpa [theBytes, hj] using hl
  | false =>
    have e : theBytes (l ++ [x]) = theBytes l ++ [x.byte] := by simp [theBytes, hj]
    rw [e, List.nodup_append]
    refine ⟨hl, by simp, ?_⟩
    intro a ha b hb
    simp at hb
    subst hb
    intro e2
    subst e2
    obtain ⟨_, _, _, h6⟩ := errAt_byte hj h2
    obtain ⟨q, hq, hqj, hqb⟩ := theBytes_mem.1 ha
    have : hasByte l x = true := by
      unfold hasByte
      rw [List.any_eq_true]
      exact ⟨q, hq, by simp [hqj, hqb]⟩
    rw [this] at h6
    cases h6
/-- Each byte is there. -/
theorem byte_there {P : List Pc} (h : May P) (hok : ∀ q ∈ P, q.byte < 256) {c : Nat} (hc : c < 256) : ∃ q ∈ P, q.join = false ∧ q.byte = c := by
  obtain ⟨_, hg, hm⟩ := may_iff.1 h
  rw [← theBytes_mem]
  by_cases hin : c ∈ theBytes P
  · exact hin
  · have := List.Nodup.length_le_of_subset (l₁ := c :: theBytes P) (l₂ := List.range 256) (List.nodup_cons.2 ⟨hin, theBytes_nodup hg⟩) (by
      intro y hy
      rcases List.mem_cons.1 hy with rfl | hy
      · exact List.mem_range.2 hc
      · obtain ⟨q, hq, _, rfl⟩ := theBytes_mem.1 hy
        exact List.mem_range.2 (hok q hq))
    rw [List.length_range, List.length_cons] at this
    have e : (theBytes P).length = bytesOf P := by simp [theBytes, bytesOf]
    omega
theorem tokenOf_lt {P : List Pc} (h : May P) (hok : ∀ q ∈ P, q.byte < 256) {c : Nat} (hc : c < 256) : tokenOf P c < P.length := by
  obtain ⟨q, hq, hj, hb⟩ := byte_there h hok hc
  exact List.findIdx_lt_length_of_exists ⟨q, hq, by simp [hj, hb]⟩
theorem first_not {P : List Pc} {f : Pc → Bool} {k : Nat} {q : Pc} (h : k < P.findIdx f) (hq : P[k]? = some q) : f q = false := by
  have hk : k < P.length := (List.getElem?_eq_some_iff.1 hq).1
  have h2 := List.not_of_lt_findIdx h
  rw [List.getElem?_eq_getElem hk] at hq
  rw [Option.some.inj hq] at h2
  simpa using h2
theorem first_is {P : List Pc} {f : Pc → Bool} {q : Pc} (hq : P[P.findIdx f]? = some q) : f q = true := by
  have hk : P.findIdx f < P.length := (List.getElem?_eq_some_iff.1 hq).1
  have h2 := List.findIdx_getElem (w := hk)
  rw [List.getElem?_eq_getElem hk] at hq
  rwa [Option.some.inj hq] at h2
theorem first_le {P : List Pc} {f : Pc → Bool} : P.findIdx f ≤ P.length := List.findIdx_le_length
/-- The first join of these two. -/
def joinOf (P : List Pc) (l r : Int) : Nat := P.findIdx (fun q => q.join && q.left == l && q.right == r)
def findE (P : List Pc) (l r : Int) : Nat × Bool := if joinOf P l r < P.length then (joinOf P l r, true) else (0, false)
end Vo
end Go.Proofs.Ytaedhccmdbodlaa
namespace Go.Proofs.Ytaedhccmdbodlaa
set_option linter.unusedVariables false

namespace Vo
def rankAt (P : List Pc) (t : Int) : Nat := match P[t.toNat]? with | some q => q.rank | none => 0
theorem rankAt_of {P : List Pc} {t : Nat} {q : Pc} (h : P[t]? = some q) : rankAt P (t : Int) = q.rank := by simp [rankAt, h]
/-- Where a join of this rank is put. -/
def place (P : List Pc) (o : List Int) (r : Nat) : Nat := o.findIdx (fun t => !decide (rankAt P t < r))
def joinsTo (P : List Pc) : Nat → List Int
  | 0 => []
  | k + 1 => match P[k]? with
    | some q => if q.join = true then (joinsTo P k).take (place P (joinsTo P k) q.rank) ++ [(k : Int)] ++ (joinsTo P k).drop (place P (joinsTo P k) q.rank) else joinsTo P k
    | none => joinsTo P k
def joinsE (P : List Pc) : List Int := if May P then joinsTo P P.length else []
theorem joinsTo_byte {P : List Pc} {k : Nat} {q : Pc} (h : P[k]? = some q) (hj : q.join = false) : joinsTo P (k + 1) = joinsTo P k := by
  rw [joinsTo, h]; simp [hj]
theorem joinsTo_join {P : List Pc} {k : Nat} {q : Pc} (h : P[k]? = some q) (hj : q.join = true) : joinsTo P (k + 1) = (joinsTo P k).take (place P (joinsTo P k) q.rank) ++ [(k : Int)] ++ (joinsTo P k).drop (place P (joinsTo P k) q.rank) := by
  rw [joinsTo, h]; simp [hj]
theorem joinsTo_mem {P : List Pc} {k : Nat} {t : Int} (h : t ∈ joinsTo P k) : ∃ (T : Nat) (q : Pc), t = (T : Int) ∧ T < k ∧ P[T]? = some q ∧ q.join = true := by
  induction k with
  | zero => simp [joinsTo] at h
  | succ k ih =>
    have hin : t ∈ joinsTo P k → ∃ (T : Nat) (q : Pc), t = (T : Int) ∧ T < k + 1 ∧ P[T]? = some q ∧ q.join = true := fun h => by
      obtain ⟨T, q, h1, h2, h3⟩ := ih h
      exact ⟨T, q, h1, by omega, h3⟩
    cases hp : P[k]? with
    | none => rw [joinsTo, hp] at h; exact hin h
    | some q =>
      cases hj : q.join with
      | false => rw [joinsTo_byte hp hj] at h; exact hin h
      | true =>
        rw [joinsTo_join hp hj] at h
        simp only [List.mem_append, List.mem_singleton] at h
        rcases h with (h | h) | h
        · exact hin (List.mem_of_mem_take h)
        · exact ⟨k, q, h, by omega, hp, hj⟩
        · exact hin (List.mem_of_mem_drop h)
theorem joinsTo_len (P : List Pc) (k : Nat) : (joinsTo P k).length ≤ k := by
  induction k with
  | zero => simp [joinsTo]
  | succ k ih =>
    cases hp : P[k]? with
    | none => rw [joinsTo, hp]; simp only; omega
    | some q =>
      cases hj : q.join with
      | false => rw [joinsTo_byte hp hj]; omega
      | true =>
        rw [joinsTo_join hp hj]
        simp only [List.length_append, List.length_take, List.length_drop, List.length_singleton]
        omega
theorem place_le (P : List Pc) (o : List Int) (r : Nat) : place P o r ≤ o.length := List.findIdx_le_length
theorem place_next {P : List Pc} {o : List Int} {r j : Nat} {t : Int} (h : j ≤ place P o r) (ht : o[j]? = some t) (hr : rankAt P t < r) : j + 1 ≤ place P o r := by
  rcases Nat.lt_or_ge j (place P o r) with h1 | h1
  · exact h1
  · have e : j = place P o r := by omega
    have hj : j < o.length := (List.getElem?_eq_some_iff.1 ht).1
    have h2 := List.findIdx_getElem (p := fun t => !decide (rankAt P t < r)) (xs := o) (w := by show place P o r < o.length; omega)
    have h3 : o[o.findIdx (fun t => !decide (rankAt P t < r))]? = some t := by rw [← ht, e]; rfl
    rw [List.getElem?_eq_getElem (by show place P o r < o.length; omega)] at h3
    rw [Option.some.inj h3] at h2
    simp at h2
    omega
theorem place_stop {P : List Pc} {o : List Int} {r j : Nat} (h : j ≤ place P o r) (hs : o.length ≤ j ∨ ∃ t, o[j]? = some t ∧ ¬ rankAt P t < r) : place P o r = j := by
  rcases hs with hs | ⟨t, ht, hr⟩
  · have := place_le P o r; omega
  · rcases Nat.lt_or_ge j (place P o r) with h1 | h1
    · have hj : j < o.length := (List.getElem?_eq_some_iff.1 ht).1
      have h2 := List.not_of_lt_findIdx h1
      rw [List.getElem?_eq_getElem hj] at ht
      rw [Option.some.inj ht] at h2
      simp at h2
      omega
    · omega
end Vo
end Go.Proofs.Ytaedhccmdbodlaa
namespace Go.Proofs.Ytaedhccmdbodlaa.Vo
def sizeE (P : List Pc) (t : Int) : Nat × Nat := ((expandE P t).1.length, (expandE P t).2)
def foundE (P : List Pc) (l r : Int) : Nat × Bool := if May P then findE P l r else (0, false)
end Go.Proofs.Ytaedhccmdbodlaa.Vo
