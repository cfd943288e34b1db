/-
  A list of rows of the call's own, whose bytes are spoilt, one row behind the other.
-/
import Derived.Test.YteemhdoegjdaiaaRowsG
import Derived.Test.YteemhdoegjdaiaaSpoil
namespace Go.Proofs.Yteemhdoegjdaiaa
open Go.RowKit
set_option linter.unusedVariables false

/-- The call's own list v of the rows us, each in a block of the call's own, without spare room; what they hold is not said. -/
def OwnP (w : World) (base : Nat) (v : Value) (us : List Value) : Prop :=
  w.ownsRow base 22 1 v us.length us ∧ ∀ u ∈ us, ∃ (A : Option Addr) (y : List Nat), u = .slice A y.length y.length ∧ OwnB w base u y
theorem OwnR.loose_ {w : World} {base : Nat} {v : Value} {ls : List (List Nat)} (h : OwnR true w base v ls) : ∃ us, us.length = ls.length ∧ OwnP w base v us := by
  obtain ⟨us, h1, h2, h3⟩ := h
  refine ⟨us, h1, h2, fun u hu => ?_⟩
  obtain ⟨j, hj⟩ := List.getElem?_of_mem hu
  have hj' : j < ls.length := by rw [← h1]; exact (List.getElem?_eq_some_iff.1 hj).1
  obtain ⟨⟨A, c, rfl, hc⟩, ho⟩ := h3 j u _ hj (List.getElem?_eq_getElem hj')
  obtain rfl := hc rfl
  exact ⟨A, _, rfl, ho⟩
theorem OwnP.spoilt_ {w w' : World} {base : Nat} {v u : Value} {us : List Value} {y y' : List Nat} {A : Option Addr} (h : OwnP w base v us) (hu : u = .slice A y.length y.length) (ho : OwnB w base u y) (hg : w.grownBy w' u.ownBlock) (hl : y'.length = y.length) (ho' : OwnB w' base u y') : OwnP w' base v us := by
  refine ⟨h.1.kept hg ?_, fun u2 hm => ?_⟩
  · rcases rows_apart h.1 ho with e | e
    · cases hv : v.ownBlock with
      | none => exact .inl rfl
      | some k => right; rw [e]; simp
    · right; exact fun e2 => e e2.symm
  · obtain ⟨A2, y2, rfl, ho2⟩ := h.2 u2 hm
    by_cases he : (Value.slice A2 y2.length y2.length).ownBlock = u.ownBlock
    · subst hu
      cases hb : (Value.slice A y.length y.length).ownBlock with
      | none =>
        rw [hb] at he
        exact ⟨A2, y2, rfl, ho2.kept_ hg (.inl he)⟩
      | some k =>
        rw [hb] at he
        rcases ho.2.2 with ⟨e, _⟩ | ⟨g, cap, cur, e, _, hh, _, _, hs, _⟩
        · injection e with e1 _ _; subst e1; cases hb
        rcases ho2.2.2 with ⟨e2, _⟩ | ⟨g2, cap2, cur2, e2, _, hh2, _, _, hs2, _⟩
        · injection e2 with e1 _ _; subst e1; cases he
        injection e with e1 e3 e4
        injection e2 with f1 f3 f4
        subst e1 f1
        have hgk : g = k := Option.some.inj hb
        have hgk2 : g2 = k := Option.some.inj he
        subst hgk hgk2
        rw [hh] at hh2
        have := Option.some.inj hh2
        injection this with e5 _ _
        subst e5
        have hlen : y2.length = y'.length := by omega
        refine ⟨some ⟨g2, 0, none⟩, y', by rw [hlen], ?_⟩
        rw [hl] at hlen
        rw [hlen]
        exact ho'
    · exact ⟨A2, y2, rfl, ho2.kept_ hg (.inr he)⟩
theorem OwnP.at_ {w : World} {base n c : Nat} {A : Option Addr} {us : List Value} (h : OwnP w base (.slice A n c) us) {k : Nat} (hk : k < us.length) :
    ∃ g A' y, A = some ⟨g, 0, none⟩ ∧ us[k]? = some (.slice A' (y : List Nat).length y.length) ∧ w.cell? ⟨g, k, none⟩ = some (.slice A' y.length y.length) ∧ OwnB w base (.slice A' y.length y.length) y := by
  rcases h.1.2 with ⟨e, h0⟩ | ⟨g, cap, cur, e, hb, _⟩
  · omega
  · injection e with e1 e2 e3
    subst e1 e2
    obtain ⟨A', y, hu, ho⟩ := h.2 us[k] (List.getElem_mem hk)
    refine ⟨g, A', y, rfl, by rw [List.getElem?_eq_getElem hk, hu], ?_, by rw [← hu]; exact ho⟩
    rw [h.1.cellAt k (by omega), List.getElem?_eq_getElem hk, hu]
end Go.Proofs.Yteemhdoegjdaiaa
