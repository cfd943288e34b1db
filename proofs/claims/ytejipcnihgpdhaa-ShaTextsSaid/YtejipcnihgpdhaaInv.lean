/-
  A region whose order is drawn, by an invariant over what has come up.
-/
import Derived.Test.YtejipcnihgpdhaaProg
import Derived.WalkKit
import Derived.StillTailTactics
import Derived.Deep.WholeRow
namespace Go.Proofs.Ytejipcnihgpdhaa
open Go.RowKit
set_option linter.unusedVariables false

section
variable {P : Program} {ops : Array Oper} {Q : Exit → Act → World → Prop} {md : Region.Mode}
theorem ready_false {listed : Array Bool} {i : Nat} (h : i ∈ Region.ready md ops listed) : listed.toList[i]? = some false := by
  have h1 := (mem_ready.1 h).1
  rcases Nat.lt_or_ge i listed.size with h' | h'
  · simp [h'] at h1
    simp [h', h1]
  · simp [Array.getElem?_eq_none h'] at h1
theorem wpAny_inv {I : Array Bool → Act → World → Prop}
    (hstep : ∀ listed a w, I listed a w → ∀ i ∈ Region.ready md ops listed, wpOp P ops Q i (I (listed.setIfInBounds i true)) a w)
    (hend : ∀ listed a w, I listed a w → Region.ready md ops listed = [] → Q .normal a w) :
    ∀ (fuel : Nat) (listed : Array Bool) (a : Act) (w : World), listed.toList.count false ≤ fuel → I listed a w → wpAny P md ops Q fuel listed a w
  | 0, listed, a, w, hc, hI => by
    have h0 : Region.ready md ops listed = [] := by
      apply List.eq_nil_iff_forall_not_mem.2
      intro i hi
      have h1 := ready_false hi
      have h2 : false ∈ listed.toList := List.mem_of_getElem? h1
      have h3 : 0 < listed.toList.count false := List.count_pos_iff.2 h2
      omega
    exact ⟨h0, hend _ _ _ hI h0⟩
  | fuel + 1, listed, a, w, hc, hI => by
    refine ⟨fun h0 => hend _ _ _ hI h0, fun i hi => wpOp_mono (fun a' w' h' => wpAny_inv hstep hend fuel _ a' w' ?_ h') (hstep _ _ _ hI i hi)⟩
    have h1 := ready_false hi
    obtain ⟨hlt, he⟩ := List.getElem?_eq_some_iff.1 h1
    rw [Array.toList_setIfInBounds, List.count_set hlt, he]
    simp only [show (false == false) = true from rfl, show (true == false) = false from rfl, if_true, Bool.false_eq_true, if_false]
    omega
theorem wpOp_some {i : Nat} {o : Oper} {K : Act → World → Prop} {a : Act} {w : World} (hi : ops[i]? = some o) (hg : o.guard = none) (h : o.wp P a w K Q) : wpOp P ops Q i K a w := by
  unfold wpOp
  simp only [hi]
  rw [if_pos (by simp [Region.wanted, hg])]
  exact .inl h
/-- What it waits for has come up. -/
theorem ready_has {listed : Array Bool} {i : Nat} {o : Oper} (h : i ∈ Region.ready md ops listed) (hi : ops[i]? = some o) {e : Edge} (he : e ∈ o.after) (hb : Region.binds md e = true) : listed.getD e.on false = true := by
  obtain ⟨_, o', ho', hall⟩ := mem_ready.1 h
  have : o' = o := Option.some.inj (ho'.symm.trans hi)
  subst this
  exact hall e he hb
/-- Nothing may come up any more: whatever waits for none that lacks has come up. -/
theorem ready_done {listed : Array Bool} {i : Nat} {o : Oper} (h : Region.ready md ops listed = []) (hi : ops[i]? = some o) (hl : i < listed.size)
    (ha : ∀ e ∈ o.after, Region.binds md e = true → listed.getD e.on false = true) : listed.getD i false = true := by
  cases hb : listed.getD i false with
  | true => rfl
  | false =>
    have : i ∈ Region.ready md ops listed := mem_ready.2 ⟨by simp [hl] at hb ⊢; exact hb, o, hi, ha⟩
    rw [h] at this
    cases this
theorem ready_not {listed : Array Bool} {i : Nat} (h : i ∈ Region.ready md ops listed) : listed.getD i false = false := by
  have h1 := ready_false h
  obtain ⟨hlt, he⟩ := List.getElem?_eq_some_iff.1 h1
  simp at hlt he
  simp [hlt, he]
theorem getD_bits {listed : Array Bool} {i : Nat} (h : i < listed.size) (j : Nat) : (listed.setIfInBounds i true).getD j false = (decide (i = j) || listed.getD j false) := by
  by_cases hij : i = j
  · subst hij
    simp [h]
  · simp [Array.getElem?_setIfInBounds_ne hij, hij]
/-- A whole array, read in a region whose order is drawn. -/
theorem wpStill_load_row {w : World} {R : Act → Prop} {a : Act} {o : Oper} {rest : List Oper} (hgd : o.guard = none) (ty : TypeId) (x : Operand) (ho : o.op = .load ty x)
    (g : Nat) (hx : a.eval x = .pointer (some ⟨g, 0, none⟩)) (t : TypeId) (cs : Array Value) (fr : Nat × Nat) (d : TypeDesc) (hg : w.heap[g]? = some (.cells cs t fr))
    (hu : P.underlying ty = some d) (hd : (match d with | .struct _ | .array _ _ => true | _ => false) = true) (hi : (P.info? ty).map (·.size) = some cs.size)
    (h : wpStill P ops w R rest (a.put o.dst (.agg cs))) : wpStill P ops w R (o :: rest) a :=
  wpStill_step fun K hK => by
    rw [if_pos (by simp [Region.wanted, hgd])]
    unfold Oper.still execOp
    simp only [ho, hx, Instr.loadAt, Instr.sureAddr, Sem.run_bind, Sem.run_pure, Result.andThen_ok, run_loadVar_row w g t ty cs fr d hg hu hd hi, Oper.stillUpon]
    exact ⟨trivial, hK _ h⟩
end
end Go.Proofs.Ytejipcnihgpdhaa
