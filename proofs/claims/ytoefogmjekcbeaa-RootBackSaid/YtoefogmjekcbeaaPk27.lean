/-
  Left: stookref00.Left: what Wide made is as it was, the room behind it, too.
  Grow: A region whose order is drawn, where each operation but the last ones yields the same value in whatever world of a set that none of them leaves (calls that only make memory among them).
  OpenL: An argument that is a slice of whatever elements, opened as a list: from how one element reads.
-/
import Derived.Test.YtoefogmjekcbeaaPk26
import Derived.Test.YtoefogmjekcbeaaProg
import Derived.WalkKit
import Derived.StillTailTactics
import Derived.Deep.MidRow
import Derived.Test.YtoefogmjekcbeaaPk02
import Derived.Deep.Slices
import Derived.Deep.Fields
import Derived.OpenShut
namespace Go.Proofs.Ytoefogmjekcbeaa
open Go.RowKit
set_option linter.unusedVariables false

set_option maxHeartbeats 1000000 in
set_option maxRecDepth 100000 in
theorem left_any (g : Nat) (l : List Nat) (v : Value) (B B' : Nat) (w : World) (h : Bv w B (.slice (some ⟨g, 0, none⟩) (l.length + 3) (l.length + 3)) (l ++ [7, 7, 7])) (h' : Bv w B' v l) :
    Calls Try.prog 13 #[.slice (some ⟨g, 0, none⟩) l.length (l.length + 3), v] w (IsBool true w) := by
  have h1 := h.take_ (k := l.length) (by simp)
  rw [List.take_left] at h1
  have HS := Lib.hid (same_bv _ _ _ _ _ _ w h1 h')
  obtain ⟨A0, c0, e0, _, hc0, _, hts⟩ := h
  injection e0 with e1 e2 e3
  subst e1 e3
  unfold maxLen at hc0
  have hcell : ∀ j, j < 3 → w.cell? ⟨g, l.length + j, none⟩ = some (.int .u8 7) := by
    intro j hj
    obtain ⟨b, off, e4, _, hc⟩ := hts.2 (by simp)
    injection e4 with e4
    injection e4 with e5 e6
    subst e5 e6
    have h2 : (l ++ [7, 7, 7])[l.length + j]? = some 7 := by
      rw [List.getElem?_append_right (by omega)]
      have e : l.length + j - l.length = j := by omega
      rw [e]
      match j, hj with
      | 0, _ => rfl
      | 1, _ => rfl
      | 2, _ => rfl
    have h3 := hc _ _ h2
    rw [Nat.zero_add] at h3
    exact h3
  have k0 := hcell 0 (by omega)
  have k1 := hcell 1 (by omega)
  have k2 := hcell 2 (by omega)
  rw [Nat.add_zero] at k0
  obtain ⟨A, c, rfl, _, _, _, _⟩ := h'
  clear h1 hts hcell e2
  go_enter Try.func13, Try.ntmps13
  go_wp2_with fail
  ((with_reducible refine HS.out.mono ?_); rintro e w1 ⟨he, hb⟩)
  simp only [decide_true] at he
  subst he
  have m0 : w1.cell? ⟨g, l.length, none⟩ = some (.int .u8 7) := (hb.cell (p := ⟨g, l.length, none⟩) (World.block_lt_of_cell? w _ k0)).trans k0
  have m1 : w1.cell? ⟨g, l.length + 1, none⟩ = some (.int .u8 7) := (hb.cell (p := ⟨g, l.length + 1, none⟩) (World.block_lt_of_cell? w _ k1)).trans k1
  have m2 : w1.cell? ⟨g, l.length + 2, none⟩ = some (.int .u8 7) := (hb.cell (p := ⟨g, l.length + 2, none⟩) (World.block_lt_of_cell? w _ k2)).trans k2
  have HB := Lib.hid hb
  clear HS k0 k1 k2 hb
  go_wp2
  go_ret
  exact ⟨rfl, HB.out⟩

end Go.Proofs.Ytoefogmjekcbeaa
namespace Go.Proofs.Ytoefogmjekcbeaa
open Go.RowKit
set_option linter.unusedVariables false

section
variable {P : Program} {ops : Array Oper} {md : Region.Mode} {R : World → Prop}

def FixedR (P : Program) (R : World → Prop) (v : Value) : Result Next → Prop
  | .ok (.value u) w' => u = v ∧ R w'
  | .ok .skip w' => v = undef ∧ R w'
  | .ok (.enter f args) w' => Calls P f args w' (fun e w'' => e = .returned v ∧ R w'')
  | _ => False
/-- In whatever world of R the operation yields v, and stays in R. -/
def FixedIn (P : Program) (ops : Array Oper) (R : World → Prop) (o : Oper) (v : Value) (a : Act) : Prop :=
  (Region.wanted o (yielded ops a.tmps) = true ∧ ∀ w, R w → FixedR P R v ((execOp a.eval o).run P w)) ∨ (Region.wanted o (yielded ops a.tmps) = false ∧ v = undef)
theorem FixedIn.of_same {o : Oper} {v : Value} {a a' : Act} (h : FixedIn P ops R o v a) (he : execOp a'.eval o = execOp a.eval o)
    (hw : Region.wanted o (yielded ops a'.tmps) = Region.wanted o (yielded ops a.tmps)) : FixedIn P ops R o v a' := by
  unfold FixedIn at *
  rw [he, hw]
  exact h
theorem FixedIn.wpOp {i : Nat} {o : Oper} {v : Value} {a : Act} (hi : ops[i]? = some o) (h : FixedIn P ops R o v a) {w : World} (hR : R w) {K : Act → World → Prop} {Q : Exit → Act → World → Prop}
    (hK : ∀ w', R w' → K (a.put o.dst v) w') : wpOp P ops Q i K a w := by
  unfold Go.wpOp
  simp only [hi]
  rcases h with ⟨hw, hv⟩ | ⟨hw, rfl⟩
  · rw [if_pos hw]
    refine .inl ?_
    have h := hv w hR
    unfold Oper.wp
    generalize (execOp a.eval o).run P w = r at *
    cases r with
    | ok n w' =>
      cases n <;> simp only [FixedR] at h <;> simp only [Oper.upon]
      case value u => obtain ⟨rfl, h2⟩ := h; exact hK _ h2
      case skip => obtain ⟨rfl, h2⟩ := h; exact hK _ h2
      case enter f args => exact h.mono fun e w'' ⟨he, hw⟩ => by subst he; exact hK _ hw
    | halt x w' => exact h.elim
  · simp only [hw, Bool.false_eq_true, if_false]
    exact hK _ hR

def grStep (P : Program) (ops : Array Oper) (R : World → Prop) (i : Nat) (K : Act → Prop) (a : Act) : Prop :=
  ∃ o v, ops[i]? = some o ∧ FixedIn P ops R o v a ∧ K (a.put o.dst v)
theorem grStep_mono {i : Nat} {a : Act} {K K' : Act → Prop} (h : ∀ a, K a → K' a) (hh : grStep P ops R i K a) : grStep P ops R i K' a := by
  obtain ⟨o, v, h1, h2, h3⟩ := hh
  exact ⟨o, v, h1, h2, h _ h3⟩
theorem grStep_put {j : Nat} {oi oj : Oper} {v : Value} (hj : ops[j]? = some oj) (hap : oi.apart ops oj = true)
    (hsi : ∀ cs b, oi.op ≠ .select cs b) (hsj : ∀ cs b, oj.op ≠ .select cs b) {K : Act → Prop} {a : Act}
    (hy : FixedIn P ops R oi v a) (h : grStep P ops R j K (a.put oi.dst v)) :
    grStep P ops R j (fun a' => FixedIn P ops R oi v a' ∧ K (a'.put oi.dst v)) a := by
  obtain ⟨h1, h2, h3⟩ := Oper.apart_spec hap
  obtain ⟨o, u, ho, hf, hK⟩ := h
  obtain rfl : o = oj := Option.some.inj (ho.symm.trans hj)
  refine ⟨o, u, ho, hf.of_same (execOp_put o hsj a oi.dst v h1).symm (wanted_put o a oi.dst v h1).symm, hy.of_same (execOp_put oi hsi a o.dst u h3) (wanted_put oi a o.dst u h3), ?_⟩
  rw [← Act.put_comm a v u h2]
  exact hK
def wpAnyG (P : Program) (md : Region.Mode) (ops : Array Oper) (R : World → Prop) (n : Nat) (L : Array Bool → Act → Prop) : Nat → Array Bool → Act → Prop
  | 0, listed, a => L listed a
  | f + 1, listed, a => Region.ready md ops listed ≠ [] ∧ ∀ i ∈ Region.ready md ops listed, i < n ∧ grStep P ops R i (wpAnyG P md ops R n L f (listed.setIfInBounds i true)) a
theorem wpAny_of_grown {n g : Nat} {L : Array Bool → Act → Prop} {Q : Exit → Act → World → Prop} (hL : ∀ listed a w, R w → L listed a → wpAny P md ops Q g listed a w) :
    ∀ (f : Nat) (listed : Array Bool) (a : Act) (w : World), R w → wpAnyG P md ops R n L f listed a → wpAny P md ops Q (f + g) listed a w
  | 0, listed, a, w, hR, h => by rw [Nat.zero_add]; exact hL _ _ _ hR h
  | f + 1, listed, a, w, hR, h => by
    rw [show f + 1 + g = (f + g) + 1 by omega]
    refine ⟨fun h0 => absurd h0 h.1, fun i hi => ?_⟩
    obtain ⟨o, v, ho, hf, hK⟩ := (h.2 i hi).2
    exact hf.wpOp ho hR fun w' hR' => wpAny_of_grown hL f _ _ w' hR' hK
theorem wpAnyG_first {n i : Nat} {oi : Oper} {v : Value} {L : Array Bool → Act → Prop} (hi : ops[i]? = some oi) (hsel : ∀ (j : Nat) (o : Oper) cs b, ops[j]? = some o → o.op ≠ .select cs b)
    (hs : Region.sinkB md ops n = true) (hc : Region.chainB md ops n = true) (hn : n < ops.size) (hin : i < n)
    (hdone : ∀ listed a, L listed a → ∀ j ∈ Region.ready md ops listed, n ≤ j) :
    ∀ (f : Nat) (listed : Array Bool) (a : Act), HeadInv md ops n listed →
      (∀ j oj, ops[j]? = some oj → j ≠ i → listed.getD j true = false → (∀ e ∈ oj.after, Region.binds md e = true → e.on ≠ i) → oi.apart ops oj = true) →
      i ∈ Region.ready md ops listed → FixedIn P ops R oi v a →
      wpAnyG P md ops R n L f (listed.setIfInBounds i true) (a.put oi.dst v) → wpAnyG P md ops R n L (f + 1) listed a := by
  intro f
  induction f with
  | zero =>
    intro listed a inv _ hr hy H
    have hun := (mem_ready.1 hr).1
    refine ⟨fun h => (by rw [h] at hr; cases hr), fun j hj => ?_⟩
    have hjn : j < n := by
      rcases Nat.lt_or_ge j n with h | h
      · exact h
      · exact absurd hj (tail_waits hs hc hn inv _ i rfl hin hun j h)
    refine ⟨hjn, ?_⟩
    by_cases hji : j = i
    · subst hji; exact ⟨oi, v, hi, hy, H⟩
    · have := hdone _ _ H j (ready_mono hj hji)
      omega
  | succ f ih =>
    intro listed a inv hfree hr hy H
    have hun := (mem_ready.1 hr).1
    refine ⟨fun h => (by rw [h] at hr; cases hr), fun j hj => ?_⟩
    have hjn : j < n := by
      rcases Nat.lt_or_ge j n with h | h
      · exact h
      · exact absurd hj (tail_waits hs hc hn inv _ i rfl hin hun j h)
    refine ⟨hjn, ?_⟩
    by_cases hji : j = i
    · subst hji; exact ⟨oi, v, hi, hy, H⟩
    · have h1 := (H.2 j (ready_mono hj hji)).2
      obtain ⟨hjun, oj, hoj, hall⟩ := mem_ready.1 hj
      have hnot : ∀ e ∈ oj.after, Region.binds md e = true → e.on ≠ i := fun e he hb heq => by
        have h1 := hall e he hb
        rw [heq, getD_both hun] at h1
        cases h1
      have h2 := grStep_put hoj (hfree j oj hoj hji hjun hnot) (fun cs b => hsel i oi cs b hi) (fun cs b => hsel j oj cs b hoj) hy h1
      have hfree' : ∀ k ok, ops[k]? = some ok → k ≠ i → (listed.setIfInBounds j true).getD k true = false →
          (∀ e ∈ ok.after, Region.binds md e = true → e.on ≠ i) → oi.apart ops ok = true := fun k ok hk hki hun hno => by
        refine hfree k ok hk hki ?_ hno
        by_cases hjk : j = k
        · subst hjk; exact hjun
        · rw [getD_set_ne true hjk] at hun; exact hun
      refine grStep_mono (fun a' h3 => ih (listed.setIfInBounds j true) a' (inv.set hj hjn) hfree' (ready_mono hr (Ne.symm hji)) h3.1 ?_) h2
      rw [Array.setIfInBounds_comm _ _ hji]
      exact h3.2

/-- The operations of a list, one behind the other. -/
def wpGrow (P : Program) (ops : Array Oper) (R : World → Prop) (Q : Act → Prop) : List Oper → Act → Prop
  | [], a => Q a
  | o :: rest, a => ∃ v, FixedIn P ops R o v a ∧ wpGrow P ops R Q rest (a.put o.dst v)
theorem wpAnyG_lex {n g : Nat} {Lq : Act → Prop} (hsel : Region.noSelect ops = true) (hs : Region.sinkB md ops n = true) (hc : Region.chainB md ops n = true) (hn : n < ops.size) :
    ∀ (l : List Oper) (k : Nat) (listed : Array Bool) (a : Act), (∀ j, j < l.length → l[j]? = ops[k + j]?) → k + l.length = n → HeadInv md ops n listed →
    Region.lexHead md ops g l.length k listed = true → wpGrow P ops R Lq l a →
    wpAnyG P md ops R n (fun listed' a' => Region.seqB md ops g n listed' = true ∧ Lq a') l.length listed a
  | [], k, listed, a, _, hk, _, hB, h => by
    have : k = n := by simpa using hk
    subst this
    exact ⟨by simpa [Region.lexHead] using hB, h⟩
  | o :: l, k, listed, a, hl, hk, inv, hB, h => by
    have h0 : ops[k]? = some o := by simpa using (hl 0 (by simp)).symm
    simp only [List.length_cons, Region.lexHead, Bool.and_eq_true] at hB
    obtain ⟨⟨hr, hf⟩, hB'⟩ := hB
    have hkn : k < n := by simp only [List.length_cons] at hk; omega
    have hr' : k ∈ Region.ready md ops listed := by simpa using hr
    obtain ⟨v, hy, hK⟩ := h
    exact wpAnyG_first h0 (Region.noSelect_spec hsel) hs hc hn hkn (fun listed' a' hL => seqB_ready hL.1) l.length listed a inv (Region.free_spec h0 hf) hr' hy
      (wpAnyG_lex hsel hs hc hn l (k + 1) _ _ (fun j hj => by have := hl (j + 1) (by simp; omega); simpa [Nat.add_assoc, Nat.add_comm 1 j] using this) (by simp only [List.length_cons] at hk; omega) (inv.set hr' hkn) hB' hK)
theorem wp_region_grow {id : Nat} {Q : Exit → Act → World → Prop} {a : Act} {w : World} {l : List Oper} (n : Nat) (hm : P.follows .mixedOrders = true) (hB : Region.lexTailB .any l.toArray n = true)
    (R : World → Prop) (hR : R w.drew) (h : wpGrow P l.toArray R (fun a' => ∀ w', R w' → wpList P l.toArray Q (l.drop n) a' w') (l.take n) a) : (Code.region id l.toArray true).wp P Q a w := by
  simp only [Region.lexTailB, Bool.and_eq_true, decide_eq_true_eq] at hB
  obtain ⟨⟨⟨⟨hsel, hn⟩, hs⟩, hc⟩, hlex⟩ := hB
  have hn' : n < l.length := by simpa using hn
  have htl : (l.take n).length = n := by simp; omega
  have hdl : (l.drop n).length = l.toArray.size - n := by simp
  have inv0 : HeadInv .any l.toArray n (Array.replicate l.toArray.size false) :=
    ⟨by simp, fun j oj _ hl => (by rw [getD_replicate_false] at hl; cases hl), fun t _ ht => getD_in (by simpa using ht) (getD_replicate_false _ _)⟩
  have H := wpAnyG_lex (md := .any) (g := l.toArray.size - n) hsel hs hc hn (l.take n) 0 _ a (fun j hj => by
    have hj' : j < n := by rw [htl] at hj; exact hj
    simp [hj']) (by simpa using htl) inv0 (by rw [htl]; exact hlex) h
  refine wp_region_any hm ?_
  have := wpAny_of_grown (Q := Q) (g := l.toArray.size - n) (fun listed a' w' hR' hL => by
    have := wpAny_of_seq (md := .any) (Q' := Q) (l.drop n) n listed a' w' (fun j => by simp [List.getElem?_drop]) (by rw [hdl]; exact hL.1) (hL.2 w' hR')
    rwa [hdl] at this) _ _ _ _ hR H
  rw [htl, show n + (l.toArray.size - n) = l.toArray.size by omega] at this
  exact this

/-! The steps. -/
variable {Q : Act → Prop} {a : Act} {o : Oper} {rest : List Oper}
theorem wpGrow_nil (h : Q a) : wpGrow P ops R Q [] a := h
theorem wpGrow_pure {v : Value} (hw : Region.wanted o (yielded ops a.tmps) = true) (h : ∀ w, R w → (execOp a.eval o).run P w = .ok (.value v) w) (hn : wpGrow P ops R Q rest (a.put o.dst v)) : wpGrow P ops R Q (o :: rest) a :=
  ⟨v, .inl ⟨hw, fun w hR => by rw [h w hR]; exact ⟨rfl, hR⟩⟩, hn⟩
theorem wpGrow_off (hw : Region.wanted o (yielded ops a.tmps) = false) (hn : wpGrow P ops R Q rest (a.put o.dst undef)) : wpGrow P ops R Q (o :: rest) a := ⟨undef, .inr ⟨hw, rfl⟩, hn⟩
theorem wpGrow_call {v : Value} {f : Nat} {args : Array Value} (hw : Region.wanted o (yielded ops a.tmps) = true) (h : ∀ w, (execOp a.eval o).run P w = .ok (.enter f args) w)
    (hc : ∀ w, R w → Calls P f args w (fun e w'' => e = .returned v ∧ R w'')) (hn : wpGrow P ops R Q rest (a.put o.dst v)) : wpGrow P ops R Q (o :: rest) a :=
  ⟨v, .inl ⟨hw, fun w hR => by rw [h w]; exact hc w hR⟩, hn⟩
theorem wpGrow_load_row (hw : Region.wanted o (yielded ops a.tmps) = true) (ty : TypeId) (x : Operand) (ho : o.op = .load ty x)
    (g : Nat) (hx : a.eval x = .pointer (some ⟨g, 0, none⟩)) (t : TypeId) (cs : Array Value) (fr : Nat × Nat) (d : TypeDesc) (hg : ∀ w, R w → w.heap[g]? = some (.cells cs t fr))
    (hu : P.underlying ty = some d) (hd : (match d with | .struct _ | .array _ _ => true | _ => false) = true) (hi : (P.info? ty).map (·.size) = some cs.size)
    (h : wpGrow P ops R Q rest (a.put o.dst (.agg cs))) : wpGrow P ops R Q (o :: rest) a :=
  wpGrow_pure hw (fun w hR => by
    unfold execOp
    simp only [ho, hx, Instr.loadAt, Instr.sureAddr, Sem.run_bind, Sem.run_pure, Result.andThen_ok, run_loadVar_row w g t ty cs fr d (hg w hR) hu hd hi]) h
theorem wpGrow_load_mid (hw : Region.wanted o (yielded ops a.tmps) = true) (ty : TypeId) (x : Operand) (ho : o.op = .load ty x)
    (b off : Nat) (hx : a.eval x = .pointer (some ⟨b, off, none⟩)) (cs : Array Value) (d : TypeDesc) (hc : ∀ w, R w → w.rangeAt b off cs.toList)
    (hu : P.underlying ty = some d) (hd : d.isRow = true) (hi : (P.info? ty).map (·.size) = some cs.size)
    (h : wpGrow P ops R Q rest (a.put o.dst (.agg cs))) : wpGrow P ops R Q (o :: rest) a :=
  wpGrow_pure hw (fun w hR => by
    unfold execOp
    simp only [ho, hx, Instr.loadAt, Instr.sureAddr, Sem.run_bind, Sem.run_pure, Result.andThen_ok, run_loadVar_mid w b off ty cs.toList d (hc w hR) hu hd (by simpa using hi)]) h
end
end Go.Proofs.Ytoefogmjekcbeaa
namespace Go.Proofs.Ytoefogmjekcbeaa
open Go.ChangeShapes Go.WideShapes Go.RowKit Go.Deep
set_option linter.unusedVariables false

theorem lv_open {H : Type} {enc : TypeId × Value → H} {P : Program} {w : World} {base : Nat} {spare : Nat → Bool} {held : Bool} {α : Type} (K : El P α) (hce : P.cellsOf K.e = K.size)
    (dec : ∀ (fuel : Nat) (cs : List Value) (x : DataW H × List MemPlace), DataW.trod enc P w base spare held fuel K.e cs = some x → ∃ a, K.ok a ∧ cs = K.enc a)
    {fuel : Nat} {a : Option Addr} {len cap : Nat} {x : DataW H × List MemPlace} (h : DataW.trod enc P w base spare held fuel K.s [.slice a len cap] = some x) :
    ∃ l : List α, l.length = len ∧ Lv K w w.heap.size (.slice a len cap) l := by
  rcases open_slice K.under h with ⟨h0, _⟩ | ⟨ad, len', cap', m, n, D, Pl, h0, _, hl, hm, hmm, _, hx⟩
  · simp at h0
    obtain ⟨rfl, rfl, rfl⟩ := h0
    exact ⟨[], rfl, Lv.nil_ _ _ _⟩
  · simp at h0
    obtain ⟨rfl, rfl, rfl⟩ := h0
    have hlm : len ≤ m := by rw [hmm]; split <;> omega
    haveI : Inhabited α := ⟨K.z⟩
    obtain ⟨f, hf⟩ := choose_lt (α := α) (n := len) (p := fun i y => K.ok y ∧ ∀ j u, (K.enc y)[j]? = some u → w.cell? ((ad.add (i * K.size)).add j) = some u) (fun i hi => by
      obtain ⟨cs', h1, h2⟩ := hx i (by omega)
      obtain ⟨y, hy, rfl⟩ := dec _ _ _ h2
      rw [hce] at h1
      obtain ⟨_, _, hcell⟩ := World.cells?_some h1
      refine ⟨y, hy, fun j u hj => ?_⟩
      have hjs : j < K.size := by have := (List.getElem?_eq_some_iff.1 hj).1; rw [K.len] at this; exact this
      rw [hcell j hjs]
      exact hj)
    have hlen : ((List.range len).map f).length = len := by simp
    refine ⟨(List.range len).map f, hlen, some ad, cap, by rw [hlen], by omega, hm, by simp, ?_, fun hp => ?_⟩
    · intro y hy
      obtain ⟨i, hi, rfl⟩ := List.mem_map.1 hy
      exact (hf i (List.mem_range.1 hi)).1
    · rw [hlen] at hp
      obtain ⟨b, off, spot⟩ := ad
      have hs0 := K.pos
      have hz : (K.enc (f 0)).length = K.size := K.len _
      have hc0 := (hf 0 hp).2 0 _ (List.getElem?_eq_getElem (by omega))
      have hspot : spot = none := by simpa [Addr.add] using World.cell?_spot hc0
      subst hspot
      simp only [add_addr] at hf hc0
      refine ⟨b, off, rfl, World.block_lt_of_cell? w _ hc0, fun j u hj => ?_⟩
      have hj2 : j < len * K.size := by have := (List.getElem?_eq_some_iff.1 hj).1; rw [flat_len, hlen] at this; exact this
      have hq : j / K.size < len := (Nat.div_lt_iff_lt_mul hs0).2 hj2
      have hr : j % K.size < K.size := Nat.mod_lt _ hs0
      have hat := flat_at (K := K) (l := (List.range len).map f) (i := j / K.size) (x := f (j / K.size)) (by simp [hq]) hr
      rw [Nat.div_add_mod' j K.size] at hat
      rw [hat] at hj
      have := (hf _ hq).2 _ u hj
      rw [Nat.add_assoc, Nat.div_add_mod' j K.size] at this
      exact this

/-- A struct of fields of one cell each, field by field. -/
theorem dec_fields {H : Type} {enc : TypeId × Value → H} {P : Program} {w : World} {base : Nat} {spare : Nat → Bool} {held : Bool} {t : TypeId} {fs : Array Field} (ht : P.underlying t = some (.struct fs)) (hone : oneCellFields P fs = true) (hC : P.cellsOf t = fs.size)
    {fuel : Nat} {cs : List Value} {x : DataW H × List MemPlace} (h : DataW.trod enc P w base spare held fuel t cs = some x) :
    cs.length = fs.size ∧ ∀ (i : Nat) (f : Field), fs[i]? = some f → ∃ n v y, cs[i]? = some v ∧ DataW.trod enc P w base spare held n f.type [v] = some y := by
  obtain ⟨xs, n, _, _, hl, hxl, hf⟩ := DataW.trod_struct ht h
  rw [hC] at hl
  refine ⟨hl, fun i f hi => ?_⟩
  have hlt : i < fs.size := (Array.getElem?_eq_some_iff.1 hi).1
  obtain ⟨h1, h2⟩ := hone_of hone i f hi
  have h3 := hf i f hi
  rw [h1, h2, take1_drop cs i undef (by omega)] at h3
  refine ⟨n, cs.getD i undef, xs[i]'(by omega), by rw [List.getD_eq_getElem?_getD, List.getElem?_eq_getElem (by omega)]; rfl, ?_⟩
  rw [h3, List.getElem?_eq_getElem (by omega)]
theorem dec_int {H : Type} {enc : TypeId × Value → H} {P : Program} {w : World} {base : Nat} {spare : Nat → Bool} {held : Bool} {t : TypeId} {k : IntKind} (ht : P.underlying t = some (.int k)) {fuel : Nat} {v : Value} {x : DataW H × List MemPlace}
    (h : DataW.trod enc P w base spare held fuel t [v] = some x) : ∃ n, v = .int k n ∧ (Lit.int k n).wf = true := by
  obtain ⟨n, hn, _, hw⟩ := DataW.trod_int ht h
  exact ⟨n, by simpa using hn, hw⟩
theorem dec_str {H : Type} {enc : TypeId × Value → H} {P : Program} {w : World} {base : Nat} {spare : Nat → Bool} {held : Bool} {t : TypeId} (ht : P.underlying t = some .string) {fuel : Nat} {v : Value} {x : DataW H × List MemPlace}
    (h : DataW.trod enc P w base spare held fuel t [v] = some x) : ∃ s : ByteArray, v = .string s ∧ s.size ≤ maxLen := by
  obtain ⟨s, hs, _, hw⟩ := DataW.trod_string ht h
  exact ⟨s, by simpa using hs, hw⟩
theorem dec_bool {H : Type} {enc : TypeId × Value → H} {P : Program} {w : World} {base : Nat} {spare : Nat → Bool} {held : Bool} {t : TypeId} (ht : P.underlying t = some .bool) {fuel : Nat} {v : Value} {x : DataW H × List MemPlace}
    (h : DataW.trod enc P w base spare held fuel t [v] = some x) : ∃ b : Bool, v = .bool b := by
  obtain ⟨b, hb, _⟩ := DataW.trod_bool ht h
  exact ⟨b, by simpa using hb⟩
end Go.Proofs.Ytoefogmjekcbeaa
