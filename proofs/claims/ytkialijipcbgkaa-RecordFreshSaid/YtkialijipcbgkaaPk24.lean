/-
  Grow: A region whose order is drawn, where each operation but the last ones yields the same value in whatever world of a set that none of them leaves (calls that only make memory among them).
  Ints: stookref00.Ints answers whether two slices hold the same numbers.
  Inv: A region whose order is drawn, by an invariant over what has come up.
  Join: leb.join lays rows one behind the other, in new memory without spare room.
-/
import Derived.Test.YtkialijipcbgkaaProg
import Derived.WalkKit
import Derived.StillTailTactics
import Derived.Deep.MidRow
import Derived.Test.YtkialijipcbgkaaPk03
import Derived.Test.YtkialijipcbgkaaPk01
import Derived.Deep.QuietTactic
import Derived.BigQuiet
import Derived.Deep.WholeRow
import Derived.Test.YtkialijipcbgkaaPk21
namespace Go.Proofs.Ytkialijipcbgkaa
open Go.RowKit
set_option linter.unusedVariables false

section
variable {P : Program} {ops : Array Oper} {md : Region.Mode} {R : World → Prop}

def FixedR (P : Program) (R : World → Prop) (v : Value) : Result Next → Prop
  | .ok (.value u) w' => u = v ∧ R w'
  | .ok .skip w' => v = undef ∧ R w'
  | .ok (.enter f args) w' => Calls P f args w' (fun e w'' => e = .returned v ∧ R w'')
  | _ => False
/-- In whatever world of R the operation yields v, and stays in R. -/
def FixedIn (P : Program) (ops : Array Oper) (R : World → Prop) (o : Oper) (v : Value) (a : Act) : Prop :=
  (Region.wanted o (yielded ops a.tmps) = true ∧ ∀ w, R w → FixedR P R v ((execOp a.eval o).run P w)) ∨ (Region.wanted o (yielded ops a.tmps) = false ∧ v = undef)
theorem FixedIn.of_same {o : Oper} {v : Value} {a a' : Act} (h : FixedIn P ops R o v a) (he : execOp a'.eval o = execOp a.eval o)
    (hw : Region.wanted o (yielded ops a'.tmps) = Region.wanted o (yielded ops a.tmps)) : FixedIn P ops R o v a' := by
  unfold FixedIn at *
  rw [he, hw]
  exact h
theorem FixedIn.wpOp {i : Nat} {o : Oper} {v : Value} {a : Act} (hi : ops[i]? = some o) (h : FixedIn P ops R o v a) {w : World} (hR : R w) {K : Act → World → Prop} {Q : Exit → Act → World → Prop}
    (hK : ∀ w', R w' → K (a.put o.dst v) w') : wpOp P ops Q i K a w := by
  unfold Go.wpOp
  simp only [hi]
  rcases h with ⟨hw, hv⟩ | ⟨hw, rfl⟩
  · rw [if_pos hw]
    refine .inl ?_
    have h := hv w hR
    unfold Oper.wp
    generalize (execOp a.eval o).run P w = r at *
    cases r with
    | ok n w' =>
      cases n <;> simp only [FixedR] at h <;> simp only [Oper.upon]
      case value u => obtain ⟨rfl, h2⟩ := h; exact hK _ h2
      case skip => obtain ⟨rfl, h2⟩ := h; exact hK _ h2
      case enter f args => exact h.mono fun e w'' ⟨he, hw⟩ => by subst he; exact hK _ hw
    | halt x w' => exact h.elim
  · simp only [hw, Bool.false_eq_true, if_false]
    exact hK _ hR

def grStep (P : Program) (ops : Array Oper) (R : World → Prop) (i : Nat) (K : Act → Prop) (a : Act) : Prop :=
  ∃ o v, ops[i]? = some o ∧ FixedIn P ops R o v a ∧ K (a.put o.dst v)
theorem grStep_mono {i : Nat} {a : Act} {K K' : Act → Prop} (h : ∀ a, K a → K' a) (hh : grStep P ops R i K a) : grStep P ops R i K' a := by
  obtain ⟨o, v, h1, h2, h3⟩ := hh
  exact ⟨o, v, h1, h2, h _ h3⟩
theorem grStep_put {j : Nat} {oi oj : Oper} {v : Value} (hj : ops[j]? = some oj) (hap : oi.apart ops oj = true)
    (hsi : ∀ cs b, oi.op ≠ .select cs b) (hsj : ∀ cs b, oj.op ≠ .select cs b) {K : Act → Prop} {a : Act}
    (hy : FixedIn P ops R oi v a) (h : grStep P ops R j K (a.put oi.dst v)) :
    grStep P ops R j (fun a' => FixedIn P ops R oi v a' ∧ K (a'.put oi.dst v)) a := by
  obtain ⟨h1, h2, h3⟩ := Oper.apart_spec hap
  obtain ⟨o, u, ho, hf, hK⟩ := h
  obtain rfl : o = oj := Option.some.inj (ho.symm.trans hj)
  refine ⟨o, u, ho, hf.of_same (execOp_put o hsj a oi.dst v h1).symm (wanted_put o a oi.dst v h1).symm, hy.of_same (execOp_put oi hsi a o.dst u h3) (wanted_put oi a o.dst u h3), ?_⟩
  rw [← Act.put_comm a v u h2]
  exact hK
def wpAnyG (P : Program) (md : Region.Mode) (ops : Array Oper) (R : World → Prop) (n : Nat) (L : Array Bool → Act → Prop) : Nat → Array Bool → Act → Prop
  | 0, listed, a => L listed a
  | f + 1, listed, a => Region.ready md ops listed ≠ [] ∧ ∀ i ∈ Region.ready md ops listed, i < n ∧ grStep P ops R i (wpAnyG P md ops R n L f (listed.setIfInBounds i true)) a
theorem wpAny_of_grown {n g : Nat} {L : Array Bool → Act → Prop} {Q : Exit → Act → World → Prop} (hL : ∀ listed a w, R w → L listed a → wpAny P md ops Q g listed a w) :
    ∀ (f : Nat) (listed : Array Bool) (a : Act) (w : World), R w → wpAnyG P md ops R n L f listed a → wpAny P md ops Q (f + g) listed a w
  | 0, listed, a, w, hR, h => by rw [Nat.zero_add]; exact hL _ _ _ hR h
  | f + 1, listed, a, w, hR, h => by
    rw [show f + 1 + g = (f + g) + 1 by omega]
    refine ⟨fun h0 => absurd h0 h.1, fun i hi => ?_⟩
    obtain ⟨o, v, ho, hf, hK⟩ := (h.2 i hi).2
    exact hf.wpOp ho hR fun w' hR' => wpAny_of_grown hL f _ _ w' hR' hK
theorem wpAnyG_first {n i : Nat} {oi : Oper} {v : Value} {L : Array Bool → Act → Prop} (hi : ops[i]? = some oi) (hsel : ∀ (j : Nat) (o : Oper) cs b, ops[j]? = some o → o.op ≠ .select cs b)
    (hs : Region.sinkB md ops n = true) (hc : Region.chainB md ops n = true) (hn : n < ops.size) (hin : i < n)
    (hdone : ∀ listed a, L listed a → ∀ j ∈ Region.ready md ops listed, n ≤ j) :
    ∀ (f : Nat) (listed : Array Bool) (a : Act), HeadInv md ops n listed →
      (∀ j oj, ops[j]? = some oj → j ≠ i → listed.getD j true = false → (∀ e ∈ oj.after, Region.binds md e = true → e.on ≠ i) → oi.apart ops oj = true) →
      i ∈ Region.ready md ops listed → FixedIn P ops R oi v a →
      wpAnyG P md ops R n L f (listed.setIfInBounds i true) (a.put oi.dst v) → wpAnyG P md ops R n L (f + 1) listed a := by
  intro f
  induction f with
  | zero =>
    intro listed a inv _ hr hy H
    have hun := (mem_ready.1 hr).1
    refine ⟨fun h => (by rw [h] at hr; cases hr), fun j hj => ?_⟩
    have hjn : j < n := by
      rcases Nat.lt_or_ge j n with h | h
      · exact h
      · exact absurd hj (tail_waits hs hc hn inv _ i rfl hin hun j h)
    refine ⟨hjn, ?_⟩
    by_cases hji : j = i
    · subst hji; exact ⟨oi, v, hi, hy, H⟩
    · have := hdone _ _ H j (ready_mono hj hji)
      omega
  | succ f ih =>
    intro listed a inv hfree hr hy H
    have hun := (mem_ready.1 hr).1
    refine ⟨fun h => (by rw [h] at hr; cases hr), fun j hj => ?_⟩
    have hjn : j < n := by
      rcases Nat.lt_or_ge j n with h | h
      · exact h
      · exact absurd hj (tail_waits hs hc hn inv _ i rfl hin hun j h)
    refine ⟨hjn, ?_⟩
    by_cases hji : j = i
    · subst hji; exact ⟨oi, v, hi, hy, H⟩
    · have h1 := (H.2 j (ready_mono hj hji)).2
      obtain ⟨hjun, oj, hoj, hall⟩ := mem_ready.1 hj
      have hnot : ∀ e ∈ oj.after, Region.binds md e = true → e.on ≠ i := fun e he hb heq => by
        have h1 := hall e he hb
        rw [heq, getD_both hun] at h1
        cases h1
      have h2 := grStep_put hoj (hfree j oj hoj hji hjun hnot) (fun cs b => hsel i oi cs b hi) (fun cs b => hsel j oj cs b hoj) hy h1
      have hfree' : ∀ k ok, ops[k]? = some ok → k ≠ i → (listed.setIfInBounds j true).getD k true = false →
          (∀ e ∈ ok.after, Region.binds md e = true → e.on ≠ i) → oi.apart ops ok = true := fun k ok hk hki hun hno => by
        refine hfree k ok hk hki ?_ hno
        by_cases hjk : j = k
        · subst hjk; exact hjun
        · rw [getD_set_ne true hjk] at hun; exact hun
      refine grStep_mono (fun a' h3 => ih (listed.setIfInBounds j true) a' (inv.set hj hjn) hfree' (ready_mono hr (Ne.symm hji)) h3.1 ?_) h2
      rw [Array.setIfInBounds_comm _ _ hji]
      exact h3.2

/-- The operations of a list, one behind the other. -/
def wpGrow (P : Program) (ops : Array Oper) (R : World → Prop) (Q : Act → Prop) : List Oper → Act → Prop
  | [], a => Q a
  | o :: rest, a => ∃ v, FixedIn P ops R o v a ∧ wpGrow P ops R Q rest (a.put o.dst v)
theorem wpAnyG_lex {n g : Nat} {Lq : Act → Prop} (hsel : Region.noSelect ops = true) (hs : Region.sinkB md ops n = true) (hc : Region.chainB md ops n = true) (hn : n < ops.size) :
    ∀ (l : List Oper) (k : Nat) (listed : Array Bool) (a : Act), (∀ j, j < l.length → l[j]? = ops[k + j]?) → k + l.length = n → HeadInv md ops n listed →
    Region.lexHead md ops g l.length k listed = true → wpGrow P ops R Lq l a →
    wpAnyG P md ops R n (fun listed' a' => Region.seqB md ops g n listed' = true ∧ Lq a') l.length listed a
  | [], k, listed, a, _, hk, _, hB, h => by
    have : k = n := by simpa using hk
    subst this
    exact ⟨by simpa [Region.lexHead] using hB, h⟩
  | o :: l, k, listed, a, hl, hk, inv, hB, h => by
    have h0 : ops[k]? = some o := by simpa using (hl 0 (by simp)).symm
    simp only [List.length_cons, Region.lexHead, Bool.and_eq_true] at hB
    obtain ⟨⟨hr, hf⟩, hB'⟩ := hB
    have hkn : k < n := by simp only [List.length_cons] at hk; omega
    have hr' : k ∈ Region.ready md ops listed := by simpa using hr
    obtain ⟨v, hy, hK⟩ := h
    exact wpAnyG_first h0 (Region.noSelect_spec hsel) hs hc hn hkn (fun listed' a' hL => seqB_ready hL.1) l.length listed a inv (Region.free_spec h0 hf) hr' hy
      (wpAnyG_lex hsel hs hc hn l (k + 1) _ _ (fun j hj => by have := hl (j + 1) (by simp; omega); simpa [Nat.add_assoc, Nat.add_comm 1 j] using this) (by simp only [List.length_cons] at hk; omega) (inv.set hr' hkn) hB' hK)
theorem wp_region_grow {id : Nat} {Q : Exit → Act → World → Prop} {a : Act} {w : World} {l : List Oper} (n : Nat) (hm : P.follows .mixedOrders = true) (hB : Region.lexTailB .any l.toArray n = true)
    (R : World → Prop) (hR : R w.drew) (h : wpGrow P l.toArray R (fun a' => ∀ w', R w' → wpList P l.toArray Q (l.drop n) a' w') (l.take n) a) : (Code.region id l.toArray true).wp P Q a w := by
  simp only [Region.lexTailB, Bool.and_eq_true, decide_eq_true_eq] at hB
  obtain ⟨⟨⟨⟨hsel, hn⟩, hs⟩, hc⟩, hlex⟩ := hB
  have hn' : n < l.length := by simpa using hn
  have htl : (l.take n).length = n := by simp; omega
  have hdl : (l.drop n).length = l.toArray.size - n := by simp
  have inv0 : HeadInv .any l.toArray n (Array.replicate l.toArray.size false) :=
    ⟨by simp, fun j oj _ hl => (by rw [getD_replicate_false] at hl; cases hl), fun t _ ht => getD_in (by simpa using ht) (getD_replicate_false _ _)⟩
  have H := wpAnyG_lex (md := .any) (g := l.toArray.size - n) hsel hs hc hn (l.take n) 0 _ a (fun j hj => by
    have hj' : j < n := by rw [htl] at hj; exact hj
    simp [hj']) (by simpa using htl) inv0 (by rw [htl]; exact hlex) h
  refine wp_region_any hm ?_
  have := wpAny_of_grown (Q := Q) (g := l.toArray.size - n) (fun listed a' w' hR' hL => by
    have := wpAny_of_seq (md := .any) (Q' := Q) (l.drop n) n listed a' w' (fun j => by simp [List.getElem?_drop]) (by rw [hdl]; exact hL.1) (hL.2 w' hR')
    rwa [hdl] at this) _ _ _ _ hR H
  rw [htl, show n + (l.toArray.size - n) = l.toArray.size by omega] at this
  exact this

/-! The steps. -/
variable {Q : Act → Prop} {a : Act} {o : Oper} {rest : List Oper}
theorem wpGrow_nil (h : Q a) : wpGrow P ops R Q [] a := h
theorem wpGrow_pure {v : Value} (hw : Region.wanted o (yielded ops a.tmps) = true) (h : ∀ w, R w → (execOp a.eval o).run P w = .ok (.value v) w) (hn : wpGrow P ops R Q rest (a.put o.dst v)) : wpGrow P ops R Q (o :: rest) a :=
  ⟨v, .inl ⟨hw, fun w hR => by rw [h w hR]; exact ⟨rfl, hR⟩⟩, hn⟩
theorem wpGrow_off (hw : Region.wanted o (yielded ops a.tmps) = false) (hn : wpGrow P ops R Q rest (a.put o.dst undef)) : wpGrow P ops R Q (o :: rest) a := ⟨undef, .inr ⟨hw, rfl⟩, hn⟩
theorem wpGrow_call {v : Value} {f : Nat} {args : Array Value} (hw : Region.wanted o (yielded ops a.tmps) = true) (h : ∀ w, (execOp a.eval o).run P w = .ok (.enter f args) w)
    (hc : ∀ w, R w → Calls P f args w (fun e w'' => e = .returned v ∧ R w'')) (hn : wpGrow P ops R Q rest (a.put o.dst v)) : wpGrow P ops R Q (o :: rest) a :=
  ⟨v, .inl ⟨hw, fun w hR => by rw [h w]; exact hc w hR⟩, hn⟩
theorem wpGrow_load_row (hw : Region.wanted o (yielded ops a.tmps) = true) (ty : TypeId) (x : Operand) (ho : o.op = .load ty x)
    (g : Nat) (hx : a.eval x = .pointer (some ⟨g, 0, none⟩)) (t : TypeId) (cs : Array Value) (fr : Nat × Nat) (d : TypeDesc) (hg : ∀ w, R w → w.heap[g]? = some (.cells cs t fr))
    (hu : P.underlying ty = some d) (hd : (match d with | .struct _ | .array _ _ => true | _ => false) = true) (hi : (P.info? ty).map (·.size) = some cs.size)
    (h : wpGrow P ops R Q rest (a.put o.dst (.agg cs))) : wpGrow P ops R Q (o :: rest) a :=
  wpGrow_pure hw (fun w hR => by
    unfold execOp
    simp only [ho, hx, Instr.loadAt, Instr.sureAddr, Sem.run_bind, Sem.run_pure, Result.andThen_ok, run_loadVar_row w g t ty cs fr d (hg w hR) hu hd hi]) h
theorem wpGrow_load_mid (hw : Region.wanted o (yielded ops a.tmps) = true) (ty : TypeId) (x : Operand) (ho : o.op = .load ty x)
    (b off : Nat) (hx : a.eval x = .pointer (some ⟨b, off, none⟩)) (cs : Array Value) (d : TypeDesc) (hc : ∀ w, R w → w.rangeAt b off cs.toList)
    (hu : P.underlying ty = some d) (hd : d.isRow = true) (hi : (P.info? ty).map (·.size) = some cs.size)
    (h : wpGrow P ops R Q rest (a.put o.dst (.agg cs))) : wpGrow P ops R Q (o :: rest) a :=
  wpGrow_pure hw (fun w hR => by
    unfold execOp
    simp only [ho, hx, Instr.loadAt, Instr.sureAddr, Sem.run_bind, Sem.run_pure, Result.andThen_ok, run_loadVar_mid w b off ty cs.toList d (hc w hR) hu hd (by simpa using hi)]) h
end
end Go.Proofs.Ytkialijipcbgkaa
namespace Go.Proofs.Ytkialijipcbgkaa
open Go.RowKit
set_option linter.unusedVariables false

set_option maxHeartbeats 400000 in
theorem ints_ne (A A' : Option Addr) (la lb : List Int) (c c' : Nat) (w : World) (hlen : la.length ≤ maxLen) (hlen' : lb.length ≤ maxLen) (hne : la.length ≠ lb.length) :
    Calls Try.prog 43 #[.slice A la.length c, .slice A' lb.length c'] w (IsBool false w) := by
  unfold maxLen at hlen hlen'
  have hq : (((la.length : Nat) : Int) != ((lb.length : Nat) : Int)) = true := by rw [bne_iff_ne]; omega
  go_enter Try.func43, Try.ntmps43
  go_wp2
  go_ret
  exact ⟨rfl, Below.refl _ _⟩

set_option maxHeartbeats 400000 in
theorem ints_eq (A A' : Option Addr) (la lb : List Int) (c c' B B' : Nat) (w : World) (ha : Lv iK w B (.slice A la.length c) la) (hb : Lv iK w B' (.slice A' lb.length c') lb) (heq : la.length = lb.length) :
    Calls Try.prog 43 #[.slice A la.length c, .slice A' lb.length c'] w (IsBool (decide (la = lb)) w) := by
  have hlen : la.length ≤ 9223372036854775807 := by have := ha.len_; simp only [maxLen] at this; omega
  have hq : (((la.length : Nat) : Int) != ((lb.length : Nat) : Int)) = false := by rw [heq]; simp
  have HE := Lib.hid heq
  have hle : la.length ≤ lb.length := by omega
  have hge : lb.length ≤ la.length := by omega
  clear heq
  go_enter Try.func43, Try.ntmps43
  go_wp2
  go_loopw [5] (fun i wr => ∃ k : Nat, k ≤ la.length ∧ i = .int .i64 k ∧ Hid (la.take k = lb.take k) ∧ Below w.heap.size w wr ∧ Hid (Lv iK wr B (.slice A la.length c) la) ∧ Hid (Lv iK wr B' (.slice A' lb.length c') lb)) (fun i _ => la.length - (intOf i).toNat)
  case atStart => exact ⟨0, by omega, rfl, by simp [Hid], Below.refl _ _, ha, hb⟩
  case round =>
    obtain ⟨k, hk, rfl, HT, hbel, HA, HB⟩ := hrel
    by_cases hlt : k < la.length
    · obtain ⟨b1, o1, x, rfl, hb1, hx, hd, hcell⟩ := HA.out.int_ hlt
      obtain ⟨b2, o2, y, rfl, hb2, hy, hd', hcell'⟩ := HB.out.int_ (k := k) (by omega)
      have HS := Lib.hid (take_both HT.out hd hd')
      clear hd hd' ha hb hx hy
      have hlt' : k < lb.length := by omega
      by_cases hxy : x = y
      · subst hxy
        have hq2 : ((x : Int) != (x : Int)) = false := by simp
        go_wp2
        go_quiet (fail)
        go_wp2
        go_roundw
        case rel => exact ⟨k + 1, by omega, by go_num, HS.out.2 (by simp), below_drewN hbel _, HA.out, HB.out⟩
        case measure => simp [intOf]; omega
      · have hq2 : ((x : Int) != (y : Int)) = true := by rw [bne_iff_ne]; omega
        go_wp2
        go_quiet (fail)
        go_wp2
        go_ret
        have hne : la ≠ lb := take_unlike (fun e => hxy (HS.out.1 e))
        exact ⟨by simp [hne], below_drewN hbel _⟩
    · go_wp2
      go_ret
      have h1 : la = lb := take_whole HT.out (by omega) (by omega)
      exact ⟨by simp [h1], hbel⟩

theorem ints_lv (v v' : Value) (la lb : List Int) (B B' : Nat) (w : World) (h : Lv iK w B v la) (h' : Lv iK w B' v' lb) :
    Calls Try.prog 43 #[v, v'] w (IsBool (decide (la = lb)) w) := by
  have k := h
  have k' := h'
  obtain ⟨A, c, rfl, h1, h2, _⟩ := h
  obtain ⟨A', c', rfl, h1', h2', _⟩ := h'
  by_cases he : la.length = lb.length
  · exact ints_eq A A' la lb c c' B B' w k k' he
  · have hne : la ≠ lb := fun e => he (by rw [e])
    have := ints_ne A A' la lb c c' w (by omega) (by omega) he
    simpa [hne] using this
end Go.Proofs.Ytkialijipcbgkaa
namespace Go.Proofs.Ytkialijipcbgkaa
open Go.RowKit
set_option linter.unusedVariables false

section
variable {P : Program} {ops : Array Oper} {Q : Exit → Act → World → Prop} {md : Region.Mode}
theorem ready_false {listed : Array Bool} {i : Nat} (h : i ∈ Region.ready md ops listed) : listed.toList[i]? = some false := by
  have h1 := (mem_ready.1 h).1
  rcases Nat.lt_or_ge i listed.size with h' | h'
  · simp [h'] at h1
    simp [h', h1]
  · simp [Array.getElem?_eq_none h'] at h1
theorem wpAny_inv {I : Array Bool → Act → World → Prop}
    (hstep : ∀ listed a w, I listed a w → ∀ i ∈ Region.ready md ops listed, wpOp P ops Q i (I (listed.setIfInBounds i true)) a w)
    (hend : ∀ listed a w, I listed a w → Region.ready md ops listed = [] → Q .normal a w) :
    ∀ (fuel : Nat) (listed : Array Bool) (a : Act) (w : World), listed.toList.count false ≤ fuel → I listed a w → wpAny P md ops Q fuel listed a w
  | 0, listed, a, w, hc, hI => by
    have h0 : Region.ready md ops listed = [] := by
      apply List.eq_nil_iff_forall_not_mem.2
      intro i hi
      have h1 := ready_false hi
      have h2 : false ∈ listed.toList := List.mem_of_getElem? h1
      have h3 : 0 < listed.toList.count false := List.count_pos_iff.2 h2
      omega
    exact ⟨h0, hend _ _ _ hI h0⟩
  | fuel + 1, listed, a, w, hc, hI => by
    refine ⟨fun h0 => hend _ _ _ hI h0, fun i hi => wpOp_mono (fun a' w' h' => wpAny_inv hstep hend fuel _ a' w' ?_ h') (hstep _ _ _ hI i hi)⟩
    have h1 := ready_false hi
    obtain ⟨hlt, he⟩ := List.getElem?_eq_some_iff.1 h1
    rw [Array.toList_setIfInBounds, List.count_set hlt, he]
    simp only [show (false == false) = true from rfl, show (true == false) = false from rfl, if_true, Bool.false_eq_true, if_false]
    omega
theorem wpOp_some {i : Nat} {o : Oper} {K : Act → World → Prop} {a : Act} {w : World} (hi : ops[i]? = some o) (hg : o.guard = none) (h : o.wp P a w K Q) : wpOp P ops Q i K a w := by
  unfold wpOp
  simp only [hi]
  rw [if_pos (by simp [Region.wanted, hg])]
  exact .inl h
/-- What it waits for has come up. -/
theorem ready_has {listed : Array Bool} {i : Nat} {o : Oper} (h : i ∈ Region.ready md ops listed) (hi : ops[i]? = some o) {e : Edge} (he : e ∈ o.after) (hb : Region.binds md e = true) : listed.getD e.on false = true := by
  obtain ⟨_, o', ho', hall⟩ := mem_ready.1 h
  have : o' = o := Option.some.inj (ho'.symm.trans hi)
  subst this
  exact hall e he hb
/-- Nothing may come up any more: whatever waits for none that lacks has come up. -/
theorem ready_done {listed : Array Bool} {i : Nat} {o : Oper} (h : Region.ready md ops listed = []) (hi : ops[i]? = some o) (hl : i < listed.size)
    (ha : ∀ e ∈ o.after, Region.binds md e = true → listed.getD e.on false = true) : listed.getD i false = true := by
  cases hb : listed.getD i false with
  | true => rfl
  | false =>
    have : i ∈ Region.ready md ops listed := mem_ready.2 ⟨by simp [hl] at hb ⊢; exact hb, o, hi, ha⟩
    rw [h] at this
    cases this
theorem ready_not {listed : Array Bool} {i : Nat} (h : i ∈ Region.ready md ops listed) : listed.getD i false = false := by
  have h1 := ready_false h
  obtain ⟨hlt, he⟩ := List.getElem?_eq_some_iff.1 h1
  simp at hlt he
  simp [hlt, he]
theorem getD_bits {listed : Array Bool} {i : Nat} (h : i < listed.size) (j : Nat) : (listed.setIfInBounds i true).getD j false = (decide (i = j) || listed.getD j false) := by
  by_cases hij : i = j
  · subst hij
    simp [h]
  · simp [Array.getElem?_setIfInBounds_ne hij, hij]
/-- A whole array, read in a region whose order is drawn. -/
theorem wpStill_load_row {w : World} {R : Act → Prop} {a : Act} {o : Oper} {rest : List Oper} (hgd : o.guard = none) (ty : TypeId) (x : Operand) (ho : o.op = .load ty x)
    (g : Nat) (hx : a.eval x = .pointer (some ⟨g, 0, none⟩)) (t : TypeId) (cs : Array Value) (fr : Nat × Nat) (d : TypeDesc) (hg : w.heap[g]? = some (.cells cs t fr))
    (hu : P.underlying ty = some d) (hd : (match d with | .struct _ | .array _ _ => true | _ => false) = true) (hi : (P.info? ty).map (·.size) = some cs.size)
    (h : wpStill P ops w R rest (a.put o.dst (.agg cs))) : wpStill P ops w R (o :: rest) a :=
  wpStill_step fun K hK => by
    rw [if_pos (by simp [Region.wanted, hgd])]
    unfold Oper.still execOp
    simp only [ho, hx, Instr.loadAt, Instr.sureAddr, Sem.run_bind, Sem.run_pure, Result.andThen_ok, run_loadVar_row w g t ty cs fr d hg hu hd hi, Oper.stillUpon]
    exact ⟨trivial, hK _ h⟩
end
end Go.Proofs.Ytkialijipcbgkaa
namespace Go.Proofs.Ytkialijipcbgkaa
open Go.RowKit
set_option linter.unusedVariables false

/-- The value v is a slice of rows that hold these bytes. -/
def Rws (w : World) (B : Nat) (v : Value) (ls : List (List Nat)) : Prop :=
  ∃ b off c, v = .slice (some ⟨b, off, none⟩) ls.length c ∧ b < B ∧ ls.length ≤ c ∧ c ≤ maxLen ∧ ∀ j l, ls[j]? = some l → ∃ u, w.cell? ⟨b, off + j, none⟩ = some u ∧ Bv w B u l

theorem Rws.below_ {w w' : World} {B B' : Nat} {v : Value} {ls : List (List Nat)} (h : Rws w B v ls) (hb : Below B' w w') (hB : B ≤ B') : Rws w' B v ls := by
  obtain ⟨b, off, c, e, h1, h2, h3, h4⟩ := h
  refine ⟨b, off, c, e, h1, h2, h3, fun j l hj => ?_⟩
  obtain ⟨u, hu, hv⟩ := h4 j l hj
  exact ⟨u, (hb.cell (p := ⟨b, off + j, none⟩) (by show b < B'; omega)).trans hu, hv.below_ hb hB⟩

/-- A call that answers these bytes in new memory without spare room, and turns nothing that was there. -/
def IsFull (l : List Nat) (w : World) (e : Ending) (w' : World) : Prop :=
  ∃ g, e = .returned (.slice (some ⟨g, 0, none⟩) l.length l.length) ∧ OwnB w' w.heap.size (.slice (some ⟨g, 0, none⟩) l.length l.length) l ∧ Below w.heap.size w w'

set_option maxRecDepth 100000 in
theorem wpList_append_full (w : World) {ops : Array Oper} {rest : List Oper} {o : Oper} {a : Act} {Q : Exit → Act → World → Prop} (hgd : o.guard = none) (s t : Operand)
    (ho : o.op = .call { callee := .builtin .append, args := #[s, t], argTypes := #[28, 28] }) (hty : o.type = 28)
    (base g cap : Nat) (l : List Nat) (hs : a.eval s = .slice (some ⟨g, 0, none⟩) l.length cap) (hown : OwnB w base (.slice (some ⟨g, 0, none⟩) l.length cap) l) (x : Value) (hx0 : a.eval t = x) (B : Nat) (m : List Nat) (hx : Bv w B x m) (hsz : l.length + m.length ≤ cap)
    (h : ∀ w', OwnB w' base (.slice (some ⟨g, 0, none⟩) (l ++ m).length cap) (l ++ m) → w.grownBy w' (some g) → wpList Try.prog ops Q rest (a.put o.dst (.slice (some ⟨g, 0, none⟩) (l ++ m).length cap)) w') : wpList Try.prog ops Q (o :: rest) a w := by
  obtain ⟨i0, hi, hz0, hz1, hz2⟩ := info_parts info5
  obtain ⟨A, c, rfl, hmc, hcm, hnil, hm⟩ := hx
  refine wpList_append_fits_any w hgd s t 28 ho base 5 i0 1 Try.underlying28 hi hz1 g l.length cap (l.map u8) hs hown.2 A m.length c (m.map u8) hx0 (by simp) ?_ ?_ ?_ hsz ?_
  · intro e
    have := hnil e
    omega
  · rintro ad rfl j u hu
    rw [List.getElem?_map] at hu
    cases hj : m[j]? with
    | none => rw [hj] at hu; cases hu
    | some d =>
      rw [hj] at hu
      have hj' : j < m.length := (List.getElem?_eq_some_iff.1 hj).1
      obtain ⟨b, off, e, _, hc⟩ := hm.2 (by omega)
      injection e with e
      subst e
      have := hc j d hj
      have ea : (⟨b, off, none⟩ : Addr).add j = ⟨b, off + j, none⟩ := by unfold Addr.add; split <;> simp_all
      rw [ea, this]
      simpa [u8] using hu
  · intro u hu
    obtain ⟨_, _, rfl⟩ := List.mem_map.1 hu
    rfl
  · intro w' ho' hg'
    have hO : OwnB w' base (.slice (some ⟨g, 0, none⟩) (l ++ m).length cap) (l ++ m) := by
      refine ⟨?_, by simpa using ho'⟩
      intro x hx
      rcases List.mem_append.1 hx with h1 | h1
      · exact hown.1 x h1
      · exact hm.1 x h1
    have h2 := h w' hO hg'
    rwa [List.length_append] at h2

set_option maxHeartbeats 2000000 in
set_option maxRecDepth 100000 in
theorem join_any (v : Value) (ls : List (List Nat)) (B : Nat) (w : World) (hB : B ≤ w.heap.size) (h : Rws w B v ls) (hsz : (cat ls).length ≤ 140737488355328) :
    Calls Try.prog 79 #[v] w (IsFull (cat ls) w) := by
  have H0 := Lib.hid h
  obtain ⟨b, off, c, rfl, hbB, hc1, hc2, hcell⟩ := h
  have HC := Lib.hid hcell
  clear hcell
  unfold maxLen at hc2
  obtain ⟨i0, hi, hz0, hz1, hz2⟩ := info_parts info5
  go_enter Try.func79, Try.ntmps79
  go_wp2
  go_loop [3, 11] (fun z i => ∃ k : Nat, k ≤ ls.length ∧ i = .int .i64 k ∧ z = .int .i64 (cat (ls.take k)).length) (fun _ i => ls.length - (intOf i).toNat)
  case atStart => exact ⟨0, by omega, rfl, by simp [cat]⟩
  case round =>
    obtain ⟨k, hk, rfl, rfl⟩ := hrel
    by_cases hlt : k < ls.length
    · obtain ⟨u, hu, hbv⟩ := HC.out k _ (List.getElem?_eq_getElem hlt)
      have hf := flat_succ (List.getElem?_eq_getElem hlt)
      have hle := flat_le ls (k + 1)
      generalize ls[k] = l at hu hbv hf
      obtain ⟨A, cu, rfl, _, _, _, _⟩ := hbv
      have hf2 := congrArg List.length hf
      rw [List.length_append] at hf2
      have HF := Lib.hid hf2
      have hb1 : (cat (ls.take k)).length + l.length ≤ 140737488355328 := by omega
      clear hf hf2 hle
      go_wp2
      go_round
      case rel => exact ⟨k + 1, by omega, by go_num, by rw [HF.out]; go_num⟩
      case measure => simp [intOf]; omega
    · have hkk : k = ls.length := by omega
      subst hkk
      rw [List.take_length]
      have hb2 : i0.bytes * (cat ls).length ≤ 281474976710656 := by rw [hz2]; omega
      have hm3 : (cat ls).length ≤ maxLen := by simp only [maxLen]; omega
      go_wp2_with (at_make; go_must (refine wpList_make_own _ rfl _ _ 28 rfl w.heap.size 5 i0 (.int .u8 0) 1 Try.underlying28 hi hz0 hz1 .i64 .i64 _ (cat ls).length rfl rfl rfl hb2 hm3 (Nat.le_refl _) ?_; intro w1 hown hgrow))
      have how : OwnB w1 w.heap.size (.slice (some ⟨w.heap.size, 0, none⟩) 0 (cat ls).length) [] := ⟨by simp, hown⟩
      have hbel : Below w.heap.size w w1 := (Below.refl _ _).grown hgrow (Nat.le_refl _) (by intro k hk; cases hk)
      have h0 : Rws w1 B _ ls := H0.out.below_ hbel hB
      obtain ⟨w1', rfl⟩ : ∃ w', w' = w1 := ⟨_, rfl⟩
      clear hown hgrow hb2 hm3 hi hz0 hz1 hz2
      go_loopw [6, 24] (fun v i wr => ∃ k : Nat, k ≤ ls.length ∧ i = .int .i64 k ∧ v = .slice (some ⟨w.heap.size, 0, none⟩) (cat (ls.take k)).length (cat ls).length ∧ Hid (OwnB wr w.heap.size (.slice (some ⟨w.heap.size, 0, none⟩) (cat (ls.take k)).length (cat ls).length) (cat (ls.take k))) ∧ Below w.heap.size w wr) (fun _ i _ => ls.length - (intOf i).toNat)
      case atStart => exact ⟨0, by omega, rfl, by simp [cat], how, hbel⟩
      case round =>
        obtain ⟨k, hk, rfl, rfl, HO, hbr⟩ := hrel
        clear how hbel h0
        have hbase : w.heap.size ≤ wr.heap.size := hbr.size
        by_cases hlt : k < ls.length
        · obtain ⟨b', off', c', e', _, _, _, hcell⟩ := H0.out.below_ hbr hB
          injection e' with e1 e2 e3
          injection e1 with e1
          injection e1 with e4 e5
          subst e4 e5
          obtain ⟨u, hu, hbv⟩ := hcell k _ (List.getElem?_eq_getElem hlt)
          have hf := flat_succ (List.getElem?_eq_getElem hlt)
          have hle := flat_le ls (k + 1)
          generalize ls[k] = l at hu hbv hf
          have HBV := Lib.hid hbv
          obtain ⟨A, cu, rfl, _, _, _, _⟩ := hbv
          have HF := Lib.hid hf
          have hfit : (cat (ls.take k)).length + l.length ≤ (cat ls).length := by rw [hf, List.length_append] at hle; exact hle
          clear hf hle hcell e3 HC
          go_wp2_with (at_builtin; go_must (refine wpList_append_full _ rfl _ _ rfl rfl w.heap.size w.heap.size (cat ls).length (cat (ls.take k)) rfl HO.out _ rfl _ l HBV.out hfit ?_; intro w2 hO hg))
          go_roundw
          case rel => exact ⟨k + 1, by omega, by go_num, by rw [HF.out]; simp, by rw [HF.out]; exact hO, hbr.grown hg hbase (by intro k hk; injection hk with hk; omega)⟩
          case measure => simp [intOf]; omega
        · have hkk : k = ls.length := by omega
          subst hkk
          have ht : ls.take ls.length = ls := List.take_length
          rw [ht] at HO ⊢
          go_wp2
          go_ret
          exact ⟨w.heap.size, rfl, HO.out, hbr⟩
end Go.Proofs.Ytkialijipcbgkaa
