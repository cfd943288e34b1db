/-
  GetRow: leb.GetRow and stookref01.GetRow answer a counted row, in new memory.
  Grow: A region whose order is drawn, where each operation but the last ones yields the same value in whatever world of a set that none of them leaves (calls that only make memory among them).
  HeldL: A region that draws its order, by hand: a condition on the world holds behind each operation ahead of one for which, and all behind it, all that read wait (a store into what was read).
-/
import Derived.Test.YtlefkaoibokjdaaPc09
import Derived.Test.YtlefkaoibokjdaaPc15
import Derived.Test.YtlefkaoibokjdaaProg
import Derived.WalkKit
import Derived.StillTailTactics
import Derived.Deep.MidRow
import Derived.Deep.RegionHeld
import Derived.StillTail
namespace Go.Proofs.Ytlefkaoibokjdaa
open Go.RowKit
set_option linter.unusedVariables false

/-- A call that answers these bytes in new memory without spare room, a place and an error, and turns nothing that was there. -/
def IsRowF (r : List Nat × Nat × Nat) (w : World) (e : Ending) (w' : World) : Prop :=
  ∃ A, e = .returned (.tuple #[.slice A r.1.length r.1.length, .int .i64 r.2.1, .int .i64 r.2.2]) ∧ OwnB w' w.heap.size (.slice A r.1.length r.1.length) r.1 ∧ Below w.heap.size w w'
/-- The same, with spare room or without. -/
def IsRowN (r : List Nat × Nat × Nat) (w : World) (e : Ending) (w' : World) : Prop :=
  ∃ A c, e = .returned (.tuple #[.slice A r.1.length c, .int .i64 r.2.1, .int .i64 r.2.2]) ∧ OwnB w' w.heap.size (.slice A r.1.length c) r.1 ∧ Below w.heap.size w w'
theorem IsRowF.none_ {w w' : World} {r : List Nat × Nat × Nat} {e : Nat} (h : r = ([], 0, e)) (hb : Below w.heap.size w w') : IsRowF r w (.returned (.tuple #[.slice none 0 0, .int .i64 0, .int .i64 (e : Nat)])) w' := by
  subst h; exact ⟨none, rfl, OwnB.nil_ _ _, hb⟩
theorem IsRowN.none_ {w w' : World} {r : List Nat × Nat × Nat} {e : Nat} (h : r = ([], 0, e)) (hb : Below w.heap.size w w') : IsRowN r w (.returned (.tuple #[.slice none 0 0, .int .i64 0, .int .i64 (e : Nat)])) w' := by
  subst h; exact ⟨none, 0, rfl, OwnB.nil_ _ _, hb⟩

theorem IsRowF.of {w w' : World} {r : List Nat × Nat × Nat} {y : List Nat} {k e : Nat} {A : Option Addr} (h : r = (y, k, e)) (ho : OwnB w' w.heap.size (.slice A y.length y.length) y) (hb : Below w.heap.size w w') :
    IsRowF r w (.returned (.tuple #[.slice A y.length y.length, .int .i64 (k : Nat), .int .i64 (e : Nat)])) w' := by
  subst h; exact ⟨A, rfl, ho, hb⟩
theorem IsRowN.of {w w' : World} {r : List Nat × Nat × Nat} {y : List Nat} {k e c : Nat} {A : Option Addr} (h : r = (y, k, e)) (ho : OwnB w' w.heap.size (.slice A y.length c) y) (hb : Below w.heap.size w w') :
    IsRowN r w (.returned (.tuple #[.slice A y.length c, .int .i64 (k : Nat), .int .i64 (e : Nat)])) w' := by
  subst h; exact ⟨A, c, rfl, ho, hb⟩

/-- What the two have in common: the cut of the bytes that the row is. -/
theorem Bv.piece_ {w : World} {B b off N c : Nat} {l : List Nat} (h : Bv w B (.slice (some ⟨b, off, none⟩) N c) l) {x n : Nat} (hx : x + n ≤ l.length) (hc : c ≠ x) :
    Bv w B (.slice (some ⟨b, off + x, none⟩) n (c - x)) ((l.drop x).take n) := h.cut_ hx
theorem Bv.empty_ (w : World) (B : Nat) (a : Addr) : Bv w B (.slice (some a) 0 0) [] := ⟨some a, 0, rfl, by simp, by simp [maxLen], by simp, Bts.nil_ _ _ _⟩

set_option maxHeartbeats 2000000 in
set_option maxRecDepth 100000 in
theorem getRow_any (v : Value) (l : List Nat) (B : Nat) (a most : Int) (w : World) (hB : B ≤ w.heap.size) (h : Bv w B v l) (hm : most ≤ 9223372036854775807) (hsz : l.length ≤ 140737488355328) :
    Calls Try.prog 68 #[v, .int .i64 a, .int .i64 most] w (IsRowF (Mt.getRow l a most) w) := by
  have HC := Lib.hid (count_any v l B a most w h hm)
  clear hm
  have H0 := Lib.hid h
  rcases Mt.count_cases h.lt_ a most with ⟨e, he2, he5, hr⟩ | ⟨k, n, r, rfl, hk, hb, hs, hle, hr, hmm⟩
  · have HR := Lib.hid hr
    have HX := Lib.hid (Mt.getRow_err hr (by omega))
    have hq : (((e : Nat) : Int) != 0) = true := by rw [bne_iff_ne]; omega
    clear hr
    go_enter Try.func68, Try.ntmps68
    go_wp2_with fail
    ((with_reducible refine HC.out.mono ?_); rintro e' w2 ⟨he, hb2⟩)
    rw [HR.out] at he
    subst he
    clear HC
    go_wp2
    go_ret3
    exact IsRowF.none_ HX.out hb2
  · obtain ⟨x, hx⟩ : ∃ x, k + (Mt.put n).length = x := ⟨_, rfl⟩
    rw [hx] at hr hle
    have HR := Lib.hid hr
    obtain ⟨A, c, rfl, hc1, hc2, hc3, h4⟩ := id h
    obtain ⟨b, off, rfl, _⟩ := h4.2 (by omega)
    unfold maxLen at hc2
    clear h4 hc3 hs hb hx h hmm
    by_cases hsh : l.length - x < n
    · have HX := Lib.hid (Mt.getRow_short hr hsh)
      have hsh' : ((l.length : Nat) : Int) - (x : Int) < (n : Int) := by omega
      clear hr
      go_enter Try.func68, Try.ntmps68
      go_wp2_with fail
      ((with_reducible refine HC.out.mono ?_); rintro e' w2 ⟨he, hb2⟩)
      rw [HR.out] at he
      subst he
      clear HC
      go_wp2
      go_ret3
      exact IsRowF.none_ HX.out hb2
    · have hX := Mt.getRow_ok hr hsh
      have hn : x + n ≤ l.length := by omega
      have hsh' : (n : Int) ≤ ((l.length : Nat) : Int) - (x : Int) := by omega
      have hlen : ((l.drop x).take n).length = n := by rw [List.length_take, List.length_drop]; omega
      obtain ⟨y, hy⟩ : ∃ y, (l.drop x).take n = y := ⟨_, rfl⟩
      rw [hy] at hX hlen
      have HX := Lib.hid hX
      have HL := Lib.hid hlen
      have HY := Lib.hid hy
      clear hr hsh hX hlen hy
      by_cases hcap : c = x
      · subst hcap
        have hn0 : n = 0 := by omega
        subst hn0
        obtain rfl : y = [] := List.eq_nil_of_length_eq_zero HL.out
        go_enter Try.func68, Try.ntmps68
        go_wp2_with fail
        ((with_reducible refine HC.out.mono ?_); rintro e' w2 ⟨he, hb2⟩)
        rw [HR.out] at he
        subst he
        have HB := Lib.hid hb2
        have HRW := Lib.hid (Rws.one_ (Bv.empty_ w2 w2.heap.size ⟨b, off, none⟩) (Nat.le_refl _))
        have HJ := Lib.hid (join_any _ _ _ _ (by simp) HRW.out (by simp [cat]))
        clear HC hb2
        go_wp2_with fail
        ((with_reducible refine HJ.out.mono ?_); rintro e w3 ⟨g, rfl, ho3, hb3⟩)
        rw [show cat [([] : List Nat)] = ([] : List Nat) by simp [cat]] at ho3 ⊢
        have hO := ho3.mono_ (base' := w.heap.size) (by have := HB.out.size; simp; omega)
        have hB2 := HB.out.trans ((Below.alloc (Below.refl _ _) HB.out.size _).trans (hb3.mono (by have := HB.out.size; simp; omega)))
        clear ho3 hb3 HJ HRW HB
        go_wp2
        go_ret3
        exact IsRowF.of HX.out hO hB2
      · have hp := H0.out.piece_ hn hcap
        rw [HY.out] at hp
        have HP := Lib.hid hp
        have hyl : y.length ≤ 140737488355328 := by have := HL.out; omega
        clear hp
        go_enter Try.func68, Try.ntmps68
        go_wp2_with fail
        ((with_reducible refine HC.out.mono ?_); rintro e' w2 ⟨he, hb2⟩)
        rw [HR.out] at he
        subst he
        have HB := Lib.hid hb2
        have HRW := Lib.hid (Rws.one_ (HP.out.below_ hb2 hB) (by have := hb2.size; omega))
        have HJ := Lib.hid (join_any _ _ _ _ (by simp) HRW.out (by simpa [cat] using hyl))
        clear HC hb2
        go_wp2_with fail
        ((with_reducible refine HJ.out.mono ?_); rintro e w3 ⟨g, rfl, ho3, hb3⟩)
        rw [show cat [y] = y by simp [cat]] at ho3 ⊢
        have hO := ho3.mono_ (base' := w.heap.size) (by have := HB.out.size; simp; omega)
        have hB2 := HB.out.trans ((Below.alloc (Below.refl _ _) HB.out.size _).trans (hb3.mono (by have := HB.out.size; simp; omega)))
        clear ho3 hb3 HJ HRW HB
        go_wp2
        go_ret3
        exact IsRowF.of HX.out hO hB2
end Go.Proofs.Ytlefkaoibokjdaa
namespace Go.Proofs.Ytlefkaoibokjdaa
open Go.RowKit
set_option linter.unusedVariables false

section
variable {P : Program} {ops : Array Oper} {md : Region.Mode} {R : World → Prop}

def FixedR (P : Program) (R : World → Prop) (v : Value) : Result Next → Prop
  | .ok (.value u) w' => u = v ∧ R w'
  | .ok .skip w' => v = undef ∧ R w'
  | .ok (.enter f args) w' => Calls P f args w' (fun e w'' => e = .returned v ∧ R w'')
  | _ => False
/-- In whatever world of R the operation yields v, and stays in R. -/
def FixedIn (P : Program) (ops : Array Oper) (R : World → Prop) (o : Oper) (v : Value) (a : Act) : Prop :=
  (Region.wanted o (yielded ops a.tmps) = true ∧ ∀ w, R w → FixedR P R v ((execOp a.eval o).run P w)) ∨ (Region.wanted o (yielded ops a.tmps) = false ∧ v = undef)
theorem FixedIn.of_same {o : Oper} {v : Value} {a a' : Act} (h : FixedIn P ops R o v a) (he : execOp a'.eval o = execOp a.eval o)
    (hw : Region.wanted o (yielded ops a'.tmps) = Region.wanted o (yielded ops a.tmps)) : FixedIn P ops R o v a' := by
  unfold FixedIn at *
  rw [he, hw]
  exact h
theorem FixedIn.wpOp {i : Nat} {o : Oper} {v : Value} {a : Act} (hi : ops[i]? = some o) (h : FixedIn P ops R o v a) {w : World} (hR : R w) {K : Act → World → Prop} {Q : Exit → Act → World → Prop}
    (hK : ∀ w', R w' → K (a.put o.dst v) w') : wpOp P ops Q i K a w := by
  unfold Go.wpOp
  simp only [hi]
  rcases h with ⟨hw, hv⟩ | ⟨hw, rfl⟩
  · rw [if_pos hw]
    refine .inl ?_
    have h := hv w hR
    unfold Oper.wp
    generalize (execOp a.eval o).run P w = r at *
    cases r with
    | ok n w' =>
      cases n <;> simp only [FixedR] at h <;> simp only [Oper.upon]
      case value u => obtain ⟨rfl, h2⟩ := h; exact hK _ h2
      case skip => obtain ⟨rfl, h2⟩ := h; exact hK _ h2
      case enter f args => exact h.mono fun e w'' ⟨he, hw⟩ => by subst he; exact hK _ hw
    | halt x w' => exact h.elim
  · simp only [hw, Bool.false_eq_true, if_false]
    exact hK _ hR

def grStep (P : Program) (ops : Array Oper) (R : World → Prop) (i : Nat) (K : Act → Prop) (a : Act) : Prop :=
  ∃ o v, ops[i]? = some o ∧ FixedIn P ops R o v a ∧ K (a.put o.dst v)
theorem grStep_mono {i : Nat} {a : Act} {K K' : Act → Prop} (h : ∀ a, K a → K' a) (hh : grStep P ops R i K a) : grStep P ops R i K' a := by
  obtain ⟨o, v, h1, h2, h3⟩ := hh
  exact ⟨o, v, h1, h2, h _ h3⟩
theorem grStep_put {j : Nat} {oi oj : Oper} {v : Value} (hj : ops[j]? = some oj) (hap : oi.apart ops oj = true)
    (hsi : ∀ cs b, oi.op ≠ .select cs b) (hsj : ∀ cs b, oj.op ≠ .select cs b) {K : Act → Prop} {a : Act}
    (hy : FixedIn P ops R oi v a) (h : grStep P ops R j K (a.put oi.dst v)) :
    grStep P ops R j (fun a' => FixedIn P ops R oi v a' ∧ K (a'.put oi.dst v)) a := by
  obtain ⟨h1, h2, h3⟩ := Oper.apart_spec hap
  obtain ⟨o, u, ho, hf, hK⟩ := h
  obtain rfl : o = oj := Option.some.inj (ho.symm.trans hj)
  refine ⟨o, u, ho, hf.of_same (execOp_put o hsj a oi.dst v h1).symm (wanted_put o a oi.dst v h1).symm, hy.of_same (execOp_put oi hsi a o.dst u h3) (wanted_put oi a o.dst u h3), ?_⟩
  rw [← Act.put_comm a v u h2]
  exact hK
def wpAnyG (P : Program) (md : Region.Mode) (ops : Array Oper) (R : World → Prop) (n : Nat) (L : Array Bool → Act → Prop) : Nat → Array Bool → Act → Prop
  | 0, listed, a => L listed a
  | f + 1, listed, a => Region.ready md ops listed ≠ [] ∧ ∀ i ∈ Region.ready md ops listed, i < n ∧ grStep P ops R i (wpAnyG P md ops R n L f (listed.setIfInBounds i true)) a
theorem wpAny_of_grown {n g : Nat} {L : Array Bool → Act → Prop} {Q : Exit → Act → World → Prop} (hL : ∀ listed a w, R w → L listed a → wpAny P md ops Q g listed a w) :
    ∀ (f : Nat) (listed : Array Bool) (a : Act) (w : World), R w → wpAnyG P md ops R n L f listed a → wpAny P md ops Q (f + g) listed a w
  | 0, listed, a, w, hR, h => by rw [Nat.zero_add]; exact hL _ _ _ hR h
  | f + 1, listed, a, w, hR, h => by
    rw [show f + 1 + g = (f + g) + 1 by omega]
    refine ⟨fun h0 => absurd h0 h.1, fun i hi => ?_⟩
    obtain ⟨o, v, ho, hf, hK⟩ := (h.2 i hi).2
    exact hf.wpOp ho hR fun w' hR' => wpAny_of_grown hL f _ _ w' hR' hK
theorem wpAnyG_first {n i : Nat} {oi : Oper} {v : Value} {L : Array Bool → Act → Prop} (hi : ops[i]? = some oi) (hsel : ∀ (j : Nat) (o : Oper) cs b, ops[j]? = some o → o.op ≠ .select cs b)
    (hs : Region.sinkB md ops n = true) (hc : Region.chainB md ops n = true) (hn : n < ops.size) (hin : i < n)
    (hdone : ∀ listed a, L listed a → ∀ j ∈ Region.ready md ops listed, n ≤ j) :
    ∀ (f : Nat) (listed : Array Bool) (a : Act), HeadInv md ops n listed →
      (∀ j oj, ops[j]? = some oj → j ≠ i → listed.getD j true = false → (∀ e ∈ oj.after, Region.binds md e = true → e.on ≠ i) → oi.apart ops oj = true) →
      i ∈ Region.ready md ops listed → FixedIn P ops R oi v a →
      wpAnyG P md ops R n L f (listed.setIfInBounds i true) (a.put oi.dst v) → wpAnyG P md ops R n L (f + 1) listed a := by
  intro f
  induction f with
  | zero =>
    intro listed a inv _ hr hy H
    have hun := (mem_ready.1 hr).1
    refine ⟨fun h => (by rw [h] at hr; cases hr), fun j hj => ?_⟩
    have hjn : j < n := by
      rcases Nat.lt_or_ge j n with h | h
      · exact h
      · exact absurd hj (tail_waits hs hc hn inv _ i rfl hin hun j h)
    refine ⟨hjn, ?_⟩
    by_cases hji : j = i
    · subst hji; exact ⟨oi, v, hi, hy, H⟩
    · have := hdone _ _ H j (ready_mono hj hji)
      omega
  | succ f ih =>
    intro listed a inv hfree hr hy H
    have hun := (mem_ready.1 hr).1
    refine ⟨fun h => (by rw [h] at hr; cases hr), fun j hj => ?_⟩
    have hjn : j < n := by
      rcases Nat.lt_or_ge j n with h | h
      · exact h
      · exact absurd hj (tail_waits hs hc hn inv _ i rfl hin hun j h)
    refine ⟨hjn, ?_⟩
    by_cases hji : j = i
    · subst hji; exact ⟨oi, v, hi, hy, H⟩
    · have h1 := (H.2 j (ready_mono hj hji)).2
      obtain ⟨hjun, oj, hoj, hall⟩ := mem_ready.1 hj
      have hnot : ∀ e ∈ oj.after, Region.binds md e = true → e.on ≠ i := fun e he hb heq => by
        have h1 := hall e he hb
        rw [heq, getD_both hun] at h1
        cases h1
      have h2 := grStep_put hoj (hfree j oj hoj hji hjun hnot) (fun cs b => hsel i oi cs b hi) (fun cs b => hsel j oj cs b hoj) hy h1
      have hfree' : ∀ k ok, ops[k]? = some ok → k ≠ i → (listed.setIfInBounds j true).getD k true = false →
          (∀ e ∈ ok.after, Region.binds md e = true → e.on ≠ i) → oi.apart ops ok = true := fun k ok hk hki hun hno => by
        refine hfree k ok hk hki ?_ hno
        by_cases hjk : j = k
        · subst hjk; exact hjun
        · rw [getD_set_ne true hjk] at hun; exact hun
      refine grStep_mono (fun a' h3 => ih (listed.setIfInBounds j true) a' (inv.set hj hjn) hfree' (ready_mono hr (Ne.symm hji)) h3.1 ?_) h2
      rw [Array.setIfInBounds_comm _ _ hji]
      exact h3.2

/-- The operations of a list, one behind the other. -/
def wpGrow (P : Program) (ops : Array Oper) (R : World → Prop) (Q : Act → Prop) : List Oper → Act → Prop
  | [], a => Q a
  | o :: rest, a => ∃ v, FixedIn P ops R o v a ∧ wpGrow P ops R Q rest (a.put o.dst v)
theorem wpAnyG_lex {n g : Nat} {Lq : Act → Prop} (hsel : Region.noSelect ops = true) (hs : Region.sinkB md ops n = true) (hc : Region.chainB md ops n = true) (hn : n < ops.size) :
    ∀ (l : List Oper) (k : Nat) (listed : Array Bool) (a : Act), (∀ j, j < l.length → l[j]? = ops[k + j]?) → k + l.length = n → HeadInv md ops n listed →
    Region.lexHead md ops g l.length k listed = true → wpGrow P ops R Lq l a →
    wpAnyG P md ops R n (fun listed' a' => Region.seqB md ops g n listed' = true ∧ Lq a') l.length listed a
  | [], k, listed, a, _, hk, _, hB, h => by
    have : k = n := by simpa using hk
    subst this
    exact ⟨by simpa [Region.lexHead] using hB, h⟩
  | o :: l, k, listed, a, hl, hk, inv, hB, h => by
    have h0 : ops[k]? = some o := by simpa using (hl 0 (by simp)).symm
    simp only [List.length_cons, Region.lexHead, Bool.and_eq_true] at hB
    obtain ⟨⟨hr, hf⟩, hB'⟩ := hB
    have hkn : k < n := by simp only [List.length_cons] at hk; omega
    have hr' : k ∈ Region.ready md ops listed := by simpa using hr
    obtain ⟨v, hy, hK⟩ := h
    exact wpAnyG_first h0 (Region.noSelect_spec hsel) hs hc hn hkn (fun listed' a' hL => seqB_ready hL.1) l.length listed a inv (Region.free_spec h0 hf) hr' hy
      (wpAnyG_lex hsel hs hc hn l (k + 1) _ _ (fun j hj => by have := hl (j + 1) (by simp; omega); simpa [Nat.add_assoc, Nat.add_comm 1 j] using this) (by simp only [List.length_cons] at hk; omega) (inv.set hr' hkn) hB' hK)
theorem wp_region_grow {id : Nat} {Q : Exit → Act → World → Prop} {a : Act} {w : World} {l : List Oper} (n : Nat) (hm : P.follows .mixedOrders = true) (hB : Region.lexTailB .any l.toArray n = true)
    (R : World → Prop) (hR : R w.drew) (h : wpGrow P l.toArray R (fun a' => ∀ w', R w' → wpList P l.toArray Q (l.drop n) a' w') (l.take n) a) : (Code.region id l.toArray true).wp P Q a w := by
  simp only [Region.lexTailB, Bool.and_eq_true, decide_eq_true_eq] at hB
  obtain ⟨⟨⟨⟨hsel, hn⟩, hs⟩, hc⟩, hlex⟩ := hB
  have hn' : n < l.length := by simpa using hn
  have htl : (l.take n).length = n := by simp; omega
  have hdl : (l.drop n).length = l.toArray.size - n := by simp
  have inv0 : HeadInv .any l.toArray n (Array.replicate l.toArray.size false) :=
    ⟨by simp, fun j oj _ hl => (by rw [getD_replicate_false] at hl; cases hl), fun t _ ht => getD_in (by simpa using ht) (getD_replicate_false _ _)⟩
  have H := wpAnyG_lex (md := .any) (g := l.toArray.size - n) hsel hs hc hn (l.take n) 0 _ a (fun j hj => by
    have hj' : j < n := by rw [htl] at hj; exact hj
    simp [hj']) (by simpa using htl) inv0 (by rw [htl]; exact hlex) h
  refine wp_region_any hm ?_
  have := wpAny_of_grown (Q := Q) (g := l.toArray.size - n) (fun listed a' w' hR' hL => by
    have := wpAny_of_seq (md := .any) (Q' := Q) (l.drop n) n listed a' w' (fun j => by simp [List.getElem?_drop]) (by rw [hdl]; exact hL.1) (hL.2 w' hR')
    rwa [hdl] at this) _ _ _ _ hR H
  rw [htl, show n + (l.toArray.size - n) = l.toArray.size by omega] at this
  exact this

/-! The steps. -/
variable {Q : Act → Prop} {a : Act} {o : Oper} {rest : List Oper}
theorem wpGrow_nil (h : Q a) : wpGrow P ops R Q [] a := h
theorem wpGrow_pure {v : Value} (hw : Region.wanted o (yielded ops a.tmps) = true) (h : ∀ w, R w → (execOp a.eval o).run P w = .ok (.value v) w) (hn : wpGrow P ops R Q rest (a.put o.dst v)) : wpGrow P ops R Q (o :: rest) a :=
  ⟨v, .inl ⟨hw, fun w hR => by rw [h w hR]; exact ⟨rfl, hR⟩⟩, hn⟩
theorem wpGrow_off (hw : Region.wanted o (yielded ops a.tmps) = false) (hn : wpGrow P ops R Q rest (a.put o.dst undef)) : wpGrow P ops R Q (o :: rest) a := ⟨undef, .inr ⟨hw, rfl⟩, hn⟩
theorem wpGrow_call {v : Value} {f : Nat} {args : Array Value} (hw : Region.wanted o (yielded ops a.tmps) = true) (h : ∀ w, (execOp a.eval o).run P w = .ok (.enter f args) w)
    (hc : ∀ w, R w → Calls P f args w (fun e w'' => e = .returned v ∧ R w'')) (hn : wpGrow P ops R Q rest (a.put o.dst v)) : wpGrow P ops R Q (o :: rest) a :=
  ⟨v, .inl ⟨hw, fun w hR => by rw [h w]; exact hc w hR⟩, hn⟩
theorem wpGrow_load_row (hw : Region.wanted o (yielded ops a.tmps) = true) (ty : TypeId) (x : Operand) (ho : o.op = .load ty x)
    (g : Nat) (hx : a.eval x = .pointer (some ⟨g, 0, none⟩)) (t : TypeId) (cs : Array Value) (fr : Nat × Nat) (d : TypeDesc) (hg : ∀ w, R w → w.heap[g]? = some (.cells cs t fr))
    (hu : P.underlying ty = some d) (hd : (match d with | .struct _ | .array _ _ => true | _ => false) = true) (hi : (P.info? ty).map (·.size) = some cs.size)
    (h : wpGrow P ops R Q rest (a.put o.dst (.agg cs))) : wpGrow P ops R Q (o :: rest) a :=
  wpGrow_pure hw (fun w hR => by
    unfold execOp
    simp only [ho, hx, Instr.loadAt, Instr.sureAddr, Sem.run_bind, Sem.run_pure, Result.andThen_ok, run_loadVar_row w g t ty cs fr d (hg w hR) hu hd hi]) h
theorem wpGrow_load_mid (hw : Region.wanted o (yielded ops a.tmps) = true) (ty : TypeId) (x : Operand) (ho : o.op = .load ty x)
    (b off : Nat) (hx : a.eval x = .pointer (some ⟨b, off, none⟩)) (cs : Array Value) (d : TypeDesc) (hc : ∀ w, R w → w.rangeAt b off cs.toList)
    (hu : P.underlying ty = some d) (hd : d.isRow = true) (hi : (P.info? ty).map (·.size) = some cs.size)
    (h : wpGrow P ops R Q rest (a.put o.dst (.agg cs))) : wpGrow P ops R Q (o :: rest) a :=
  wpGrow_pure hw (fun w hR => by
    unfold execOp
    simp only [ho, hx, Instr.loadAt, Instr.sureAddr, Sem.run_bind, Sem.run_pure, Result.andThen_ok, run_loadVar_mid w b off ty cs.toList d (hc w hR) hu hd (by simpa using hi)]) h
end
end Go.Proofs.Ytlefkaoibokjdaa
namespace Go.Proofs.Ytlefkaoibokjdaa
set_option linter.unusedVariables false
section
variable {P : Program} {ops : Array Oper} {Q : Exit → Act → World → Prop} {md : Region.Mode} {S : World → Prop} {L : Nat}
/-- What has come up is closed: all that it waits for has come up. -/
def Closed (md : Region.Mode) (ops : Array Oper) (listed : Array Bool) : Prop := ∀ (j : Nat) (oj : Oper), ops[j]? = some oj → listed.getD j false = true → ∀ e ∈ oj.after, Region.binds md e = true → listed.getD e.on false = true
def closedB (md : Region.Mode) (ops : Array Oper) (listed : Array Bool) : Bool := (List.range ops.size).all fun j => !(listed.getD j false) || (match ops[j]? with | some oj => oj.after.all fun e => !(Region.binds md e) || listed.getD e.on false | none => true)
theorem closed_of {listed : Array Bool} (h : closedB md ops listed = true) : Closed md ops listed := fun j oj hj hl e he hb => by
  have hs : j < ops.size := (Array.getElem?_eq_some_iff.1 hj).1
  have h1 := (List.all_eq_true.1 h) j (List.mem_range.2 hs)
  simp only [hl, hj, Bool.not_true, Bool.false_or] at h1
  have h2 := (Array.all_eq_true_iff_forall_mem.1 h1) e he
  simpa [hb] using h2
/-- Number j waits for number i, by way of others. -/
def reachB (md : Region.Mode) (ops : Array Oper) : Nat → Nat → Nat → Bool
  | 0, _, _ => false
  | n + 1, j, i => Region.waitsFor md ops j i || (List.range ops.size).any fun m => Region.waitsFor md ops j m && reachB md ops n m i
theorem reach_listed {listed : Array Bool} (hc : Closed md ops listed) : ∀ (n j i : Nat), reachB md ops n j i = true → (∀ oj, ops[j]? = some oj → ∀ e ∈ oj.after, Region.binds md e = true → listed.getD e.on false = true) → listed.getD i false = true
  | 0, _, _, h, _ => by cases h
  | n + 1, j, i, h, hj => by
    simp only [reachB, Bool.or_eq_true] at h
    rcases h with h | h
    · obtain ⟨oj, ho, e, he, hb, heq⟩ := Region.waitsFor_spec h
      rw [← heq]
      exact hj oj ho e he hb
    · obtain ⟨m, _, hm⟩ := List.any_eq_true.1 h
      simp only [Bool.and_eq_true] at hm
      obtain ⟨oj, ho, e, he, hb, heq⟩ := Region.waitsFor_spec hm.1
      have hl : listed.getD m false = true := by rw [← heq]; exact hj oj ho e he hb
      exact reach_listed hc n m i hm.2 (fun om hom e he hb => hc m om hom hl e he hb)
/-- Whatever order is picked, S holds behind every operation ahead of number L. -/
def wpAnyM (P : Program) (md : Region.Mode) (ops : Array Oper) (Q : Exit → Act → World → Prop) (S : World → Prop) (L : Nat) : Nat → Array Bool → Act → World → Prop
  | 0, listed, a, w => Region.ready md ops listed = [] ∧ Q .normal a w
  | fuel + 1, listed, a, w =>
    (Region.ready md ops listed = [] → Q .normal a w) ∧
    ∀ i ∈ Region.ready md ops listed, wpOp P ops Q i (fun a' w' => (L ≤ i ∨ S w') ∧ wpAnyM P md ops Q S L fuel (listed.setIfInBounds i true) a' w') a w
theorem wpAny_of_m : ∀ (fuel : Nat) (listed : Array Bool) (a : Act) (w : World), wpAnyM P md ops Q S L fuel listed a w → wpAny P md ops Q fuel listed a w
  | 0, _, _, _, h => h
  | fuel + 1, _, _, _, h => ⟨h.1, fun i hi => wpOp_mono (fun a' w' h' => wpAny_of_m fuel _ a' w' h'.2) (h.2 i hi)⟩
theorem getD_flip {listed : Array Bool} {i : Nat} (h : listed.getD i false = true) : listed.getD i true = true := by
  rcases Nat.lt_or_ge i listed.size with h' | h'
  · simp [h'] at h ⊢; exact h
  · simp [Array.getElem?_eq_none h']
theorem closed_set {listed : Array Bool} {j : Nat} (hc : Closed md ops listed) (hj : j ∈ Region.ready md ops listed) : Closed md ops (listed.setIfInBounds j true) := fun k ok hk hl e he hb => by
  have up : ∀ m, listed.getD m false = true → (listed.setIfInBounds j true).getD m false = true := fun m hm => by
    rcases Nat.lt_or_ge m listed.size with h' | h'
    · simp only [Array.getD_eq_getD_getElem?, Array.getElem?_setIfInBounds] at hm ⊢
      by_cases hjm : j = m
      · subst hjm; simp [h']
      · simp only [hjm, if_false]; exact hm
    · simp [Array.getElem?_eq_none h'] at hm
  obtain ⟨hjun, oj, hoj, hall⟩ := mem_ready.1 hj
  by_cases hkj : k = j
  · subst hkj
    rw [hoj] at hk
    injection hk with hk
    subst hk
    exact up _ (hall e he hb)
  · refine up _ (hc k ok hk ?_ e he hb)
    simp only [Array.getD_eq_getD_getElem?, Array.getElem?_setIfInBounds, Ne.symm hkj, if_false] at hl ⊢
    exact hl
theorem wpAnyM_first {i : Nat} {oi : Oper} {v : Value} (hi : ops[i]? = some oi) (hsel : ∀ (j : Nat) (o : Oper) cs b, ops[j]? = some o → o.op ≠ .select cs b)
    (hQ : ∀ c a w, Q (.panic c) (a.put oi.dst v) w → Q (.panic c) a w) (hL : ∀ j, L ≤ j → j < ops.size → reachB md ops 40 j i = true) :
    ∀ (fuel : Nat) (listed : Array Bool) (a : Act) (w : World), Closed md ops listed →
      (∀ j oj, ops[j]? = some oj → j ≠ i → listed.getD j true = false → (∀ e ∈ oj.after, Region.binds md e = true → e.on ≠ i) → oi.apart ops oj = true) →
      i ∈ Region.ready md ops listed → YieldsIf P ops S oi v a → S w →
      wpAnyM P md ops Q S L fuel (listed.setIfInBounds i true) (a.put oi.dst v) w → wpAnyM P md ops Q S L (fuel + 1) listed a w := by
  intro fuel
  induction fuel with
  | zero =>
    intro listed a w _ _ hr hy hS H
    refine ⟨fun h => (by rw [h] at hr; cases hr), fun j hj => ?_⟩
    by_cases hji : j = i
    · subst hji; exact hy.wpOp hi hS ⟨.inr hS, H⟩
    · have := ready_mono hj hji
      rw [H.1] at this
      cases this
  | succ fuel ih =>
    intro listed a w hcl hfree hr hy hS H
    refine ⟨fun h => (by rw [h] at hr; cases hr), fun j hj => ?_⟩
    by_cases hji : j = i
    · subst hji; exact hy.wpOp hi hS ⟨.inr hS, H⟩
    · have h1 := H.2 j (ready_mono hj hji)
      obtain ⟨hjun, oj, hoj, hall⟩ := mem_ready.1 hj
      have hun := (mem_ready.1 hr).1
      have hnot : ∀ e ∈ oj.after, Region.binds md e = true → e.on ≠ i := fun e he hb heq => by
        have h1 := getD_flip (hall e he hb)
        rw [heq, hun] at h1
        cases h1
      have hjL : ¬ L ≤ j := fun hLj => by
        have hjs : j < ops.size := (Array.getElem?_eq_some_iff.1 hoj).1
        have hl := getD_flip (reach_listed hcl 40 j i (hL j hLj hjs) (fun o ho e he hb => by rw [hoj] at ho; injection ho with ho; subst ho; exact hall e he hb))
        rw [hun] at hl
        cases hl
      have h2 := wpOp_putIf hoj (hfree j oj hoj hji hjun hnot) (fun cs b => hsel i oi cs b hi) (fun cs b => hsel j oj cs b hoj) hQ hy h1
      have hfree' : ∀ k ok, ops[k]? = some ok → k ≠ i → (listed.setIfInBounds j true).getD k true = false →
          (∀ e ∈ ok.after, Region.binds md e = true → e.on ≠ i) → oi.apart ops ok = true := fun k ok hk hki hun hno => by
        refine hfree k ok hk hki ?_ hno
        by_cases hjk : j = k
        · subst hjk; exact hjun
        · rw [getD_set_ne true hjk] at hun; exact hun
      refine wpOp_mono (fun a' w' h3 => ?_) h2
      have hS' : S w' := h3.2.1.resolve_left hjL
      refine ⟨.inr hS', ih (listed.setIfInBounds j true) a' w' (closed_set hcl hj) hfree' (ready_mono hr (Ne.symm hji)) h3.1 hS' ?_⟩
      rw [Array.setIfInBounds_comm _ _ hji]
      exact h3.2.2
/-- Take number i first: number L, and all behind it, wait for it. -/
theorem wpAnyM_take {i : Nat} {oi : Oper} {v : Value} {fuel : Nat} {listed : Array Bool} {a : Act} {w : World} (hi : ops[i]? = some oi)
    (hs : Region.noSelect ops = true) (hf : Region.free md ops listed i = true) (hr : (Region.ready md ops listed).contains i = true) (hL : (closedB md ops listed && (List.range ops.size).all fun j => decide (j < L) || reachB md ops 40 j i) = true)
    (hQ : ∀ c a w, Q (.panic c) (a.put oi.dst v) w → Q (.panic c) a w) (hS : S w) (hy : YieldsIf P ops S oi v a)
    (h : wpAnyM P md ops Q S L fuel (listed.setIfInBounds i true) (a.put oi.dst v) w) : wpAnyM P md ops Q S L (fuel + 1) listed a w := by
  simp only [Bool.and_eq_true] at hL
  refine wpAnyM_first hi (Region.noSelect_spec hs) hQ (fun j hj hjs => ?_) fuel listed a w (closed_of hL.1) (Region.free_spec hi hf) (by simpa using hr) hy hS h
  have := (List.all_eq_true.1 hL.2) j (List.mem_range.2 hjs)
  simp only [Bool.or_eq_true, decide_eq_true_eq] at this
  exact this.resolve_left (by omega)
/-- One operation alone comes up next. -/
theorem wpAnyM_next {fuel : Nat} {listed : Array Bool} {a : Act} {w : World} {i : Nat} {o : Oper} (hr : Region.ready md ops listed = [i]) (ho : ops[i]? = some o)
    (h : ∀ K' : Act → World → Prop, Shut (∀ a w, (L ≤ i ∨ S w) → wpAnyM P md ops Q S L fuel (listed.setIfInBounds i true) a w → K' a w) → if Region.wanted o (yielded ops a.tmps) = true then Oper.wp P o a w K' Q else K' (a.put o.dst undef) w) :
    wpAnyM P md ops Q S L (fuel + 1) listed a w := by
  refine ⟨fun h0 => (by rw [hr] at h0; cases h0), fun j hj => ?_⟩
  rw [hr] at hj
  obtain rfl : j = i := by simpa using hj
  exact wpOp_step ho (fun K' hK => h K' (fun a w hS hW => hK a w ⟨hS, hW⟩))
theorem wpAnyM_done {listed : Array Bool} {a : Act} {w : World} (hr : Region.ready md ops listed = []) (h : Q .normal a w) : ∀ fuel, wpAnyM P md ops Q S L fuel listed a w
  | 0 => ⟨hr, h⟩
  | _ + 1 => ⟨fun _ => h, by rw [hr]; simp⟩
theorem wp_region_m {id : Nat} {a : Act} {w : World} (S : World → Prop) (L : Nat) (hm : P.follows .mixedOrders = true)
    (h : wpAnyM P .any ops Q S L ops.size (Array.replicate ops.size false) a w.drew) : (Code.region id ops true).wp P Q a w :=
  wp_region_any hm (wpAny_of_m _ _ _ _ h)
end
end Go.Proofs.Ytlefkaoibokjdaa
