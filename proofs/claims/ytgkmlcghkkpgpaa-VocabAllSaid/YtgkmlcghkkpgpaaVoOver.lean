/-
  A range over a function whose iterator hands over new memory in each round: what it promises (Yields), and the loop's law for it.
  stooklaw08.over: tokens gone over, to one at which it is left.
-/
import Derived.RangeFuncNested
import Derived.RangeFuncBound
import Derived.RangeFuncCalls
import Derived.RangeFuncLeaves
import Derived.Test.YtgkmlcghkkpgpaaTurn
import Derived.Shelf.Abstract
import Derived.Shelf.RegionOpen
import Derived.WalkKit
import Derived.OwnWalkIn
import Derived.TacticsInMore
import Derived.LoopNIn
import Derived.LoopIn
import Derived.BigQuiet
import Derived.BigRegionIn
import Derived.Test.YtgkmlcghkkpgpaaRVoH
import Derived.Test.YtgkmlcghkkpgpaaOcts
import Derived.Test.YtgkmlcghkkpgpaaSpoilO
namespace Go.Proofs.Ytgkmlcghkkpgpaa
open Go.RowKit
set_option linter.unusedVariables false

/-- An iterator's function gives N times; G tells of what it gives in round k, in the world in which it is given. It turns nothing that lay there but by the rounds. -/
def Yields (F : Fence) (n : Nat) (P : Program) (g : Nat) (lb : Array Value) (n₀ N : Nat) (G : Nat → Array Value → World → Prop) (w0 : World) : Prop :=
  ∀ (l : Nat) (J : Nat → World → Prop) (Jx : World → Prop) (W : World), Below n₀ w0 W →
    (∀ k A B, J k A → Below A.heap.size A B → J k B) → (∀ A B, Jx A → Below A.heap.size A B → Jx B) →
    (∀ k vs A, k < N → G k vs A → J k A → YieldAt F (n - 1) P l vs A (fun e B => (e = .returned (.bool true) ∧ J (k + 1) B ∧ Below n₀ A B) ∨ (e = .returned (.bool false) ∧ Jx B))) →
    J 0 W → CallsIn F n P g (#[.func (.yield l) #[] #[]] ++ lb) W (fun e B => (∃ v, e = .returned v) ∧ (J N B ∨ Jx B))

/-- How a round's body may end. -/
def roundEnd (B n₀ : Nat) (I : Nat → World → Prop) (Ix : Code → World → Prop) (k : Nat) (A : World) : Exit → Act → World → Prop
  | .normal, _, W => KeepsFrom B A W ∧ Below n₀ A W ∧ I (k + 1) W
  | .ret, _, W => KeepsFrom B A W ∧ Ix .ret W
  | .exit id, _, W => KeepsFrom B A W ∧ Ix (.exit id) W
  | .goto t, _, W => KeepsFrom B A W ∧ Ix (.goto t) W
  | .panic _, _, _ => False
  | .outgrown, _, _ => False

/-- A loop's record. -/
def loopRec (fn : FuncId) (tmps : Array Value) (ps : Array Tmp) (assign body : Code) (D : Nat) (st : LoopState) (pe : Option Code) : Loop :=
  { state := st, pending := pe, fn := fn, tmps := tmps, params := ps, assign := assign, body := body, defers := D }

theorem grown_of_below {A B : World} (h : Below A.heap.size A B) : A.grownBy B none := ⟨h.os, h.tape, h.output, h.size, fun i hi _ => h.block i hi⟩
theorem below_put {A : World} {n₀ l : Nat} (hl : n₀ ≤ l) (o : Obj) : Below n₀ A (A.putObj l o) :=
  ⟨rfl, rfl, rfl, by simp [World.putObj], fun i hi => World.putObj_heap_other (by omega)⟩

/-- One round: the record stands ready, the body ends as it may. -/
theorem yield_round {F : Fence} {m : Nat} {P : Program} {fn : FuncId} {tmps : Array Value} {ps : Array Tmp} {assign body : Code} {B n₀ k : Nat} {vs : Array Value} {A : World} {I : Nat → World → Prop} {Ix : Code → World → Prop} {a₁ : Act}
    (hfn : F.fn fn) (hn : n₀ ≤ B) (hI : OwnFrom B I) (hIx : ∀ c, OwnFrom B (fun (_ : Unit) => Ix c)) (hvs : vs.size = ps.size)
    (hl : A.heap[B + 1]? = some (.loop (loopRec fn tmps ps assign body B .ready none))) (hd : A.heap[B]? = some (.deferred (some [])))
    (hassign : ∀ K : Act → World → Prop, K a₁ A → assign.wpIn (F.inRound (B + 1)) m P (Exit.then K (fun _ _ _ => False)) { tmps := (ps.zip vs).foldl (fun t (p, v) => t.setIfInBounds p v) tmps, defers := [] } A)
    (hbody : ∀ A', A' = A.putObj (B + 1) (.loop (loopRec fn tmps ps assign body B .busy none)) → body.wpIn (F.inRound (B + 1)) m P (roundEnd B n₀ I Ix k A') a₁ A') :
    YieldAt F m P (B + 1) vs A (fun e W => (e = .returned (.bool true) ∧ (I (k + 1) W ∧ W.heap[B + 1]? = some (.loop (loopRec fn tmps ps assign body B .ready none)) ∧ W.heap[B]? = some (.deferred (some []))) ∧ Below n₀ A W) ∨
      (e = .returned (.bool false) ∧ ∃ c, Ix c W ∧ W.heap[B + 1]? = some (.loop (loopRec fn tmps ps assign body B .done (some c))) ∧ W.heap[B]? = some (.deferred (some [])))) := by
  have hlt : B + 1 < A.heap.size := (Array.getElem?_eq_some_iff.1 hl).1
  refine ⟨fn, _, assign, body, run_yield hl hvs, roundIn_of_wpIn hfn (hassign _ ⟨_, run_beginRound hl rfl, wpIn_mono (hbody _ rfl) ?_⟩)⟩
  have hl2 : (A.putObj (B + 1) (.loop (loopRec fn tmps ps assign body B .busy none))).heap[B + 1]? = some (.loop (loopRec fn tmps ps assign body B .busy none)) := World.putObj_heap_same hlt
  have hd2 : (A.putObj (B + 1) (.loop (loopRec fn tmps ps assign body B .busy none))).heap[B]? = some (.deferred (some [])) := (World.putObj_heap_other (by omega)).trans hd
  have hb2 : Below n₀ A (A.putObj (B + 1) (.loop (loopRec fn tmps ps assign body B .busy none))) := below_put (by omega) _
  obtain ⟨A2, hA2⟩ : ∃ A2, A.putObj (B + 1) (.loop (loopRec fn tmps ps assign body B .busy none)) = A2 := ⟨_, rfl⟩
  rw [hA2] at hl2 hd2 hb2
  -- behind the body the record is still busy; the round's end turns it
  have fin : ∀ {W : World} (c : Option Code), KeepsFrom B A2 W →
      (Instr.endRound (B + 1) c).run P W = .ok (.bool c.isNone) (W.putObj (B + 1) (.loop (loopRec fn tmps ps assign body B (if c.isNone then .ready else .done) c))) ∧
      W.heap[B + 1]? = some (.loop (loopRec fn tmps ps assign body B .busy none)) ∧
      (W.putObj (B + 1) (.loop (loopRec fn tmps ps assign body B (if c.isNone then .ready else .done) c))).heap[B + 1]? = some (.loop (loopRec fn tmps ps assign body B (if c.isNone then .ready else .done) c)) ∧
      (W.putObj (B + 1) (.loop (loopRec fn tmps ps assign body B (if c.isNone then .ready else .done) c))).heap[B]? = some (.deferred (some [])) := by
    intro W c hk
    have h1 := hk.same (B + 1) _ (by omega) hl2 rfl
    have h2 := hk.same B _ (Nat.le_refl _) hd2 rfl
    exact ⟨run_endRound c h1, h1, World.putObj_heap_same (Array.getElem?_eq_some_iff.1 h1).1, (World.putObj_heap_other (by omega)).trans h2⟩
  have left : ∀ {W : World} (c : Code), KeepsFrom B A2 W → Ix c W → ∃ v W', (Instr.endRound (B + 1) (some c)).run P W = .ok v W' ∧
      ((Ending.returned v = .returned (.bool true) ∧ (I (k + 1) W' ∧ W'.heap[B + 1]? = some (.loop (loopRec fn tmps ps assign body B .ready none)) ∧ W'.heap[B]? = some (.deferred (some []))) ∧ Below n₀ A W') ∨
      (Ending.returned v = .returned (.bool false) ∧ ∃ c, Ix c W' ∧ W'.heap[B + 1]? = some (.loop (loopRec fn tmps ps assign body B .done (some c))) ∧ W'.heap[B]? = some (.deferred (some [])))) := by
    intro W c hk hi
    obtain ⟨h1, h2, h3, h4⟩ := fin (some c) hk
    exact ⟨_, _, h1, .inr ⟨rfl, c, (hIx c).putObj (s := ()) _ hi (by omega) h2 rfl, h3, h4⟩⟩
  intro e a3 W hp0
  have hp : roundEnd B n₀ I Ix k A2 e a3 W := by rw [← hA2]; exact hp0
  clear hp0
  match e, hp with
  | .normal, ⟨hk, hb3, hi⟩ =>
    obtain ⟨h1, h2, h3, h4⟩ := fin none hk
    exact ⟨_, _, h1, .inl ⟨rfl, ⟨hI.putObj _ hi (by omega) h2 rfl, h3, h4⟩, (hb2.trans hb3).trans (below_put (by omega) _)⟩⟩
  | .ret, ⟨hk, hi⟩ => exact left _ hk hi
  | .exit id, ⟨hk, hi⟩ => exact left _ hk hi
  | .goto t, ⟨hk, hi⟩ => exact left _ hk hi
  | .panic _, h => exact h.elim
  | .outgrown, h => exact h.elim

/-- The loop's law. -/
theorem wpIn_range_yields {F : Fence} {n : Nat} {P : Program} {g : Operand} {ps : Array Tmp} {assign body : Code} {Q : Exit → Act → World → Prop} {a : Act} {w : World}
    (hro : F.round = none) (h1 : 1 ≤ n) {gf : Nat} {lb : Array Value} (hg : a.eval g = .func (.func gf) #[] lb) (hFg : F.fn gf) (eg : ∀ args w, (callFunc gf args).run P w = .ok (.enter gf args) w)
    {n₀ N : Nat} {G : Nat → Array Value → World → Prop} {w0 : World} (hy : Yields F (n - 1) P gf lb n₀ N G w0) (hn : n₀ ≤ w.heap.size) (hb : Below n₀ w0 w)
    (hps : ∀ k vs A, G k vs A → vs.size = ps.size)
    (hG : ∀ k vs A l o o', G k vs A → w.heap.size ≤ l → A.heap[l]? = some o → o.isCells = false → G k vs (A.putObj l o'))
    (I : Nat → World → Prop) (Ix : Code → World → Prop) (hI : OwnFrom w.heap.size I) (hIx : ∀ c, OwnFrom w.heap.size (fun (_ : Unit) => Ix c)) (h0 : I 0 w) (a₁ : Array Value → Act)
    (hassign : ∀ l k vs A (K : Act → World → Prop), G k vs A → K (a₁ vs) A →
      assign.wpIn (F.inRound l) (n - 1 - 1) P (Exit.then K (fun _ _ _ => False)) { tmps := (ps.zip vs).foldl (fun t (p, v) => t.setIfInBounds p v) a.tmps, defers := [] } A)
    (hbody : ∀ l k vs A, k < N → G k vs A → I k A → body.wpIn (F.inRound l) (n - 1 - 1) P (roundEnd w.heap.size n₀ I Ix k A) (a₁ vs) A)
    (hdone : ∀ D W, w.heap.size ≤ D → I N W → W.heap[D]? = some (.deferred (some [])) → Q .normal { a with defers := { target := .collected D, args := #[] } :: a.defers } W)
    (hstop : ∀ D c W, w.heap.size ≤ D → Ix c W → W.heap[D]? = some (.deferred (some [])) → c.wpIn F n P Q { a with defers := { target := .collected D, args := #[] } :: a.defers } W) :
    (Code.rangeFunc g ps assign body).wpIn F n P Q a w := by
  refine wpIn_rangeFunc fun fn hfn => ?_
  obtain ⟨B, hB⟩ : ∃ B, w.heap.size = B := ⟨_, rfl⟩
  rw [hB] at hI hIx hG hn hbody hdone hstop
  have hr0 := run_enterLoop_outer (P := P) (w := w) fn a.tmps ps assign body
  rw [hB] at hr0
  change (Instr.enterLoop fn a.tmps ps assign body none).run P w = .ok (B + 1, _) ((w.alloc (.deferred (some []))).alloc (.loop (loopRec fn a.tmps ps assign body B .ready none))) at hr0
  have s1 : (w.alloc (.deferred (some []))).heap.size = B + 1 := by simp [hB]
  have hd1 : ((w.alloc (.deferred (some []))).alloc (.loop (loopRec fn a.tmps ps assign body B .ready none))).heap[B]? = some (.deferred (some [])) := by
    rw [heap_alloc_old _ _ _ (by omega), ← hB]; exact heap_alloc_new w _
  have hl1 : ((w.alloc (.deferred (some []))).alloc (.loop (loopRec fn a.tmps ps assign body B .ready none))).heap[B + 1]? = some (.loop (loopRec fn a.tmps ps assign body B .ready none)) := by
    rw [← s1]; exact heap_alloc_new _ _
  have hi1 : I 0 ((w.alloc (.deferred (some []))).alloc (.loop (loopRec fn a.tmps ps assign body B .ready none))) := hI.alloc _ (hI.alloc _ h0)
  have hb1 : Below n₀ w0 ((w.alloc (.deferred (some []))).alloc (.loop (loopRec fn a.tmps ps assign body B .ready none))) :=
    hb.trans (((Below.refl n₀ w).alloc (by omega) _).alloc (by omega) _)
  generalize (w.alloc (.deferred (some []))).alloc (.loop (loopRec fn a.tmps ps assign body B .ready none)) = W1 at *
  rw [hro]
  refine ⟨B + 1, _, W1, { target := .fn (.func gf) lb, args := #[.func (.yield (B + 1)) #[] #[]] }, W1, gf, #[.func (.yield (B + 1)) #[] #[]] ++ lb, W1, hr0, ?_, ?_, ?_, fun _ => h1, ?_⟩
  · simp only [resolve, hg]
    simp [go_sem]
  · intro f' hf'
    simp [Target.leads] at hf'
    subst hf'
    exact hFg
  · simp [invoke, go_sem, eg]
  refine (hy (B + 1) (fun k W => I k W ∧ W.heap[B + 1]? = some (.loop (loopRec fn a.tmps ps assign body B .ready none)) ∧ W.heap[B]? = some (.deferred (some [])))
    (fun W => ∃ c, Ix c W ∧ W.heap[B + 1]? = some (.loop (loopRec fn a.tmps ps assign body B .done (some c))) ∧ W.heap[B]? = some (.deferred (some []))) W1 hb1 ?_ ?_ ?_ ⟨hi1, hl1, hd1⟩).mono ?_
  · rintro k A A' ⟨hi, hl, hd⟩ hbb
    exact ⟨hI k A A' none hi (grown_of_below hbb) (fun r e => by cases e), (hbb.block _ (Array.getElem?_eq_some_iff.1 hl).1).trans hl, (hbb.block _ (Array.getElem?_eq_some_iff.1 hd).1).trans hd⟩
  · rintro A A' ⟨c, hi, hl, hd⟩ hbb
    exact ⟨c, hIx c () A A' none hi (grown_of_below hbb) (fun r e => by cases e), (hbb.block _ (Array.getElem?_eq_some_iff.1 hl).1).trans hl, (hbb.block _ (Array.getElem?_eq_some_iff.1 hd).1).trans hd⟩
  · rintro k vs A hk hg' ⟨hi, hl, hd⟩
    refine yield_round hfn hn hI hIx (hps k vs A hg') hl hd (fun K hK => hassign _ k vs A K hg' hK) ?_
    rintro A' rfl
    exact hbody _ k vs _ hk (hG k vs A _ _ _ hg' (by omega) hl rfl) (hI.putObj _ hi (by omega) hl rfl)
  · rintro e W ⟨⟨v, rfl⟩, (⟨hi, hl, hd⟩ | ⟨c, hi, hl, hd⟩)⟩
    · exact ⟨none, _, run_endLoop hl (by simp [loopRec]), hdone B _ (Nat.le_refl _) (hI.putObj _ hi (by omega) hl rfl) ((World.putObj_heap_other (by omega)).trans hd)⟩
    · exact ⟨some c, _, run_endLoop hl (by simp [loopRec]), hstop B c _ (Nat.le_refl _) ((hIx c).putObj (s := ()) _ hi (by omega) hl rfl) ((World.putObj_heap_other (by omega)).trans hd)⟩
end Go.Proofs.Ytgkmlcghkkpgpaa
namespace Go.Proofs.Ytgkmlcghkkpgpaa
open Go.RowKit Go.Shelf
set_option linter.unusedVariables false
attribute [local go_sem] Oper.semAt_some

/-- What is given in round k: k, and the k-th row, in memory from n₀ on. -/
def rowG (T : List (List Nat)) (n₀ : Nat) (k : Nat) (vs : Array Value) (A : World) : Prop :=
  ∃ Ad c t, T[k]? = some t ∧ vs = #[.int .i64 (k : Nat), .slice Ad t.length c] ∧ OwnL yK A n₀ (.slice Ad t.length c) t
theorem putObj_other {A : World} {l k : Nat} {o : Obj} (h : k ≠ l) : (A.putObj l o).heap[k]? = A.heap[k]? := World.putObj_heap_other h
theorem OwnL.putObj_ {P : Program} {α : Type} {K : El P α} {A : World} {base : Nat} {v : Value} {x : List α} (h : OwnL K A base v x) {l : Nat} {o : Obj} (hl : A.heap[l]? = some o) (ho : o.isCells = false) (o' : Obj) : OwnL K (A.putObj l o') base v x := by
  refine h.of_block fun g hg => putObj_other fun e => ?_
  subst e
  rcases h.2 with ⟨rfl, _⟩ | ⟨g', s, rfl, _, _, _, hh⟩
  · cases hg
  · have e : g' = g := Option.some.inj hg
    subst e
    rw [hh] at hl
    cases hl
    cases ho
theorem rowG_put {T : List (List Nat)} {n₀ k : Nat} {vs : Array Value} {A : World} (h : rowG T n₀ k vs A) {l : Nat} {o : Obj} (o' : Obj) (hl : A.heap[l]? = some o) (ho : o.isCells = false) : rowG T n₀ k vs (A.putObj l o') := by
  obtain ⟨Ad, c, t, h1, h2, h3⟩ := h
  exact ⟨Ad, c, t, h1, h2, h3.putObj_ hl ho o'⟩
/-- A box: a block of one cell. -/
def Bx (W : World) (s : Nat) (u : Value) (t : TypeId) : Prop := W.heap[s]? = some (.cells #[u] t (0, 0))
theorem Bx.own_ {s : Nat} {u : Value} {t : TypeId} {W W' : World} {row : Option Nat} (h : Bx W s u t) (hg : W.grownBy W' row) (hr : ∀ r, row = some r → ∃ o : Obj, W.heap[r]? = some o ∧ o.isCells = false) : Bx W' s u t := by
  refine (hg.block s (Array.getElem?_eq_some_iff.1 h).1 (fun e => ?_)).trans h
  obtain ⟨o, ho, hc⟩ := hr s e.symm
  rw [show W.heap[s]? = _ from h] at ho
  cases ho
  cases hc
theorem Bx.cell_ {s : Nat} {u : Value} {t : TypeId} {W : World} (h : Bx W s u t) : W.cell? ⟨s, 0, none⟩ = some u := by rw [cell_of_row _ _ 0 _ _ _ h]; rfl
theorem Bx.cool_ {s : Nat} {u : Value} {t : TypeId} {W : World} (h : Bx W s u t) : W.frozen? ⟨s, 0, none⟩ = false := frozen_of_row W s 0 _ _ h
theorem Bx.set_ {s : Nat} {u : Value} {t : TypeId} {W : World} (h : Bx W s u t) (x : Value) : Bx (W.setCell ⟨s, 0, none⟩ x) s x t := by unfold Bx; rw [heap_setCell_same W s 0 _ _ _ h]; rfl
theorem Bx.other_ {s : Nat} {u : Value} {t : TypeId} {W : World} (h : Bx W s u t) {p : Addr} (hp : s ≠ p.block) (x : Value) : Bx (W.setCell p x) s u t := (heap_setCell_other W p s x hp).trans h
theorem Bx.below_ {s : Nat} {u : Value} {t : TypeId} {W W' : World} {B : Nat} (h : Bx W s u t) (hb : Below B W W') (hs : s < B) : Bx W' s u t := (hb.block s hs).trans h
theorem Bx.new_ (W : World) (u : Value) (t : TypeId) : Bx (W.alloc (.cells #[u] t)) W.heap.size u t := heap_alloc_new W _
theorem Bx.of_old {s : Nat} {u : Value} {t : TypeId} {W : World} (h : Bx W s u t) (o : Obj) : Bx (W.alloc o) s u t := (heap_alloc_old W o s (Array.getElem?_eq_some_iff.1 h).1).trans h
theorem Bx.lt_ {s : Nat} {u : Value} {t : TypeId} {W : World} (h : Bx W s u t) : s < W.heap.size := (Array.getElem?_eq_some_iff.1 h).1
/-- An own list and a box of another type. -/
theorem Bx.apart_ {P : Program} {α : Type} {K : El P α} {s base : Nat} {u : Value} {t : TypeId} {W : World} {v : Value} {x : List α} (h : Bx W s u t) (ho : OwnL K W base v x) (ht : t ≠ K.e) : v.ownBlock ≠ some s := fun e => by
  rcases ho.2 with ⟨rfl, _⟩ | ⟨g', c, rfl, _, _, _, hh⟩
  · cases e
  · have e : g' = s := Option.some.inj e
    subst e
    rw [show W.heap[g']? = _ from h] at hh
    have := Option.some.inj hh
    injection this with _ e2 _
    exact ht e2

theorem fn_not_nil54 (fn : Nat) (caps : Array Value) (w : World) : (binOp .eql 54 (.func (.func fn) #[] caps) .nilFunc).run Try.prog w = .ok (.bool false) w := by
  kernel_rfl
/-- What over tells: how many there were, or at which one it was left. -/
def leftAt (N : Nat) (stop : Int) : Int := if 0 ≤ stop ∧ stop < N then stop else N

set_option maxRecDepth 100000 in
set_option maxHeartbeats 4000000 in
theorem over_any (T : List (List Nat)) (hT : T.length ≤ 4194304) (gf : Nat) (lb : Array Value) (eg : ∀ args w, (callFunc gf args).run Try.prog w = .ok (.enter gf args) w) (u : Value) (stop : Int) (B : Nat) (w : World) (hu : LLv yR w B u T) (hB : B ≤ w.heap.size)
    (hy : Yields Fence.wide 8 Try.prog gf lb w.heap.size T.length (rowG T w.heap.size) w) :
    Calls Try.prog 33 #[.func (.func gf) #[] lb, u, .int .i64 stop] w (fun e w' => e = .returned (.tuple #[.int .i64 (leftAt T.length stop), .bool true]) ∧ Below w.heap.size w w') := by
  obtain ⟨A, n, c, rfl⟩ : ∃ A n c, u = .slice A n c := by
    obtain ⟨us, _, ⟨A, c, e, _⟩, _⟩ := hu
    exact ⟨_, _, _, e⟩
  have hn := hu.len_
  subst hn
  obtain ⟨N, hN⟩ : ∃ N, T.length = N := ⟨_, rfl⟩
  obtain ⟨s, hs⟩ : ∃ s, w.heap.size = s := ⟨_, rfl⟩
  rw [hN] at hy hT
  rw [hs] at hy hB
  obtain ⟨W, hW⟩ : ∃ W, (((w.alloc (.cells #[.slice A N c] 50)).alloc (.cells #[.int .i64 stop] 3)).alloc (.cells #[.int .i64 0] 3)).alloc (.cells #[.bool true] 4) = W := ⟨_, rfl⟩
  have hsz : W.heap.size = s + 4 := by rw [← hW]; simp [hs]
  have hbw : Below s w W := by
    rw [← hW]
    exact ((((Below.refl s w).alloc (by omega) _).alloc (by simp; omega) _).alloc (by simp; omega) _).alloc (by simp; omega) _
  obtain ⟨b0, b1, b2, b3⟩ : Bx W s (.slice A N c) 50 ∧ Bx W (s + 1) (.int .i64 stop) 3 ∧ Bx W (s + 1 + 1) (.int .i64 0) 3 ∧ Bx W (s + 1 + 1 + 1) (.bool true) 4 := by
    have e1 : (w.alloc (.cells #[.slice A N c] 50)).heap.size = s + 1 := by simp [hs]
    have e2 : ((w.alloc (.cells #[.slice A N c] 50)).alloc (.cells #[.int .i64 stop] 3)).heap.size = s + 1 + 1 := by simp [hs]
    have e3 : (((w.alloc (.cells #[.slice A N c] 50)).alloc (.cells #[.int .i64 stop] 3)).alloc (.cells #[.int .i64 0] 3)).heap.size = s + 1 + 1 + 1 := by simp [hs]
    have a0 := Bx.new_ w (.slice A N c) 50
    rw [hs] at a0
    have a1 := Bx.new_ (w.alloc (.cells #[.slice A N c] 50)) (.int .i64 stop) 3
    rw [e1] at a1
    have a2 := Bx.new_ ((w.alloc (.cells #[.slice A N c] 50)).alloc (.cells #[.int .i64 stop] 3)) (.int .i64 0) 3
    rw [e2] at a2
    have a3 := Bx.new_ (((w.alloc (.cells #[.slice A N c] 50)).alloc (.cells #[.int .i64 stop] 3)).alloc (.cells #[.int .i64 0] 3)) (.bool true) 4
    rw [e3] at a3
    rw [← hW]
    exact ⟨((a0.of_old _).of_old _).of_old _, (a1.of_old _).of_old _, a2.of_old _, a3⟩
  have hnn := fn_not_nil54 gf lb
  refine (callsIn_wide (n := 9)).1 (callsIn_of_wp_marks Try.func33 rfl trivial ?_ rfl)
  simp only [Try.ntmps33, List.size_toArray, List.length_cons, List.length_nil, Nat.reduceAdd, Nat.reduceSub, Array.replicate_succ, Array.replicate_zero, List.push_toArray, List.append_toArray, List.nil_append, List.cons_append]
  rw [hN]
  gi_wp2
  have HU := Lib.hid hu
  have HB := Lib.hid hB
  have HT := Lib.hid hT
  have HNN := Lib.hid hN
  have HSZ := Lib.hid hsz
  refine wpIn_range_yields rfl (by omega) rfl trivial eg hy (by omega) hbw (fun k vs V h => by obtain ⟨_, _, _, _, rfl, _⟩ := h; rfl) (fun k vs V l o o' h _ hl ho => rowG_put h o' hl ho)
    (fun k V => Bx V s (.slice A N c) 50 ∧ Bx V (s + 1) (.int .i64 stop) 3 ∧ Bx V (s + 1 + 1) (.int .i64 (k : Nat)) 3 ∧ Bx V (s + 1 + 1 + 1) (.bool true) 4 ∧ Below s w V ∧ ¬ (0 ≤ stop ∧ stop < (k : Nat)))
    (fun cd V => cd = .exit 0 ∧ Bx V (s + 1 + 1) (.int .i64 stop) 3 ∧ Bx V (s + 1 + 1 + 1) (.bool true) 4 ∧ Below s w V ∧ 0 ≤ stop ∧ stop < (N : Nat))
    (fun k X Y row h hg hr => ⟨h.1.own_ hg (fun r e => (hr r e).2), h.2.1.own_ hg (fun r e => (hr r e).2), h.2.2.1.own_ hg (fun r e => (hr r e).2), h.2.2.2.1.own_ hg (fun r e => (hr r e).2), h.2.2.2.2.1.grown hg (hs ▸ h.2.2.2.2.1.size) (fun r e => by have := (hr r e).1; omega), h.2.2.2.2.2⟩)
    (fun cd k X Y row h hg hr => ⟨h.1, h.2.1.own_ hg (fun r e => (hr r e).2), h.2.2.1.own_ hg (fun r e => (hr r e).2), h.2.2.2.1.grown hg (hs ▸ h.2.2.2.1.size) (fun r e => by have := (hr r e).1; omega), h.2.2.2.2⟩)
    ⟨b0, b1, b2, b3, hbw, by omega⟩
    (fun vs => { tmps := #[.func (.func gf) #[] lb, .slice A N c, .int .i64 stop, undef, .pointer (some ⟨s, 0, none⟩), .pointer (some ⟨s + 1, 0, none⟩), .int .i64 0, .bool false, .pointer (some ⟨s + 1 + 1, 0, none⟩), .pointer (some ⟨s + 1 + 1 + 1, 0, none⟩), vs.getD 0 undef, vs.getD 1 undef, .func (.func gf) #[] lb, .bool false, .func (.func gf) #[] lb, vs.getD 0 undef, vs.getD 1 undef, undef, undef, undef, undef, undef, undef, undef, undef, undef, undef, undef, undef, undef, undef, undef, undef, undef, undef, undef, undef, undef, undef, undef, undef, undef, undef, undef, undef, undef], defers := [] }) ?assign ?body ?done ?stop
  case assign =>
    rintro l k vs V K ⟨Ad, cc, t, ht, rfl, ho⟩ hK
    gi_wp2
    exact hK
  case body =>
    rintro l k vs V hk ⟨Ad, cc, t, ht, rfl, ho⟩ ⟨a0, a1, a2, a3, hbv, hst⟩
    have e0 : (#[Value.int .i64 (k : Nat), Value.slice Ad t.length cc] : Array Value).getD 0 undef = .int .i64 (k : Nat) := rfl
    have e1 : (#[Value.int .i64 (k : Nat), Value.slice Ad t.length cc] : Array Value).getD 1 undef = .slice Ad t.length cc := rfl
    simp only [e0, e1]
    clear e0 e1
    obtain ⟨bb, off, A', c', t', hA, hbb, ht', hcell, hlv⟩ := (HU.out.below_ hbv HB.out).at_ (k := k) (by rw [HNN.out]; exact hk)
    rw [ht] at ht'
    cases ht'
    subst hA
    have q0 := a0.cell_
    have q1 := a1.cell_
    have q2 := a2.cell_
    have q3 := a3.cell_
    have f2 := a2.cool_
    have f3 := a3.cool_
    have g1 : (k : Int) < (N : Int) := by omega
    have HS : Hid (∀ m, CallsIn (Fence.wide.inRound l) m Try.prog 23 #[.slice Ad t.length cc, .slice A' t.length c'] V (IsBool true V)) := fun m => by
      have h := octs_lv _ _ t t _ _ V ho.form_ hlv
      rw [decide_eq_true rfl] at h
      exact CallsIn.inRound l (callsIn_wide.2 h)
    have HO := Lib.hid ho
    have HLV := Lib.hid hlv
    have HA0 := Lib.hid a0
    have HA1 := Lib.hid a1
    have HA2 := Lib.hid a2
    have HA3 := Lib.hid a3
    have HBV := Lib.hid hbv
    have HST := Lib.hid hst
    clear ho hlv a0 a1 a2 a3 hbv hst ht b0 b1 b2 b3 hbw hy hW hu hnn
    gi_wp2
    refine ⟨trivial, (HS.out _).mono ?_⟩
    rintro e V1 ⟨rfl, hb1⟩
    have hbs : s + 1 + 1 + 1 < V.heap.size := HA3.out.lt_
    have z0 := HA0.out.below_ hb1 HA0.out.lt_
    have z1 := HA1.out.below_ hb1 HA1.out.lt_
    have z2 := HA2.out.below_ hb1 HA2.out.lt_
    have z3 := HA3.out.below_ hb1 hbs
    have ho1 := HO.out.below_ hb1 (Nat.le_refl _)
    have kf1 : KeepsFrom W.heap.size V V1 := KeepsFrom.of_grownBy (grown_of_below hb1) (fun j h => by cases h)
    have bl1 : Below s V V1 := hb1.mono (by omega)
    clear q0 q1 q2 q3 f2 f3 HS hb1 hcell
    have c3 := z3.cell_
    have k3 := z3.cool_
    obtain ⟨V2, hV2⟩ : ∃ V2, V1.setCell ⟨s + 1 + 1 + 1, 0, none⟩ (.bool true) = V2 := ⟨_, rfl⟩
    have y0 : Bx V2 s (.slice (some ⟨bb, off, none⟩) N c) 50 := by rw [← hV2]; exact z0.other_ (by show s ≠ s + 1 + 1 + 1; omega) _
    have y1 : Bx V2 (s + 1) (.int .i64 stop) 3 := by rw [← hV2]; exact z1.other_ (by show s + 1 ≠ s + 1 + 1 + 1; omega) _
    have y2 : Bx V2 (s + 1 + 1) (.int .i64 (k : Nat)) 3 := by rw [← hV2]; exact z2.other_ (by show s + 1 + 1 ≠ s + 1 + 1 + 1; omega) _
    have y3 : Bx V2 (s + 1 + 1 + 1) (.bool true) 4 := by rw [← hV2]; exact z3.set_ _
    have ap3 := z3.apart_ ho1 (by decide)
    have ho2 : OwnL yK V2 s (.slice Ad t.length cc) t := by
      rw [← hV2]
      exact ho1.of_block (fun g hg => heap_setCell_other _ _ _ _ (fun e => ap3 (by rw [hg, e])))
    have kf2 : KeepsFrom W.heap.size V V2 := by rw [← hV2]; exact kf1.trans ((KeepsOthers.setCell V1 _ _).from _)
    have bl2 : Below s V V2 := by rw [← hV2]; exact bl1.setCell (p := ⟨s + 1 + 1 + 1, 0, none⟩) (by show s ≤ s + 1 + 1 + 1; omega) _
    have HP : Hid (∀ m, CallsIn (Fence.wide.inRound l) m Try.prog 34 #[.slice Ad t.length cc, .int .u8 1] V2 (IsTurned (.slice Ad t.length cc) V2)) := fun m => CallsIn.inRound l (callsIn_wide.2 (spoilO_any s _ t V2 ho2))
    have n0 := y0.apart_ ho2 (by decide)
    have n1 := y1.apart_ ho2 (by decide)
    have n2 := y2.apart_ ho2 (by decide)
    have n3 := y3.apart_ ho2 (by decide)
    have hcells : ∀ g, (Value.slice Ad t.length cc).ownBlock = some g → s ≤ g ∧ ∃ o : Obj, V2.heap[g]? = some o ∧ o.isCells = true := fun g hg => by
      rcases ho2.2 with ⟨e, _⟩ | ⟨g', ss, e, hb', _, _, hh⟩
      · rw [e] at hg; cases hg
      · rw [e] at hg
        have e2 : g' = g := Option.some.inj hg
        subst e2
        exact ⟨hb', _, hh, rfl⟩
    have HK2 := Lib.hid kf2
    have HB2 := Lib.hid bl2
    have HY0 := Lib.hid y0
    have HY1 := Lib.hid y1
    have HY2 := Lib.hid y2
    have HY3 := Lib.hid y3
    have HC := Lib.hid hcells
    clear z0 z1 z2 z3 ho1 kf1 bl1 kf2 bl2 ap3 hcells ho2 y0 y1 y2 y3
    gi_wp2
    refine ⟨trivial, (HP.out _).mono ?_⟩
    rintro e V3 ⟨⟨x, rfl⟩, hg⟩
    have x0 : Bx V3 s (.slice (some ⟨bb, off, none⟩) N c) 50 := (hg.block _ HY0.out.lt_ (fun e => n0 e.symm)).trans HY0.out
    have x1 : Bx V3 (s + 1) (.int .i64 stop) 3 := (hg.block _ HY1.out.lt_ (fun e => n1 e.symm)).trans HY1.out
    have x2 : Bx V3 (s + 1 + 1) (.int .i64 (k : Nat)) 3 := (hg.block _ HY2.out.lt_ (fun e => n2 e.symm)).trans HY2.out
    have x3 : Bx V3 (s + 1 + 1 + 1) (.bool true) 4 := (hg.block _ HY3.out.lt_ (fun e => n3 e.symm)).trans HY3.out
    have kf3 : KeepsFrom W.heap.size V V3 := HK2.out.trans ⟨hg.size, fun j o _ hj ho => (hg.block j (Array.getElem?_eq_some_iff.1 hj).1 (fun e => by
      obtain ⟨_, o', h1, h2⟩ := HC.out j e.symm
      rw [hj] at h1
      cases h1
      rw [ho] at h2
      cases h2)).trans hj⟩
    have bl3 : Below s V V3 := HB2.out.grown hg (Nat.le_of_lt (by have := HY0.out.lt_; exact this)) (fun j hj => (HC.out j hj).1)
    have c1 := x1.cell_
    have c2 := x2.cell_
    have k2 := x2.cool_
    have HK3 := Lib.hid kf3
    have HB3 := Lib.hid bl3
    have HX0 := Lib.hid x0
    have HX1 := Lib.hid x1
    have HX2 := Lib.hid x2
    have HX3 := Lib.hid x3
    clear hg kf3 bl3 x0 x1 x2 x3 n0 n1 n2 n3 HP HC HY0 HY1 HY2 HY3 hV2 c3 k3
    by_cases hks : (k : Int) = stop
    · have HE : Hid (Below s w V3 ∧ 0 ≤ stop ∧ stop < (N : Nat)) := ⟨HBV.out.trans HB3.out, by omega, by omega⟩
      subst hks
      gi_wp2
      exact ⟨HK3.out, rfl, HX2.out, HX3.out, HE.out⟩
    · have hne : ((k : Int) == stop) = false := by rw [beq_eq_false_iff_ne]; exact hks
      have hwk : IntKind.i64.wrap ((k : Int) + 1) = (k : Int) + 1 := by have := HT.out; rw [IntKind.wrap_i64]; omega
      have HE : Hid (¬ (0 ≤ stop ∧ stop < ((k + 1 : Nat) : Int))) := by have := HST.out; unfold Hid; omega
      clear hks
      gi_wp2
      refine ⟨HK3.out.trans ((KeepsOthers.setCell V3 _ _).from _), HB3.out.setCell (p := ⟨s + 1 + 1, 0, none⟩) (by show s ≤ s + 1 + 1; omega) _, HX0.out.other_ (by show s ≠ s + 1 + 1; omega) _, HX1.out.other_ (by show s + 1 ≠ s + 1 + 1; omega) _, HX2.out.set_ _, HX3.out.other_ (by show s + 1 + 1 + 1 ≠ s + 1 + 1; omega) _, (HBV.out.trans HB3.out).setCell (p := ⟨s + 1 + 1, 0, none⟩) (by show s ≤ s + 1 + 1; omega) _, HE.out⟩
  case done =>
    rintro D V hD ⟨a0, a1, a2, a3, hbv, hst⟩ hK
    have q2 := a2.cell_
    have q3 := a3.cell_
    gi_wp2
    gi_region
    gi_wp2
    have hK2 : V.drew.heap[D]? = some (.deferred (some [])) := hK
    refine ⟨by simp, .inl ⟨_, _, rfl, run_takeDeferred hK2, ?_⟩⟩
    refine ⟨_, results_tmp2 rfl _ _ _, ?_, ?_⟩
    · have e : leftAt N stop = (N : Int) := by unfold leftAt; rw [if_neg hst]
      rw [e]
      rfl
    · rw [hs]
      exact (hbv.drew).trans (below_put (by omega) _)
  case stop =>
    rintro D cd V hD ⟨rfl, a2, a3, hbv, h0, h1⟩ hK
    have q2 := a2.cell_
    have q3 := a3.cell_
    gi_wp2
    gi_region
    gi_wp2
    have hK2 : V.drew.heap[D]? = some (.deferred (some [])) := hK
    refine ⟨by simp, .inl ⟨_, _, rfl, run_takeDeferred hK2, ?_⟩⟩
    refine ⟨_, results_tmp2 rfl _ _ _, ?_, ?_⟩
    · have e : leftAt N stop = stop := by unfold leftAt; rw [if_pos ⟨h0, h1⟩]
      rw [e]
      rfl
    · rw [hs]
      exact (hbv.drew).trans (below_put (by omega) _)
end Go.Proofs.Ytgkmlcghkkpgpaa
