/-
  MpR: Maps as functions: delete, len, the entries as a list, a range over them in whatever order.
  Octs: stookref00.Same answers whether two slices hold the same numbers.
  OwnQ: A list of the call's own of which nothing is known behind its end.
-/
import Derived.Test.YtmcbjcbnckpfkaaGreatPt09
import Derived.Maps.RangeWalk
import Derived.Test.YtmcbjcbnckpfkaaGreatPt01
import Derived.Test.YtmcbjcbnckpfkaaGreatPt06
import Derived.Deep.QuietTactic
import Derived.BigQuiet
import Derived.Test.YtmcbjcbnckpfkaaGreatPt03
import Derived.Test.YtmcbjcbnckpfkaaGreatPt02
namespace Go.Proofs.YtmcbjcbnckpfkaaGreat
open Go.RowKit Go.Maps
open Go.WideElems (Fit rd rg pl rd_key rd_val rg_of)
set_option linter.unusedVariables false

/-- A kind of maps whose keys and elements are all told by it. -/
structure MpOk {P : Program} {κ β : Type} (K : MpK P κ β) : Prop where
  only : ∀ v kl, keyOf P K.k v = some kl → ∃ x, K.ok x ∧ v = K.key x ∧ kl = K.lit x
  elem : ∀ v y, K.read v = some y → ∃ c, v = K.val c ∧ y = (K.dat c, [])
  dinj : ∀ a b, K.dat a = K.dat b → a = b
theorem at_entry {es : List (Lit × DataW Unit)} (hp : es.Pairwise (fun p q => p.1 ≠ q.1)) (hk : ∀ p ∈ es, WideAt.IsKeyLit p.1) {p : Lit × DataW Unit} (h : p ∈ es) (d : DataW Unit) : (DataW.map es).atKey p.1 d = p.2 := by
  have hf : es.find? (fun q => q.1.sameKey p.1) = some p := by
    induction es with
    | nil => cases h
    | cons q es ih =>
      rcases List.mem_cons.1 h with rfl | h
      · rw [List.find?_cons, WideAt.sameKey_self (hk _ (List.mem_cons_self ..))]
      · have hne : q.1 ≠ p.1 := (List.pairwise_cons.1 hp).1 p h
        rw [List.find?_cons, sameKey_ne hne]
        exact ih (List.pairwise_cons.1 hp).2 (fun p hp => hk p (List.mem_cons_of_mem _ hp)) h
  unfold DataW.atKey
  simp only [hf]
theorem nodup_pairs {α β : Type} {l : List (α × β)} (h : l.Pairwise (fun p q => p.1 ≠ q.1)) : l.Nodup := by
  refine List.Pairwise.imp (fun hne e => hne (by rw [e])) h
theorem perm_of_mem {α : Type} : ∀ {l m : List α}, l.Nodup → m.Nodup → (∀ x, x ∈ l ↔ x ∈ m) → l.Perm m
  | [], m, _, _, h => by
    cases m with
    | nil => exact List.Perm.nil
    | cons x m => exact absurd ((h x).2 (List.mem_cons_self ..)) (by simp)
  | x :: l, m, hl, hm, h => by
    obtain ⟨a, b, rfl⟩ := List.append_of_mem ((h x).1 (List.mem_cons_self ..))
    have hp : (a ++ x :: b).Perm (x :: (a ++ b)) := List.perm_middle
    have hm' : (x :: (a ++ b)).Nodup := hp.nodup_iff.1 hm
    obtain ⟨hx1, hl'⟩ := List.nodup_cons.1 hl
    obtain ⟨hx2, hm''⟩ := List.nodup_cons.1 hm'
    refine (List.Perm.cons x (perm_of_mem hl' hm'' fun y => ?_)).trans hp.symm
    have hy := h y
    rw [hp.mem_iff, List.mem_cons, List.mem_cons] at hy
    constructor
    · intro h1
      rcases hy.1 (.inr h1) with rfl | h2
      · exact absurd h1 hx1
      · exact h2
    · intro h1
      rcases hy.2 (.inr h1) with rfl | h2
      · exact absurd h1 hx2
      · exact h2
section
variable {P : Program} {κ β : Type} {K : MpK P κ β} {w w' : World} {b r n cnt : Nat} {f : κ → Option β} {L : κ → Bool} {D : DataW Unit}
theorem MpK.lit_inj (K : MpK P κ β) {x y : κ} (hx : K.ok x) (hy : K.ok y) (h : K.lit x = K.lit y) : x = y :=
  K.inj x y (K.keyed.inj (K.law x hx) (by rw [h]; exact K.law y hy))
theorem MpK.same [DecidableEq κ] (K : MpK P κ β) {x y : κ} (hx : K.ok x) (hy : K.ok y) : (K.lit x).sameKey (K.lit y) = decide (x = y) := by
  by_cases e : x = y
  · subst e
    rw [WideAt.sameKey_self (K.keyed.key (K.law x hx))]
    simp
  · rw [sameKey_ne (fun h => e (K.lit_inj hx hy h))]
    simp [e]
/-- What the datum says of the function. -/
def Tells (K : MpK P κ β) (D : DataW Unit) (f : κ → Option β) : Prop :=
  ∀ x, K.ok x → Maps.has D (K.lit x) = (f x).isSome ∧ ∀ d, D.atKey (K.lit x) d = (match f x with | some y => K.dat y | none => d)
theorem keys_told (O : MpOk K) {es : List (Lit × DataW Unit)} (h1 : w.ownsMap P K.k K.read b n (.map es)) : ∀ p ∈ es, ∃ x, K.ok x ∧ p.1 = K.lit x := by
  obtain ⟨es', clock, hb, F, hs, hD⟩ := h1
  injection hD with hD
  intro p hp'
  rw [hD] at hp'
  obtain ⟨x, hx, rfl⟩ := List.mem_map.1 (mem_sorted.1 hp')
  obtain ⟨y, hy⟩ := F.reads x hx
  rw [rg_of hy]
  obtain ⟨k, hk1, _, hk3⟩ := O.only _ _ (rd_key hy)
  exact ⟨k, hk1, hk3⟩
/-- The entries, as a list. -/
theorem Tells.perm (O : MpOk K) (h1 : w.ownsMap P K.k K.read b n D) (h2 : Tells K D f) (l : List (κ × β)) (hk : (l.map (·.1)).Nodup) (hok : ∀ e ∈ l, K.ok e.1)
    (hl : ∀ x, K.ok x → ∀ y, f x = some y ↔ (x, y) ∈ l) : ∃ es, D = .map es ∧ es.Perm (l.map fun e => (K.lit e.1, K.dat e.2)) := by
  obtain ⟨es, eD, hp, hkl⟩ := h1.entries K.keyed
  subst eD
  refine ⟨es, rfl, ?_⟩
  have key := keys_told O h1
  refine perm_of_mem (nodup_pairs hp) ?_ (fun p => ?_)
  · refine nodup_pairs ?_
    rw [List.pairwise_map]
    rw [List.nodup_iff_pairwise_ne, List.pairwise_map] at hk
    refine List.Pairwise.imp_of_mem (fun {a c} ha hc hne e => hne (K.lit_inj (hok a ha) (hok c hc) e)) hk
  · constructor
    · intro hm
      obtain ⟨x, hx, e⟩ := key p hm
      obtain ⟨t1, t2⟩ := h2 x hx
      have hh : Maps.has (.map es) (K.lit x) = true := by
        rw [has_eq, List.any_eq_true]
        exact ⟨p, hm, by rw [e]; exact WideAt.sameKey_self (K.keyed.key (K.law x hx))⟩
      rw [hh] at t1
      obtain ⟨y, hy⟩ := Option.isSome_iff_exists.1 t1.symm
      have h3 := at_entry hp hkl hm .nil
      rw [e, t2, hy] at h3
      refine List.mem_map.2 ⟨(x, y), (hl x hx y).1 hy, ?_⟩
      obtain ⟨p1, p2⟩ := p
      simp only at e h3 ⊢
      rw [e, h3]
    · intro hm
      obtain ⟨⟨x, y⟩, hxy, rfl⟩ := List.mem_map.1 hm
      have hx := hok _ hxy
      obtain ⟨t1, t2⟩ := h2 x hx
      have hf := (hl x hx y).2 hxy
      rw [hf] at t1 t2
      have hh : Maps.has (.map es) (K.lit x) = true := t1
      rw [has_eq, List.any_eq_true] at hh
      obtain ⟨p, hp1, hp2⟩ := hh
      have e1 := WideAt.sameKey_eq hp2
      have h3 := at_entry hp hkl hp1 .nil
      rw [e1, t2] at h3
      obtain ⟨p1, p2⟩ := p
      simp only at e1 h3
      rw [e1, ← h3] at hp1
      exact hp1
theorem IsMp.size_ (O : MpOk K) (h : IsMp K w b n f) (l : List (κ × β)) (hk : (l.map (·.1)).Nodup) (hok : ∀ e ∈ l, K.ok e.1) (hl : ∀ x, K.ok x → ∀ y, f x = some y ↔ (x, y) ∈ l) (ty : TypeId) :
    (Builtin.len_ #[K.t] ty #[.map (some b)]).run P w = .ok (.int .i64 (l.length : Nat)) w := by
  obtain ⟨D, h1, h2⟩ := h
  obtain ⟨es, rfl, hp⟩ := Tells.perm O h1 h2 l hk hok hl
  have := h1.len K.under ty
  rw [size_eq, hp.length_eq, List.length_map] at this
  exact this
/-- 'delete(m, k)'. -/
theorem IsMp.del [DecidableEq κ] (h : IsMp K w b n f) {x : κ} (hx : K.ok x) (ty : TypeId) :
    ∃ w', (Builtin.delete_ #[K.t, K.k] ty #[.map (some b), K.key x]).run P w = .ok (.tuple #[]) w' ∧ IsMp K w' b n (fun k => if k = x then none else f k) ∧ w.grownBy w' (some b) := by
  obtain ⟨D, h1, h2⟩ := h
  obtain ⟨w', hr, h3, h4⟩ := h1.drop K.keyed K.under (K.law x hx) ty
  refine ⟨w', hr, ⟨_, h3, fun k hk => ?_⟩, h4.grown⟩
  show Maps.has (D.del (K.lit x)) (K.lit k) = (if k = x then none else f k : Option β).isSome ∧ ∀ d, (D.del (K.lit x)).atKey (K.lit k) d = (match (if k = x then none else f k : Option β) with | some y => K.dat y | none => d)
  by_cases e : k = x
  · subst e
    rw [if_pos rfl]
    exact ⟨has_del_same, fun d => atKey_del_same d⟩
  · rw [if_neg e]
    have hne : K.lit k ≠ K.lit x := fun h => e (K.lit_inj hk hx h)
    exact ⟨(has_del_other hne).trans (h2 k hk).1, fun d => (atKey_del_other hne d).trans ((h2 k hk).2 d)⟩
theorem wpList_delete_mp [DecidableEq κ] (w : World) {ops : Array Oper} {rest : List Oper} {o : Oper} {a : Act} {Q : Exit → Act → World → Prop} (K : MpK P κ β)
    (hg : o.guard = none) (m x : Operand) (hop : o.op = Op.call { callee := Callee.builtin Builtin.delete, args := #[m, x], argTypes := #[K.t, K.k] }) (b n : Nat) (f : κ → Option β) (hm : a.eval m = .map (some b)) (hown : IsMp K w b n f) (kx : κ) (hx : a.eval x = K.key kx) (hok : K.ok kx)
    (hK : ∀ w', IsMp K w' b n (fun k => if k = kx then none else f k) → w.grownBy w' (some b) → wpList P ops Q rest (a.put o.dst (.tuple #[])) w') :
    wpList P ops Q (o :: rest) a w := by
  refine wpList_plain hg fun K' hK' => ?_
  obtain ⟨w', hrun, r1, r2⟩ := hown.del hok o.type
  unfold Oper.wp
  simp [execOp, hop, resolve, invoke, builtin, hm, hx, hrun, Result.andThen]
  exact hK' _ _ (hK w' r1 r2)
/-- A range under way: L tells what is still to come. -/
def IsRg (K : MpK P κ β) (w : World) (b r n : Nat) (f : κ → Option β) (L : κ → Bool) (cnt : Nat) : Prop :=
  ∃ D left, w.ranges P K.k K.read b r n D left cnt ∧ Tells K D f ∧ ∀ x, K.ok x → left (K.lit x) = L x
theorem IsRg.owns (h : IsRg K w b r n f L cnt) : IsMp K w b n f := by
  obtain ⟨D, left, h1, h2, _⟩ := h
  exact ⟨D, h1.owns, h2⟩
theorem IsRg.lt_ (h : IsRg K w b r n f L cnt) : r < w.heap.size := by
  obtain ⟨D, left, h1, _⟩ := h
  exact h1.lt
theorem IsRg.left_eq (h : IsRg K w b r n f L cnt) : w.rangeLeft b r = cnt := by
  obtain ⟨D, left, h1, _⟩ := h
  exact h1.left_eq
theorem IsRg.of_blocks (h : IsRg K w b r n f L cnt) (hb : w'.heap[b]? = w.heap[b]?) (hr : w'.heap[r]? = w.heap[r]?) : IsRg K w' b r n f L cnt := by
  obtain ⟨D, left, ⟨es, clock, since, seen, c0, h1, h2, h3, h4, h5, h6⟩, h7⟩ := h
  exact ⟨D, left, ⟨es, clock, since, seen, c0, hb.trans h1, h2, h3, h4, hr.trans h5, h6⟩, h7⟩
theorem IsRg.turned_ {F : Nat → Prop} (h : IsRg K w b r n f L cnt) (ht : Turned F w w') (hb : ¬ F b) (hr : ¬ F r) : IsRg K w' b r n f L cnt :=
  h.of_blocks (ht.block b h.owns.lt_ hb) (ht.block r h.lt_ hr)
theorem IsRg.kept_ {row : Option Nat} (h : IsRg K w b r n f L cnt) (hg : w.grownBy w' row) (hb : some b ≠ row) (hr : some r ≠ row) : IsRg K w' b r n f L cnt :=
  h.of_blocks (hg.block b h.owns.lt_ hb) (hg.block r h.lt_ hr)
theorem IsRg.below_ {B : Nat} (h : IsRg K w b r n f L cnt) (hB : Below B w w') (hb : b < B) (hr : r < B) : IsRg K w' b r n f L cnt :=
  h.of_blocks (hB.block b hb) (hB.block r hr)
/-- 'range m'. -/
theorem wpList_range_mp (w : World) {ops : Array Oper} {rest : List Oper} {o : Oper} {a : Act} {Q : Exit → Act → World → Prop} (K : MpK P κ β)
    (hg : o.guard = none) (m : Operand) (hop : o.op = Op.range K.t m) (b n : Nat) (f : κ → Option β) (hm : a.eval m = .map (some b)) (hown : IsMp K w b n f)
    (hK : ∀ w' cnt, IsRg K w' b w.heap.size n f (fun x => (f x).isSome) cnt → cnt ≤ n → w.grownBy w' none → w'.heap.size = w.heap.size + 1 → wpList P ops Q rest (a.put o.dst (.pointer (some ⟨w.heap.size, 0, none⟩))) w') :
    wpList P ops Q (o :: rest) a w := by
  obtain ⟨D, h1, h2⟩ := hown
  exact wpList_range_own w hg m K.t hop K.k K.e K.keyed K.under K.read b n D hm h1 fun w' r1 r2 r3 => hK w' _ ⟨D, _, r1, h2, fun x hx => (h2 x hx).1⟩ h1.size_le r2 r3
/-- The step. -/
theorem wpList_next_mp [DecidableEq κ] (w : World) {ops : Array Oper} {rest : List Oper} {o : Oper} {a : Act} {Q : Exit → Act → World → Prop} (K : MpK P κ β) (O : MpOk K)
    (hg : o.guard = none) (it : Operand) (hop : o.op = Op.next it false) (b r n : Nat) (f : κ → Option β) (L : κ → Bool) (cnt : Nat) (hit : a.eval it = .pointer (some ⟨r, 0, none⟩)) (h : IsRg K w b r n f L cnt)
    (hDone : (∀ x, K.ok x → L x = false) → wpList P ops Q rest (a.put o.dst (.tuple #[.bool false])) w)
    (hMore : ∀ (x : κ) (c : β) (w' : World) (cnt' : Nat), K.ok x → L x = true → f x = some c → IsRg K w' b r n f (fun z => L z && !decide (z = x)) cnt' → cnt' < cnt → w.grownBy w' (some r) → w'.heap.size = w.heap.size →
      (Instr.entry (.pointer (some ⟨r, 0, none⟩))).run P w' = .ok (.tuple #[K.key x, K.val c]) w' → wpList P ops Q rest (a.put o.dst (.tuple #[.bool true, K.key x, K.val c])) w') :
    wpList P ops Q (o :: rest) a w := by
  obtain ⟨D, left, h1, h2, h3⟩ := h
  refine wpList_next_ranges w hg it hop K.k K.keyed K.read K.key K.val (fun key kl hk => ?_) (fun v y hv => ?_) b r n D left cnt hit h1 (fun _ hl => hDone fun x hx => ?_) ?_
  · obtain ⟨x, _, hx, _⟩ := O.only key kl hk
    exact ⟨x, hx⟩
  · obtain ⟨c, hc, _⟩ := O.elem v y hv
    exact ⟨c, hc⟩
  · rw [← h3 x hx]; exact hl _
  · intro x c kl y w' cnt' hkey hlk hv hat hrg hlt hgr hsz hen
    obtain ⟨x', hx', e1, e2⟩ := O.only _ _ hkey
    have ex := K.inj _ _ e1
    subst ex e2
    have hy : y = (K.dat c, []) := by
      have := K.readVal c
      rw [hv] at this
      exact Option.some.inj this
    subst hy
    obtain ⟨t1, t2⟩ := h2 x hx'
    have hf : f x = some c := by
      have hh := has_true_of_atKey hat
      rw [t1] at hh
      obtain ⟨c', hc'⟩ := Option.isSome_iff_exists.1 hh
      have h5 := hat .nil
      rw [t2, hc'] at h5
      rw [hc', O.dinj _ _ h5]
    refine hMore x c w' cnt' hx' (by rw [← h3 x hx']; exact hlk) hf ⟨D, _, hrg, h2, fun z hz => ?_⟩ hlt hgr hsz hen
    show (left (K.lit z) && !(K.lit z).sameKey (K.lit x)) = _
    rw [h3 z hz, K.same hz hx']
end
end Go.Proofs.YtmcbjcbnckpfkaaGreat
namespace Go.Proofs.YtmcbjcbnckpfkaaGreat
open Go.RowKit
set_option linter.unusedVariables false

set_option maxHeartbeats 400000 in
theorem octs_ne (A A' : Option Addr) (la lb : List Nat) (c c' : Nat) (w : World) (hlen : la.length ≤ maxLen) (hlen' : lb.length ≤ maxLen) (hne : la.length ≠ lb.length) :
    Calls Tryz.prog 53 #[.slice A la.length c, .slice A' lb.length c'] w (IsBool false w) := by
  unfold maxLen at hlen hlen'
  have hq : (((la.length : Nat) : Int) != ((lb.length : Nat) : Int)) = true := by rw [bne_iff_ne]; omega
  go_enter Tryz.func53, Tryz.ntmps53
  go_wp2
  go_ret
  exact ⟨rfl, Below.refl _ _⟩

set_option maxHeartbeats 400000 in
theorem octs_eq (A A' : Option Addr) (la lb : List Nat) (c c' B B' : Nat) (w : World) (ha : Lv yK w B (.slice A la.length c) la) (hb : Lv yK w B' (.slice A' lb.length c') lb) (heq : la.length = lb.length) :
    Calls Tryz.prog 53 #[.slice A la.length c, .slice A' lb.length c'] w (IsBool (decide (la = lb)) w) := by
  have hlen : la.length ≤ 9223372036854775807 := by have := ha.len_; simp only [maxLen] at this; omega
  have hq : (((la.length : Nat) : Int) != ((lb.length : Nat) : Int)) = false := by rw [heq]; simp
  have HE := Lib.hid heq
  have hle : la.length ≤ lb.length := by omega
  have hge : lb.length ≤ la.length := by omega
  clear heq
  go_enter Tryz.func53, Tryz.ntmps53
  go_wp2
  go_loopw [5] (fun i wr => ∃ k : Nat, k ≤ la.length ∧ i = .int .i64 k ∧ Hid (la.take k = lb.take k) ∧ Below w.heap.size w wr ∧ Hid (Lv yK wr B (.slice A la.length c) la) ∧ Hid (Lv yK wr B' (.slice A' lb.length c') lb)) (fun i _ => la.length - (intOf i).toNat)
  case atStart => exact ⟨0, by omega, rfl, by simp [Hid], Below.refl _ _, ha, hb⟩
  case round =>
    obtain ⟨k, hk, rfl, HT, hbel, HA, HB⟩ := hrel
    by_cases hlt : k < la.length
    · obtain ⟨b1, o1, x, rfl, hb1, hx, hd, hcell⟩ := HA.out.byte_ hlt
      obtain ⟨b2, o2, y, rfl, hb2, hy, hd', hcell'⟩ := HB.out.byte_ (k := k) (by omega)
      have HS := Lib.hid (take_both HT.out hd hd')
      clear hd hd' ha hb hx hy
      have hlt' : k < lb.length := by omega
      by_cases hxy : x = y
      · subst hxy
        have hq2 : (((x : Nat) : Int) != ((x : Nat) : Int)) = false := by simp
        go_wp2
        go_quiet (fail)
        go_wp2
        go_roundw
        case rel => exact ⟨k + 1, by omega, by go_num, HS.out.2 (by simp), below_drewN hbel _, HA.out, HB.out⟩
        case measure => simp [intOf]; omega
      · have hq2 : (((x : Nat) : Int) != ((y : Nat) : Int)) = true := by rw [bne_iff_ne]; omega
        go_wp2
        go_quiet (fail)
        go_wp2
        go_ret
        have hne : la ≠ lb := take_unlike (fun e => hxy (HS.out.1 e))
        exact ⟨by simp [hne], below_drewN hbel _⟩
    · go_wp2
      go_ret
      have h1 : la = lb := take_whole HT.out (by omega) (by omega)
      exact ⟨by simp [h1], hbel⟩

theorem octs_lv (v v' : Value) (la lb : List Nat) (B B' : Nat) (w : World) (h : Lv yK w B v la) (h' : Lv yK w B' v' lb) :
    Calls Tryz.prog 53 #[v, v'] w (IsBool (decide (la = lb)) w) := by
  have k := h
  have k' := h'
  obtain ⟨A, c, rfl, h1, h2, _⟩ := h
  obtain ⟨A', c', rfl, h1', h2', _⟩ := h'
  by_cases he : la.length = lb.length
  · exact octs_eq A A' la lb c c' B B' w k k' he
  · have hne : la ≠ lb := fun e => he (by rw [e])
    have := octs_ne A A' la lb c c' w (by omega) (by omega) he
    simpa [hne] using this
end Go.Proofs.YtmcbjcbnckpfkaaGreat
namespace Go.Proofs.YtmcbjcbnckpfkaaGreat
open Go.RowKit
set_option linter.unusedVariables false
section
variable {P : Program} {α : Type}
def OwnQ (K : El P α) (w : World) (base : Nat) (v : Value) (l : List α) : Prop :=
  (∀ x ∈ l, K.ok x) ∧ ((v = .slice none 0 0 ∧ l = []) ∨
    ∃ g c cur, v = .slice (some ⟨g, 0, none⟩) l.length c ∧ base ≤ g ∧ w.heap[g]? = some (.cells cur K.e (0, 0)) ∧ l.length ≤ c ∧ c ≤ maxLen ∧ cur.size = c * K.size ∧ cur.toList.take (l.length * K.size) = K.flat l)
/-- A call that answers this list in new memory, and turns nothing that was there. -/
def IsQ1 (K : El P α) (l : List α) (w : World) (e : Ending) (w' : World) : Prop :=
  ∃ A c, e = .returned (.slice A l.length c) ∧ OwnQ K w' w.heap.size (.slice A l.length c) l ∧ Below w.heap.size w w'
variable {K : El P α} {w w' : World} {base : Nat} {v : Value} {l : List α} {F : Nat → Prop}
theorem OwnL.own_r (h : OwnL K w base v l) : OwnQ K w base v l := by
  refine ⟨h.1, ?_⟩
  rcases h.2 with h | ⟨g, s, rfl, hb, _, hm, hh⟩
  · exact .inl h
  · exact .inr ⟨g, _, _, rfl, hb, hh, by omega, hm, by rw [List.size_toArray, flat_len, List.length_append], flat_take l s⟩
theorem OwnQ.of_row (hk : ∀ x ∈ l, K.ok x) (h : w.ownsRow base K.e K.size v l.length (K.flat l)) : OwnQ K w base v l := by
  refine ⟨hk, ?_⟩
  rcases h.2 with ⟨h1, h2⟩ | ⟨g, cap, cur, rfl, hb, hh, h1, h2, h3, h4⟩
  · exact .inl ⟨h1, List.eq_nil_of_length_eq_zero h2⟩
  · exact .inr ⟨g, cap, cur, rfl, hb, hh, h1, h2, h3, h4⟩
theorem OwnQ.nil_ (K : El P α) (w : World) (base : Nat) : OwnQ K w base (.slice none 0 0) [] := ⟨by simp, .inl ⟨rfl, rfl⟩⟩
theorem OwnQ.lt_ (h : OwnQ K w base v l) : ∀ k, v.ownBlock = some k → base ≤ k ∧ k < w.heap.size := by
  intro k hk
  rcases h.2 with ⟨rfl, _⟩ | ⟨g, c, cur, rfl, hb, hg, _⟩
  · simp [Value.ownBlock] at hk
  · simp [Value.ownBlock] at hk
    subst hk
    exact ⟨hb, (Array.getElem?_eq_some_iff.1 hg).1⟩
theorem OwnQ.mono_ (h : OwnQ K w base v l) {base' : Nat} (hb : base' ≤ base) : OwnQ K w base' v l := by
  refine ⟨h.1, ?_⟩
  rcases h.2 with hn | ⟨g, c, cur, rfl, hg, hr⟩
  · exact .inl hn
  · exact .inr ⟨g, c, cur, rfl, by omega, hr⟩
theorem OwnQ.form_ (h : OwnQ K w base v l) : Lv K w w.heap.size v l := by
  rcases h.2 with ⟨rfl, rfl⟩ | ⟨g, c, cur, rfl, hb, hg, h1, h2, h3, h4⟩
  · exact Lv.nil_ _ _ _
  · refine ⟨_, _, rfl, h1, h2, by simp, h.1, fun _ => ⟨g, 0, rfl, (Array.getElem?_eq_some_iff.1 hg).1, fun j u hj => ?_⟩⟩
    rw [Nat.zero_add, cell_of_row w g j _ _ _ hg, ← Array.getElem?_toList]
    rw [← h4, List.getElem?_take] at hj
    split at hj
    · exact hj
    · cases hj
theorem OwnQ.of_block (h : OwnQ K w base v l) (hb : ∀ k, v.ownBlock = some k → w'.heap[k]? = w.heap[k]?) : OwnQ K w' base v l := by
  refine ⟨h.1, ?_⟩
  rcases h.2 with hn | ⟨g, c, cur, rfl, hg, hh, hr⟩
  · exact .inl hn
  · exact .inr ⟨g, c, cur, rfl, hg, (hb g rfl).trans hh, hr⟩
theorem OwnQ.turned_ (h : OwnQ K w base v l) (ht : Turned F w w') (hn : ∀ k, v.ownBlock = some k → ¬ F k) : OwnQ K w' base v l :=
  h.of_block fun k hk => ht.block k (h.lt_ k hk).2 (hn k hk)
/-- Element k. -/
theorem OwnQ.at_ {A : Option Addr} {n c : Nat} (h : OwnQ K w base (.slice A n c) l) {k : Nat} (hk : k < l.length) :
    ∃ g x, A = some ⟨g, 0, none⟩ ∧ n = l.length ∧ base ≤ g ∧ K.ok x ∧ l[k]? = some x ∧ (∀ j u, (K.enc x)[j]? = some u → w.cell? ⟨g, k * K.size + j, none⟩ = some u) ∧ ∀ j, w.frozen? ⟨g, j, none⟩ = false := by
  rcases h.2 with ⟨e, rfl⟩ | ⟨g, c', cur, e, hb, hh, h1, h2, h3, h4⟩
  · simp at hk
  · injection e with e1 e2 e3
    subst e1 e2
    refine ⟨g, l[k], rfl, rfl, hb, h.1 _ (List.getElem_mem hk), List.getElem?_eq_getElem hk, fun j u hj => ?_, fun j => frozen_of_row w g j _ _ hh⟩
    have hjs : j < K.size := by have := (List.getElem?_eq_some_iff.1 hj).1; rw [K.len] at this; exact this
    have hf := flat_at (K := K) (List.getElem?_eq_getElem hk) hjs
    rw [cell_of_row w g _ _ _ _ hh, ← Array.getElem?_toList]
    rw [hj, ← h4, List.getElem?_take] at hf
    split at hf
    · exact hf
    · cases hf
/-- One element of one cell is set. -/
theorem OwnQ.set_ {g c n : Nat} (h : OwnQ K w base (.slice (some ⟨g, 0, none⟩) n c) l) (h1 : K.size = 1) {j : Nat} (hj : j < l.length) {x : α} {u : Value} (hx : K.ok x) (hu : K.enc x = [u]) :
    OwnQ K (w.setCell ⟨g, j, none⟩ u) base (.slice (some ⟨g, 0, none⟩) n c) (l.set j x) ∧ w.grownBy (w.setCell ⟨g, j, none⟩ u) (some g) := by
  rcases h.2 with ⟨e, rfl⟩ | ⟨g', c', cur, e, hb, hh, h2, h3, h4, h5⟩
  · cases e
  · injection e with e1 e2 e3
    injection e1 with e1
    injection e1 with e1
    subst e1 e2 e3
    refine ⟨⟨fun y hy => ?_, .inr ⟨g, c, cur.set! j u, by rw [List.length_set], hb, heap_setCell_same w g j _ _ u hh, by rw [List.length_set]; exact h2, h3, by simpa using h4, ?_⟩⟩, ⟨rfl, rfl, rfl, by simp, fun k _ hk => heap_setCell_other w ⟨g, j, none⟩ k u (fun e => hk (by simp [e]))⟩⟩
    · rcases List.mem_or_eq_of_mem_set hy with h6 | rfl
      · exact h.1 y h6
      · exact hx
    · rw [List.length_set, ← flat_set hj h1 hu, ← h5, Array.set!_eq_setIfInBounds, Array.toList_setIfInBounds, List.take_set]
end
end Go.Proofs.YtmcbjcbnckpfkaaGreat
