/- Parts of the proof. -/
import Derived.Test.YtiafeniflkikeaaGreatPm05
import Derived.Maps.OwnSet
import Derived.Maps.RangeWalk
import Derived.WideKeyPair
import Derived.DeepKeys4
namespace Go.Proofs.YtiafeniflkikeaaGreat
open Go.RowKit Go.Maps
set_option linter.unusedVariables false
structure MpK (P : Program) (κ β : Type) where
 t : TypeId
 k : TypeId
 e : TypeId
 key : κ → Value
 lit : κ → Lit
 ok : κ → Prop
 val : β → Value
 z : β
 read : Value → Option (DataW Unit × List MemPlace)
 dat : β → DataW Unit
 keyed : Keyed P k
 under : P.underlying t = some (.map k e)
 law : ∀ x, ok x → keyOf P k (key x) = some (lit x)
 inj : ∀ x y, key x = key y → x = y
 zero : ∀ w, (zeroValue e).run P w = .ok (val z) w
 readVal : ∀ y, read (val y) = some (dat y, [])
 readInv : ∀ v y ps, read v = some (dat y, ps) → v = val y
section
variable {P : Program} {κ β : Type} {K : MpK P κ β} {w w' : World} {b n : Nat} {f : κ → Option β}
def IsMp (K : MpK P κ β) (w : World) (b n : Nat) (f : κ → Option β) : Prop :=
 ∃ D : DataW Unit, w.ownsMap P K.k K.read b n D ∧ ∀ x, K.ok x → Maps.has D (K.lit x) = (f x).isSome ∧ ∀ d, D.atKey (K.lit x) d = (match f x with | some y => K.dat y | none => d)
theorem IsMp.made (K : MpK P κ β) (w : World) : IsMp K (w.alloc (.map #[] 0)) w.heap.size 0 (fun _ => none) :=
 ⟨_, World.ownsMap_made w P K.k K.read, fun x _ => ⟨rfl, fun d => rfl⟩⟩
theorem IsMp.of_block (h : IsMp K w b n f) (hb : w'.heap[b]? = w.heap[b]?) : IsMp K w' b n f := by
 obtain ⟨D, ⟨es, clock, h1, h2, h3, h4⟩, h5⟩ := h
 exact ⟨D, ⟨es, clock, hb.trans h1, h2, h3, h4⟩, h5⟩
theorem IsMp.lt_ (h : IsMp K w b n f) : b < w.heap.size := by
 obtain ⟨D, h, _⟩ := h
 exact h.lt
theorem IsMp.drew_ (h : IsMp K w b n f) : IsMp K w.drew b n f := h.of_block rfl
theorem IsMp.below_ (h : IsMp K w b n f) {B : Nat} (hb : Below B w w') (hB : b < B) : IsMp K w' b n f := h.of_block (hb.block b hB)
theorem IsMp.turned_ {F : Nat → Prop} (h : IsMp K w b n f) (ht : Turned F w w') (hF : ¬ F b) : IsMp K w' b n f := h.of_block (ht.block b h.lt_ hF)
theorem IsMp.congr_ {g : κ → Option β} (h : IsMp K w b n f) (hg : ∀ x, K.ok x → f x = g x) : IsMp K w b n g := by
 obtain ⟨D, h1, h2⟩ := h
 exact ⟨D, h1, fun x hx => by rw [← hg x hx]; exact h2 x hx⟩
theorem IsMp.mono_ (h : IsMp K w b n f) {m : Nat} (hm : n ≤ m) : IsMp K w b m f := by
 obtain ⟨D, h1, h2⟩ := h
 exact ⟨D, h1.mono hm, h2⟩
theorem IsMp.look (h : IsMp K w b n f) {x : κ} (hx : K.ok x) : (Instr.lookup K.t (.map (some b)) (K.key x) false).run P w = .ok (K.val ((f x).getD K.z)) w := by
 obtain ⟨D, h1, h2⟩ := h
 obtain ⟨v, ps, hr, hv⟩ := h1.lookup K.keyed K.under (K.zero w) (K.readVal K.z) (K.law x hx)
 rw [(h2 x hx).2] at hv
 have e : v = K.val ((f x).getD K.z) := by
  cases hf : f x with
  | none => rw [hf] at hv; exact K.readInv _ _ _ hv
  | some y => rw [hf] at hv; exact K.readInv _ _ _ hv
 rw [← e]; exact hr
theorem IsMp.look_ok (h : IsMp K w b n f) {x : κ} (hx : K.ok x) : (Instr.lookup K.t (.map (some b)) (K.key x) true).run P w = .ok (.tuple #[K.val ((f x).getD K.z), .bool (f x).isSome]) w := by
 obtain ⟨D, h1, h2⟩ := h
 obtain ⟨v, ps, hr, hv⟩ := h1.look_ok K.keyed K.under (K.zero w) (K.readVal K.z) (K.law x hx)
 rw [(h2 x hx).2] at hv
 rw [(h2 x hx).1] at hr
 have e : v = K.val ((f x).getD K.z) := by
  cases hf : f x with
  | none => rw [hf] at hv; exact K.readInv _ _ _ hv
  | some y => rw [hf] at hv; exact K.readInv _ _ _ hv
 rw [← e]; exact hr
theorem IsMp.upd [DecidableEq κ] (h : IsMp K w b n f) (hn : n < maxLen) {x : κ} (hx : K.ok x) (y : β) :
  ∃ w', (Instr.mapUpdate K.t (.map (some b)) (K.key x) (K.val y)).run P w = .ok () w' ∧ IsMp K w' b (n + 1) (fun k => if k = x then some y else f k) ∧ w.grownBy w' (some b) := by
 obtain ⟨D, h1, h2⟩ := h
 obtain ⟨w', hr, h3, h4⟩ := h1.update K.keyed K.under hn (K.law x hx) (K.readVal y)
 refine ⟨w', hr, ⟨_, h3, fun k hk => ?_⟩, h4⟩
 have hkl := K.keyed.key (K.law x hx)
 show Maps.has (D.put (K.lit x) (K.dat y)) (K.lit k) = (if k = x then some y else f k).isSome ∧ ∀ d, (D.put (K.lit x) (K.dat y)).atKey (K.lit k) d = (match (if k = x then some y else f k) with | some y => K.dat y | none => d)
 by_cases e : k = x
 ·subst e
  rw [if_pos rfl]
  exact ⟨has_put_same h1.isMap hkl _, fun d => atKey_put_same h1.isMap hkl _ d⟩
 ·rw [if_neg e]
  have hne : K.lit k ≠ K.lit x := fun h => e (K.inj k x (K.keyed.inj (K.law k hk) (by rw [h]; exact K.law x hx)))
  exact ⟨(has_put_other hne _).trans (h2 k hk).1, fun d => (atKey_put_other hne _ d).trans ((h2 k hk).2 d)⟩
end
theorem wpList_mapUpdate_mp {P : Program} {κ β : Type} [DecidableEq κ] (w : World) {ops : Array Oper} {rest : List Oper} {o : Oper} {a : Act} {Q : Exit → Act → World → Prop} (K : MpK P κ β)
  (hg : o.guard = none) (m x v : Operand) (hop : o.op = Op.mapUpdate K.t m x v) (b n : Nat) (f : κ → Option β) (hm : a.eval m = .map (some b)) (hown : IsMp K w b n f) (hn : n < maxLen) (kx : κ) (hx : a.eval x = K.key kx) (hok : K.ok kx) (y : β) (hv : a.eval v = K.val y)
  (hK : ∀ w', IsMp K w' b (n + 1) (fun k => if k = kx then some y else f k) → w.grownBy w' (some b) → wpList P ops Q rest (a.put o.dst undef) w') :
  wpList P ops Q (o :: rest) a w := by
 refine wpList_plain hg fun K' hK' => ?_
 obtain ⟨w', hrun, r1, r2⟩ := hown.upd hn hok y
 unfold Oper.wp
 simp [execOp, hop, hm, hx, hv, hrun, Result.andThen]
 exact hK' _ _ (hK w' r1 r2)
end Go.Proofs.YtiafeniflkikeaaGreat
namespace Go.Proofs.YtiafeniflkikeaaGreat
open Go.RowKit Go.Maps
open Go.WideElems (Fit rd rg pl rd_key rd_val rg_of)
set_option linter.unusedVariables false
structure MpOk {P : Program} {κ β : Type} (K : MpK P κ β) : Prop where
 only : ∀ v kl, keyOf P K.k v = some kl → ∃ x, K.ok x ∧ v = K.key x ∧ kl = K.lit x
 elem : ∀ v y, K.read v = some y → ∃ c, v = K.val c ∧ y = (K.dat c, [])
 dinj : ∀ a b, K.dat a = K.dat b → a = b
theorem at_entry {es : List (Lit × DataW Unit)} (hp : es.Pairwise (fun p q => p.1 ≠ q.1)) (hk : ∀ p ∈ es, WideAt.IsKeyLit p.1) {p : Lit × DataW Unit} (h : p ∈ es) (d : DataW Unit) : (DataW.map es).atKey p.1 d = p.2 := by
 have hf : es.find? (fun q => q.1.sameKey p.1) = some p := by
  induction es with
  | nil => cases h
  | cons q es ih =>
   rcases List.mem_cons.1 h with rfl | h
   ·rw [List.find?_cons, WideAt.sameKey_self (hk _ (List.mem_cons_self ..))]
   ·have hne : q.1 ≠ p.1 := (List.pairwise_cons.1 hp).1 p h
    rw [List.find?_cons, sameKey_ne hne]
    exact ih (List.pairwise_cons.1 hp).2 (fun p hp => hk p (List.mem_cons_of_mem _ hp)) h
 unfold DataW.atKey
 simp only [hf]
theorem nodup_pairs {α β : Type} {l : List (α × β)} (h : l.Pairwise (fun p q => p.1 ≠ q.1)) : l.Nodup := by
 refine List.Pairwise.imp (fun hne e => hne (by rw [e])) h
theorem perm_of_mem {α : Type} : ∀ {l m : List α}, l.Nodup → m.Nodup → (∀ x, x ∈ l ↔ x ∈ m) → l.Perm m
 | [], m, _, _, h => by
  cases m with
  | nil => exact List.Perm.nil
  | cons x m => exact absurd ((h x).2 (List.mem_cons_self ..)) (by simp)
 | x :: l, m, hl, hm, h => by
  obtain ⟨a, b, rfl⟩ := List.append_of_mem ((h x).1 (List.mem_cons_self ..))
  have hp : (a ++ x :: b).Perm (x :: (a ++ b)) := List.perm_middle
  have hm' : (x :: (a ++ b)).Nodup := hp.nodup_iff.1 hm
  obtain ⟨hx1, hl'⟩ := List.nodup_cons.1 hl
  obtain ⟨hx2, hm''⟩ := List.nodup_cons.1 hm'
  refine (List.Perm.cons x (perm_of_mem hl' hm'' fun y => ?_)).trans hp.symm
  have hy := h y
  rw [hp.mem_iff, List.mem_cons, List.mem_cons] at hy
  constructor
  ·intro h1
   rcases hy.1 (.inr h1) with rfl | h2
   ·exact absurd h1 hx1
   ·exact h2
  ·intro h1
   rcases hy.2 (.inr h1) with rfl | h2
   ·exact absurd h1 hx2
   ·exact h2
section
variable {P : Program} {κ β : Type} {K : MpK P κ β} {w w' : World} {b r n cnt : Nat} {f : κ → Option β} {L : κ → Bool} {D : DataW Unit}
theorem MpK.lit_inj (K : MpK P κ β) {x y : κ} (hx : K.ok x) (hy : K.ok y) (h : K.lit x = K.lit y) : x = y :=
 K.inj x y (K.keyed.inj (K.law x hx) (by rw [h]; exact K.law y hy))
theorem MpK.same [DecidableEq κ] (K : MpK P κ β) {x y : κ} (hx : K.ok x) (hy : K.ok y) : (K.lit x).sameKey (K.lit y) = decide (x = y) := by
 by_cases e : x = y
 ·subst e
  rw [WideAt.sameKey_self (K.keyed.key (K.law x hx))]
  simp
 ·rw [sameKey_ne (fun h => e (K.lit_inj hx hy h))]
  simp [e]
def Tells (K : MpK P κ β) (D : DataW Unit) (f : κ → Option β) : Prop :=
 ∀ x, K.ok x → Maps.has D (K.lit x) = (f x).isSome ∧ ∀ d, D.atKey (K.lit x) d = (match f x with | some y => K.dat y | none => d)
theorem keys_told (O : MpOk K) {es : List (Lit × DataW Unit)} (h1 : w.ownsMap P K.k K.read b n (.map es)) : ∀ p ∈ es, ∃ x, K.ok x ∧ p.1 = K.lit x := by
 obtain ⟨es', clock, hb, F, hs, hD⟩ := h1
 injection hD with hD
 intro p hp'
 rw [hD] at hp'
 obtain ⟨x, hx, rfl⟩ := List.mem_map.1 (mem_sorted.1 hp')
 obtain ⟨y, hy⟩ := F.reads x hx
 rw [rg_of hy]
 obtain ⟨k, hk1, _, hk3⟩ := O.only _ _ (rd_key hy)
 exact ⟨k, hk1, hk3⟩
theorem Tells.perm (O : MpOk K) (h1 : w.ownsMap P K.k K.read b n D) (h2 : Tells K D f) (l : List (κ × β)) (hk : (l.map (·.1)).Nodup) (hok : ∀ e ∈ l, K.ok e.1)
  (hl : ∀ x, K.ok x → ∀ y, f x = some y ↔ (x, y) ∈ l) : ∃ es, D = .map es ∧ es.Perm (l.map fun e => (K.lit e.1, K.dat e.2)) := by
 obtain ⟨es, eD, hp, hkl⟩ := h1.entries K.keyed
 subst eD
 refine ⟨es, rfl, ?_⟩
 have key := keys_told O h1
 refine perm_of_mem (nodup_pairs hp) ?_ (fun p => ?_)
 ·refine nodup_pairs ?_
  rw [List.pairwise_map]
  rw [List.nodup_iff_pairwise_ne, List.pairwise_map] at hk
  refine List.Pairwise.imp_of_mem (fun {a c} ha hc hne e => hne (K.lit_inj (hok a ha) (hok c hc) e)) hk
 ·constructor
  ·intro hm
   obtain ⟨x, hx, e⟩ := key p hm
   obtain ⟨t1, t2⟩ := h2 x hx
   have hh : Maps.has (.map es) (K.lit x) = true := by
    rw [has_eq, List.any_eq_true]
    exact ⟨p, hm, by rw [e]; exact WideAt.sameKey_self (K.keyed.key (K.law x hx))⟩
   rw [hh] at t1
   obtain ⟨y, hy⟩ := Option.isSome_iff_exists.1 t1.symm
   have h3 := at_entry hp hkl hm .nil
   rw [e, t2, hy] at h3
   refine List.mem_map.2 ⟨(x, y), (hl x hx y).1 hy, ?_⟩
   obtain ⟨p1, p2⟩ := p
   simp only at e h3 ⊢
   rw [e, h3]
  ·intro hm
   obtain ⟨⟨x, y⟩, hxy, rfl⟩ := List.mem_map.1 hm
   have hx := hok _ hxy
   obtain ⟨t1, t2⟩ := h2 x hx
   have hf := (hl x hx y).2 hxy
   rw [hf] at t1 t2
   have hh : Maps.has (.map es) (K.lit x) = true := t1
   rw [has_eq, List.any_eq_true] at hh
   obtain ⟨p, hp1, hp2⟩ := hh
   have e1 := WideAt.sameKey_eq hp2
   have h3 := at_entry hp hkl hp1 .nil
   rw [e1, t2] at h3
   obtain ⟨p1, p2⟩ := p
   simp only at e1 h3
   rw [e1, ← h3] at hp1
   exact hp1
theorem IsMp.size_ (O : MpOk K) (h : IsMp K w b n f) (l : List (κ × β)) (hk : (l.map (·.1)).Nodup) (hok : ∀ e ∈ l, K.ok e.1) (hl : ∀ x, K.ok x → ∀ y, f x = some y ↔ (x, y) ∈ l) (ty : TypeId) :
  (Builtin.len_ #[K.t] ty #[.map (some b)]).run P w = .ok (.int .i64 (l.length : Nat)) w := by
 obtain ⟨D, h1, h2⟩ := h
 obtain ⟨es, rfl, hp⟩ := Tells.perm O h1 h2 l hk hok hl
 have := h1.len K.under ty
 rw [size_eq, hp.length_eq, List.length_map] at this
 exact this
theorem IsMp.del [DecidableEq κ] (h : IsMp K w b n f) {x : κ} (hx : K.ok x) (ty : TypeId) :
  ∃ w', (Builtin.delete_ #[K.t, K.k] ty #[.map (some b), K.key x]).run P w = .ok (.tuple #[]) w' ∧ IsMp K w' b n (fun k => if k = x then none else f k) ∧ w.grownBy w' (some b) := by
 obtain ⟨D, h1, h2⟩ := h
 obtain ⟨w', hr, h3, h4⟩ := h1.drop K.keyed K.under (K.law x hx) ty
 refine ⟨w', hr, ⟨_, h3, fun k hk => ?_⟩, h4.grown⟩
 show Maps.has (D.del (K.lit x)) (K.lit k) = (if k = x then none else f k : Option β).isSome ∧ ∀ d, (D.del (K.lit x)).atKey (K.lit k) d = (match (if k = x then none else f k : Option β) with | some y => K.dat y | none => d)
 by_cases e : k = x
 ·subst e
  rw [if_pos rfl]
  exact ⟨has_del_same, fun d => atKey_del_same d⟩
 ·rw [if_neg e]
  have hne : K.lit k ≠ K.lit x := fun h => e (K.lit_inj hk hx h)
  exact ⟨(has_del_other hne).trans (h2 k hk).1, fun d => (atKey_del_other hne d).trans ((h2 k hk).2 d)⟩
theorem wpList_delete_mp [DecidableEq κ] (w : World) {ops : Array Oper} {rest : List Oper} {o : Oper} {a : Act} {Q : Exit → Act → World → Prop} (K : MpK P κ β)
  (hg : o.guard = none) (m x : Operand) (hop : o.op = Op.call { callee := Callee.builtin Builtin.delete, args := #[m, x], argTypes := #[K.t, K.k] }) (b n : Nat) (f : κ → Option β) (hm : a.eval m = .map (some b)) (hown : IsMp K w b n f) (kx : κ) (hx : a.eval x = K.key kx) (hok : K.ok kx)
  (hK : ∀ w', IsMp K w' b n (fun k => if k = kx then none else f k) → w.grownBy w' (some b) → wpList P ops Q rest (a.put o.dst (.tuple #[])) w') :
  wpList P ops Q (o :: rest) a w := by
 refine wpList_plain hg fun K' hK' => ?_
 obtain ⟨w', hrun, r1, r2⟩ := hown.del hok o.type
 unfold Oper.wp
 simp [execOp, hop, resolve, invoke, builtin, hm, hx, hrun, Result.andThen]
 exact hK' _ _ (hK w' r1 r2)
def IsRg (K : MpK P κ β) (w : World) (b r n : Nat) (f : κ → Option β) (L : κ → Bool) (cnt : Nat) : Prop :=
 ∃ D left, w.ranges P K.k K.read b r n D left cnt ∧ Tells K D f ∧ ∀ x, K.ok x → left (K.lit x) = L x
theorem IsRg.owns (h : IsRg K w b r n f L cnt) : IsMp K w b n f := by
 obtain ⟨D, left, h1, h2, _⟩ := h
 exact ⟨D, h1.owns, h2⟩
theorem IsRg.lt_ (h : IsRg K w b r n f L cnt) : r < w.heap.size := by
 obtain ⟨D, left, h1, _⟩ := h
 exact h1.lt
theorem IsRg.left_eq (h : IsRg K w b r n f L cnt) : w.rangeLeft b r = cnt := by
 obtain ⟨D, left, h1, _⟩ := h
 exact h1.left_eq
theorem IsRg.of_blocks (h : IsRg K w b r n f L cnt) (hb : w'.heap[b]? = w.heap[b]?) (hr : w'.heap[r]? = w.heap[r]?) : IsRg K w' b r n f L cnt := by
 obtain ⟨D, left, ⟨es, clock, since, seen, c0, h1, h2, h3, h4, h5, h6⟩, h7⟩ := h
 exact ⟨D, left, ⟨es, clock, since, seen, c0, hb.trans h1, h2, h3, h4, hr.trans h5, h6⟩, h7⟩
theorem IsRg.turned_ {F : Nat → Prop} (h : IsRg K w b r n f L cnt) (ht : Turned F w w') (hb : ¬ F b) (hr : ¬ F r) : IsRg K w' b r n f L cnt :=
 h.of_blocks (ht.block b h.owns.lt_ hb) (ht.block r h.lt_ hr)
theorem IsRg.kept_ {row : Option Nat} (h : IsRg K w b r n f L cnt) (hg : w.grownBy w' row) (hb : some b ≠ row) (hr : some r ≠ row) : IsRg K w' b r n f L cnt :=
 h.of_blocks (hg.block b h.owns.lt_ hb) (hg.block r h.lt_ hr)
theorem IsRg.below_ {B : Nat} (h : IsRg K w b r n f L cnt) (hB : Below B w w') (hb : b < B) (hr : r < B) : IsRg K w' b r n f L cnt :=
 h.of_blocks (hB.block b hb) (hB.block r hr)
theorem wpList_range_mp (w : World) {ops : Array Oper} {rest : List Oper} {o : Oper} {a : Act} {Q : Exit → Act → World → Prop} (K : MpK P κ β)
  (hg : o.guard = none) (m : Operand) (hop : o.op = Op.range K.t m) (b n : Nat) (f : κ → Option β) (hm : a.eval m = .map (some b)) (hown : IsMp K w b n f)
  (hK : ∀ w' cnt, IsRg K w' b w.heap.size n f (fun x => (f x).isSome) cnt → cnt ≤ n → w.grownBy w' none → w'.heap.size = w.heap.size + 1 → wpList P ops Q rest (a.put o.dst (.pointer (some ⟨w.heap.size, 0, none⟩))) w') :
  wpList P ops Q (o :: rest) a w := by
 obtain ⟨D, h1, h2⟩ := hown
 exact wpList_range_own w hg m K.t hop K.k K.e K.keyed K.under K.read b n D hm h1 fun w' r1 r2 r3 => hK w' _ ⟨D, _, r1, h2, fun x hx => (h2 x hx).1⟩ h1.size_le r2 r3
theorem wpList_next_mp [DecidableEq κ] (w : World) {ops : Array Oper} {rest : List Oper} {o : Oper} {a : Act} {Q : Exit → Act → World → Prop} (K : MpK P κ β) (O : MpOk K)
  (hg : o.guard = none) (it : Operand) (hop : o.op = Op.next it false) (b r n : Nat) (f : κ → Option β) (L : κ → Bool) (cnt : Nat) (hit : a.eval it = .pointer (some ⟨r, 0, none⟩)) (h : IsRg K w b r n f L cnt)
  (hDone : (∀ x, K.ok x → L x = false) → wpList P ops Q rest (a.put o.dst (.tuple #[.bool false])) w)
  (hMore : ∀ (x : κ) (c : β) (w' : World) (cnt' : Nat), K.ok x → L x = true → f x = some c → IsRg K w' b r n f (fun z => L z && !decide (z = x)) cnt' → cnt' < cnt → w.grownBy w' (some r) → w'.heap.size = w.heap.size →
   (Instr.entry (.pointer (some ⟨r, 0, none⟩))).run P w' = .ok (.tuple #[K.key x, K.val c]) w' → wpList P ops Q rest (a.put o.dst (.tuple #[.bool true, K.key x, K.val c])) w') :
  wpList P ops Q (o :: rest) a w := by
 obtain ⟨D, left, h1, h2, h3⟩ := h
 refine wpList_next_ranges w hg it hop K.k K.keyed K.read K.key K.val (fun key kl hk => ?_) (fun v y hv => ?_) b r n D left cnt hit h1 (fun _ hl => hDone fun x hx => ?_) ?_
 ·obtain ⟨x, _, hx, _⟩ := O.only key kl hk
  exact ⟨x, hx⟩
 ·obtain ⟨c, hc, _⟩ := O.elem v y hv
  exact ⟨c, hc⟩
 ·rw [← h3 x hx]; exact hl _
 ·intro x c kl y w' cnt' hkey hlk hv hat hrg hlt hgr hsz hen
  obtain ⟨x', hx', e1, e2⟩ := O.only _ _ hkey
  have ex := K.inj _ _ e1
  subst ex e2
  have hy : y = (K.dat c, []) := by
   have := K.readVal c
   rw [hv] at this
   exact Option.some.inj this
  subst hy
  obtain ⟨t1, t2⟩ := h2 x hx'
  have hf : f x = some c := by
   have hh := has_true_of_atKey hat
   rw [t1] at hh
   obtain ⟨c', hc'⟩ := Option.isSome_iff_exists.1 hh
   have h5 := hat .nil
   rw [t2, hc'] at h5
   rw [hc', O.dinj _ _ h5]
  refine hMore x c w' cnt' hx' (by rw [← h3 x hx']; exact hlk) hf ⟨D, _, hrg, h2, fun z hz => ?_⟩ hlt hgr hsz hen
  show (left (K.lit z) && !(K.lit z).sameKey (K.lit x)) = _
  rw [h3 z hz, K.same hz hx']
end
end Go.Proofs.YtiafeniflkikeaaGreat
namespace Go.Proofs.YtiafeniflkikeaaGreat
open Go.RowKit Go.Maps
open Go.ChangeMaps Go.MapKept
set_option linter.unusedVariables false
section
variable {P : Program} {κ β : Type} {K : MpK P κ β} {w : World} {b n : Nat} {f : κ → Option β}
theorem IsMp.clear (h : IsMp K w b n f) (ty : TypeId) :
  ∃ w', (Builtin.clear_ #[K.t] ty #[.map (some b)]).run P w = .ok (.tuple #[]) w' ∧ IsMp K w' b 0 (fun _ => none) ∧ w.grownBy w' (some b) := by
 obtain ⟨D, ⟨es, clock, hb, F, hs, hD⟩, _⟩ := h
 refine ⟨setBlock w b (.map #[] clock), ?_, ⟨.map [], ⟨#[], clock, heap_setBlock_same hb _, ⟨by simp, ⟨by simp, by simp, by simp⟩, by simp⟩, Nat.le_refl _, rfl⟩, fun x _ => ⟨rfl, fun d => rfl⟩⟩, World.mapTurned.grown ⟨es, clock, #[], clock, hb, rfl⟩⟩
 simp [Builtin.clear_, run_underlying K.under, MapKept.run_getObj_map hb, MapKept.run_setObj_map _ hb, Result.andThen, setBlock]
end
theorem wpList_clear_mp {P : Program} {κ β : Type} (w : World) {ops : Array Oper} {rest : List Oper} {o : Oper} {a : Act} {Q : Exit → Act → World → Prop} (K : MpK P κ β)
  (hg : o.guard = none) (m : Operand) (hop : o.op = Op.call { callee := Callee.builtin Builtin.clear, args := #[m], argTypes := #[K.t] }) (b n : Nat) (f : κ → Option β) (hm : a.eval m = .map (some b)) (hown : IsMp K w b n f)
  (hK : ∀ w', IsMp K w' b 0 (fun _ => none) → w.grownBy w' (some b) → wpList P ops Q rest (a.put o.dst (.tuple #[])) w') :
  wpList P ops Q (o :: rest) a w := by
 refine wpList_plain hg fun K' hK' => ?_
 obtain ⟨w', hrun, r1, r2⟩ := hown.clear o.type
 unfold Oper.wp
 simp [execOp, hop, resolve, invoke, builtin, hm, hrun, Result.andThen]
 exact hK' _ _ (hK w' r1 r2)
end Go.Proofs.YtiafeniflkikeaaGreat
namespace Go.Proofs.YtiafeniflkikeaaGreat
open Go.RowKit Go.Maps
set_option linter.unusedVariables false
def readInt (q : IntKind) : Value → Option (DataW Unit × List MemPlace)
 | .int q' a => if q' = q then some (.lit (.int q a), []) else none
 | _ => none
theorem readInt_val (q : IntKind) (a : Int) : readInt q (.int q a) = some (.lit (.int q a), []) := by simp [readInt]
theorem readInt_inv (q : IntKind) (v : Value) (a : Int) (ps : List MemPlace) (h : readInt q v = some (.lit (.int q a), ps)) : v = .int q a := by
 cases v with
 | int q' b =>
  simp only [readInt] at h
  split at h
  ·rename_i e
   subst e
   simp at h
   rw [h.1]
  ·cases h
 | _ => simp [readInt] at h
section
variable {P : Program}
end
end Go.Proofs.YtiafeniflkikeaaGreat
