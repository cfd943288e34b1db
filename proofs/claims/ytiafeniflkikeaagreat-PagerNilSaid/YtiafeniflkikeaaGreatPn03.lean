/- Parts of the proof. -/
import Derived.Test.YtiafeniflkikeaaGreatPn02
import Derived.Deep.RegionHeld
import Derived.Deep.WholeRow
import Derived.Test.YtiafeniflkikeaaGreatPn01
namespace Go.Proofs.YtiafeniflkikeaaGreat
open Go.RowKit
set_option linter.unusedVariables false
def BxT (T : TypeId) (w : World) (B g : Nat) (C : Array Value) : Prop := g < B ∧ Rw w g T C
section
variable {T : TypeId} {w w' W : World} {B B' g : Nat} {C N : Array Value}
theorem BxT.below_ (h : BxT T w B g C) (hb : Below B' w w') (hB : B ≤ B') : BxT T w' B g C := ⟨h.1, h.2.below hb (Nat.lt_of_lt_of_le h.1 hB)⟩
theorem bxt_stored (hX : (w.alloc (.cells N T)).setRow w.heap.size C = W) : BxT T W W.heap.size w.heap.size C ∧ Below w.heap.size w W := by
 subst hX
 have h1 : Rw (w.alloc (.cells N T)) w.heap.size T N := Rw.new w _ _
 exact ⟨⟨(h1.row C).lt, h1.row C⟩, below_setRow ((Below.refl _ _).alloc (Nat.le_refl _) _) (Nat.le_refl _) _⟩
theorem bxt_new (hW : w.alloc (.cells C T) = W) : BxT T W W.heap.size w.heap.size C ∧ Below w.heap.size w W := by
 subst hW
 exact ⟨⟨by simp, Rw.new w _ _⟩, (Below.refl _ _).alloc (Nat.le_refl _) _⟩
end
theorem wpList_load_row_onT {P : Program} {ops : Array Oper} {rest : List Oper} {o : Oper} {a : Act} {w : World} {Q : Exit → Act → World → Prop} (hw : Region.wanted o (yielded ops a.tmps) = true) (ty : TypeId) (x : Operand) (ho : o.op = .load ty x)
  (g : Nat) (hx : a.eval x = .pointer (some ⟨g, 0, none⟩)) (t : TypeId) (cs : Array Value) (fr : Nat × Nat) (d : TypeDesc)
  (hg : w.heap[g]? = some (.cells cs t fr)) (hu : P.underlying ty = some d) (hd : (match d with | .struct _ | .array _ _ => true | _ => false) = true) (hi : (P.info? ty).map (·.size) = some cs.size)
  (h : wpList P ops Q rest (a.put o.dst (.agg cs)) w) : wpList P ops Q (o :: rest) a w :=
 wpList_step fun K hK => by
  rw [if_pos hw]
  exact wp_load_row ty x ho g hx t cs fr d hg hu hd hi (hK _ _ h)
theorem wpList_build_atT {P : Program} {ops : Array Oper} {rest : List Oper} {o : Oper} {a : Act} {w : World} {Q : Exit → Act → World → Prop} (hg : o.guard = none) (t : TypeId) (parts : Array (Nat × Operand)) (ho : o.op = .build t parts) (c : Array Value)
  (hf : P.built t (parts.map fun (i, x) => (i, a.eval x)).toList = some c)
  (h : wpList P ops Q rest (a.put o.dst (.agg c)) w) : wpList P ops Q (o :: rest) a w :=
 wpList_build hg t parts ho (by rw [hf]; rfl) (by rw [hf]; exact h)
theorem exec_build {P : Program} {a : Act} {o : Oper} (t : TypeId) (parts : Array (Nat × Operand)) (ho : o.op = .build t parts) (c : Array Value) (w : World)
  (hf : P.built t (parts.map fun (i, x) => (i, a.eval x)).toList = some c) : (execOp a.eval o).run P w = .ok (.value (.agg c)) w := by
 unfold execOp
 simp only [ho, Sem.run_bind, run_build w t _ c hf, Result.andThen_ok]
 rfl
end Go.Proofs.YtiafeniflkikeaaGreat
namespace Go.Proofs.YtiafeniflkikeaaGreat
open Go.RowKit
set_option linter.unusedVariables false
theorem octs_flat (l : List Nat) : yK.flat l = l.map u8 := by
 show l.flatMap (fun x => [u8 x]) = l.map u8
 induction l with
 | nil => rfl
 | cons x r ih => rw [List.flatMap_cons, ih]; rfl
theorem Bv.lv_ {w : World} {B : Nat} {v : Value} {l : List Nat} (h : Bv w B v l) : Lv yK w B v l := by
 obtain ⟨A, c, e, h1, h2, h3, h4, h5⟩ := h
 refine ⟨A, c, e, h1, h2, h3, h4, fun hp => ?_⟩
 obtain ⟨b, off, hA, hb, hc⟩ := h5 hp
 refine ⟨b, off, hA, hb, fun j u hj => ?_⟩
 have hf := octs_flat l
 rw [hf, List.getElem?_map] at hj
 cases hx : l[j]? with
 | none => rw [hx] at hj; cases hj
 | some x =>
  rw [hx] at hj
  cases hj
  exact hc j x hx
theorem Lv.bv_ {w : World} {B : Nat} {v : Value} {l : List Nat} (h : Lv yK w B v l) : Bv w B v l := by
 obtain ⟨A, c, e, h1, h2, h3, h4, h5⟩ := h
 refine ⟨A, c, e, h1, h2, h3, h4, fun hp => ?_⟩
 obtain ⟨b, off, hA, hb, hc⟩ := h5 hp
 refine ⟨b, off, hA, hb, fun j x hj => hc j (u8 x) ?_⟩
 have hf := octs_flat l
 rw [hf, List.getElem?_map, hj]
 rfl
end Go.Proofs.YtiafeniflkikeaaGreat
namespace Go.Proofs.YtiafeniflkikeaaGreat
open Go.RowKit
set_option linter.unusedVariables false
def bvs (l : List Nat) : Array Value := (l.map u8).toArray
theorem bvs_size (l : List Nat) : (bvs l).size = l.length := by simp [bvs]
theorem bvs_some {d : List Nat} {k x : Nat} (h : d[k]? = some x) : (bvs d)[k]? = some (.int .u8 (x : Nat)) := by simp [bvs, h, u8]
theorem bvs_one (l : List Nat) : (bvs l).all (·.oneCell') = true := by
 rw [Array.all_eq_true_iff_forall_mem]
 intro v hv
 simp only [bvs, List.mem_toArray, List.mem_map] at hv
 obtain ⟨x, _, rfl⟩ := hv
 rfl
end Go.Proofs.YtiafeniflkikeaaGreat
namespace Go.Proofs.YtiafeniflkikeaaGreat.Cr
def B32 (n : Nat) : Prop := n < 4294967296
def step (r : Nat) : Nat := if r % 2 = 0 then r / 2 else r / 2 ^^^ 2197175160
def stepN : Nat → Nat → Nat
 | 0, r => r
 | k + 1, r => step (stepN k r)
def take (r c : Nat) : Nat := stepN 8 (r ^^^ c)
def raw (r : Nat) (l : List Nat) : Nat := l.foldl take r
def ones : Nat := 4294967295
def flip (r : Nat) : Nat := ones ^^^ r
def more (s : Nat) (l : List Nat) : Nat := flip (raw (flip s) l)
def of (l : List Nat) : Nat := more 0 l
theorem xor_b32 {a b : Nat} (ha : B32 a) (hb : B32 b) : B32 (a ^^^ b) := by
 have := Nat.xor_lt_two_pow (x := a) (y := b) (n := 32) ha hb
 exact this
theorem byte_b32 {c : Nat} (h : c < 256) : B32 c := by unfold B32; omega
theorem step_b32 {r : Nat} (h : B32 r) : B32 (step r) := by
 unfold step
 split
 ·unfold B32 at *; omega
 ·exact xor_b32 (by unfold B32 at *; omega) (by unfold B32; omega)
theorem stepN_b32 {r : Nat} (h : B32 r) (k : Nat) : B32 (stepN k r) := by
 induction k with
 | zero => exact h
 | succ k ih => exact step_b32 ih
theorem take_b32 {r c : Nat} (h : B32 r) (hc : c < 256) : B32 (take r c) := stepN_b32 (xor_b32 h (byte_b32 hc)) 8
theorem raw_b32 {l : List Nat} (hl : ∀ x ∈ l, x < 256) : ∀ {r : Nat}, B32 r → B32 (raw r l) := by
 induction l with
 | nil => intro r h; exact h
 | cons c l ih => intro r h; exact ih (fun x hx => hl x (by simp [hx])) (take_b32 h (hl c (by simp)))
theorem ones_b32 : B32 ones := by unfold B32 ones; omega
theorem zero_b32 : B32 0 := by unfold B32; omega
theorem ones_eq : ones = 4294967295 := rfl
attribute [irreducible] ones
theorem flip_b32 {r : Nat} (h : B32 r) : B32 (flip r) := xor_b32 ones_b32 h
theorem more_b32 {s : Nat} {l : List Nat} (h : B32 s) (hl : ∀ x ∈ l, x < 256) : B32 (more s l) := flip_b32 (raw_b32 hl (flip_b32 h))
theorem of_b32 {l : List Nat} (hl : ∀ x ∈ l, x < 256) : B32 (of l) := by
 show B32 (more 0 l)
 exact more_b32 zero_b32 hl
theorem raw_nil (r : Nat) : raw r [] = r := rfl
theorem raw_cons (r c : Nat) (l : List Nat) : raw r (c :: l) = raw (take r c) l := List.foldl_cons ..
theorem raw_append (r : Nat) (l m : List Nat) : raw r (l ++ m) = raw (raw r l) m := List.foldl_append ..
theorem raw_snoc (r : Nat) (l : List Nat) (c : Nat) : raw r (l ++ [c]) = take (raw r l) c := raw_append r l [c]
theorem raw_step {r : Nat} {l : List Nat} {k c : Nat} (h : l.drop k = c :: l.drop (k + 1)) : raw r (l.take (k + 1)) = take (raw r (l.take k)) c := by
 have h1 : l.take (k + 1) = l.take k ++ [c] := by
  rw [List.take_add (l := l) (i := k) (j := 1), h]; rfl
 rw [h1, raw_snoc]
theorem xor_cancel (a b : Nat) : a ^^^ b ^^^ b = a := by rw [Nat.xor_assoc, Nat.xor_self, Nat.xor_zero]
theorem xor_swap (a b c d : Nat) : (a ^^^ b) ^^^ (c ^^^ d) = (a ^^^ c) ^^^ (b ^^^ d) := by
 rw [Nat.xor_assoc, ← Nat.xor_assoc b c d, Nat.xor_comm b c, Nat.xor_assoc c b d, ← Nat.xor_assoc]
theorem xor_eq_zero {a b : Nat} (h : a ^^^ b = 0) : a = b := by
 have := xor_cancel a b
 rw [h, Nat.zero_xor] at this
 exact this.symm
theorem step_xor (a b : Nat) : step (a ^^^ b) = step a ^^^ step b := by
 have hd : (a ^^^ b) / 2 = a / 2 ^^^ b / 2 := Nat.xor_div_two
 have hm : (a ^^^ b) % 2 = (a + b) % 2 := by
  have := Nat.xor_mod_two_pow (a := a) (b := b) (n := 1)
  rw [Nat.pow_one] at this
  rw [this]
  rcases Nat.mod_two_eq_zero_or_one a with ha | ha <;> rcases Nat.mod_two_eq_zero_or_one b with hb | hb <;> rw [ha, hb, Nat.add_mod, ha, hb] <;> rfl
 unfold step
 rw [hd, hm]
 rcases Nat.mod_two_eq_zero_or_one a with ha | ha <;> rcases Nat.mod_two_eq_zero_or_one b with hb | hb
 ·rw [if_pos (by omega), if_pos ha, if_pos hb]
 ·rw [if_neg (by omega), if_pos ha, if_neg (by omega), Nat.xor_assoc]
 ·rw [if_neg (by omega), if_neg (by omega), if_pos hb, Nat.xor_assoc, Nat.xor_assoc, Nat.xor_comm (b / 2)]
 ·rw [if_pos (by omega), if_neg (by omega), if_neg (by omega), xor_swap, Nat.xor_self, Nat.xor_zero]
theorem stepN_xor (k a b : Nat) : stepN k (a ^^^ b) = stepN k a ^^^ stepN k b := by
 induction k with
 | zero => rfl
 | succ k ih => show step (stepN k (a ^^^ b)) = _; rw [ih, step_xor]; rfl
theorem step_zero {r : Nat} (hr : B32 r) (h : step r = 0) : r = 0 := by
 unfold step at h
 split at h
 ·omega
 ·have := xor_eq_zero h
  unfold B32 at hr
  omega
theorem step_inj {a b : Nat} (ha : B32 a) (hb : B32 b) (h : step a = step b) : a = b := by
 apply xor_eq_zero
 apply step_zero (xor_b32 ha hb)
 rw [step_xor, h, Nat.xor_self]
theorem stepN_inj (k : Nat) {a b : Nat} (ha : B32 a) (hb : B32 b) (h : stepN k a = stepN k b) : a = b := by
 induction k with
 | zero => exact h
 | succ k ih => exact ih (step_inj (stepN_b32 ha k) (stepN_b32 hb k) h)
theorem take_inj {a b c : Nat} (ha : B32 a) (hb : B32 b) (hc : c < 256) (h : take a c = take b c) : a = b := by
 have h1 := stepN_inj 8 (xor_b32 ha (byte_b32 hc)) (xor_b32 hb (byte_b32 hc)) h
 have h2 := congrArg (· ^^^ c) h1
 simpa [xor_cancel] using h2
def against (l m : List Nat) : List Nat := List.zipWith (· ^^^ ·) l m
theorem take_xor (a b c d : Nat) : take (a ^^^ b) (c ^^^ d) = take a c ^^^ take b d := by
 unfold take
 rw [xor_swap, stepN_xor]
theorem raw_against {l m : List Nat} (h : l.length = m.length) : ∀ (a b : Nat), raw (a ^^^ b) (against l m) = raw a l ^^^ raw b m := by
 induction l generalizing m with
 | nil => intro a b; cases m with
  | nil => rfl
  | cons => simp at h
 | cons c l ih =>
  intro a b
  cases m with
  | nil => simp at h
  | cons d m =>
   show raw (take (a ^^^ b) (c ^^^ d)) (against l m) = raw (take a c) l ^^^ raw (take b d) m
   rw [take_xor, ih (by simpa using h)]
theorem flip_eq (r : Nat) : flip r = ones ^^^ r := rfl
theorem flip_flip (r : Nat) : flip (flip r) = r := by rw [flip_eq, flip_eq, ← Nat.xor_assoc, Nat.xor_self, Nat.zero_xor]
theorem flip_zero : flip 0 = ones := by rw [flip_eq, Nat.xor_zero]
theorem more_eq (s : Nat) (l : List Nat) : more s l = flip (raw (flip s) l) := rfl
theorem of_eq (l : List Nat) : of l = flip (raw ones l) := by rw [← flip_zero]; rfl
def le : List Nat → Nat
 | [] => 0
 | c :: l => c + 256 * le l
theorem le_lt {l : List Nat} (hl : ∀ x ∈ l, x < 256) : le l < 256 ^ l.length := by
 induction l with
 | nil => simp [le]
 | cons c l ih =>
  have h1 := ih (fun x hx => hl x (by simp [hx]))
  have h2 := hl c (by simp)
  simp only [le, List.length_cons, Nat.pow_succ]
  omega
theorem stepN_shift (k : Nat) : ∀ x, stepN k (x * 2 ^ k) = x := by
 induction k with
 | zero => intro x; simp [stepN]
 | succ k ih =>
  intro x
  show step (stepN k (x * 2 ^ (k + 1))) = x
  rw [Nat.pow_succ, Nat.mul_comm (2 ^ k) 2, ← Nat.mul_assoc, ih (x * 2)]
  unfold step
  rw [if_pos (by omega)]
  omega
theorem stepN_add (j k x : Nat) : stepN j (stepN k x) = stepN (j + k) x := by
 induction j with
 | zero => simp [stepN]
 | succ j ih => rw [Nat.succ_add]; show step (stepN j (stepN k x)) = step (stepN (j + k) x); rw [ih]
theorem xor_low {c x : Nat} (h : c < 256) : c ^^^ 256 * x = c + 256 * x := by
 have h1 := Nat.two_pow_add_eq_or_of_lt (i := 8) (b := c) h x
 apply Nat.eq_of_testBit_eq
 intro i
 rw [Nat.testBit_xor]
 have h2 : (c + 256 * x).testBit i = (256 * x ||| c).testBit i := by rw [← h1, Nat.add_comm]
 rw [h2, Nat.testBit_or]
 have h3 : (256 * x).testBit i = (decide (8 ≤ i) && x.testBit (i - 8)) := by
  have := Nat.testBit_two_pow_mul (i := 8) (a := x) (j := i)
  exact this
 by_cases hi : 8 ≤ i
 ·have h4 : c.testBit i = false := Nat.testBit_lt_two_pow (Nat.lt_of_lt_of_le (m := 2 ^ 8) h (Nat.pow_le_pow_right (by omega) hi))
  simp [h4]
 ·rw [h3]; simp [hi]
theorem raw_le {l : List Nat} (hl : ∀ x ∈ l, x < 256) : ∀ r, raw r l = stepN (8 * l.length) (r ^^^ le l) := by
 induction l with
 | nil => intro r; simp [raw, le, stepN]
 | cons c l ih =>
  intro r
  have h1 := hl c (by simp)
  rw [raw_cons, ih (fun x hx => hl x (by simp [hx]))]
  have h2 : le l = stepN 8 (256 * le l) := by have := stepN_shift 8 (le l); rw [Nat.mul_comm] at this; exact this.symm
  unfold take
  rw [h2, ← stepN_xor, stepN_add, Nat.xor_assoc, xor_low h1]
  rfl
theorem le_zero {l : List Nat} (h : le l = 0) : ∀ x ∈ l, x = 0 := by
 induction l with
 | nil => simp
 | cons c l ih =>
  simp only [le] at h
  intro x hx
  rcases List.mem_cons.1 hx with rfl | hx
  ·omega
  ·exact ih (by omega) x hx
theorem raw_four {l : List Nat} (hl : ∀ x ∈ l, x < 256) (h4 : l.length ≤ 4) (h : raw 0 l = 0) : ∀ x ∈ l, x = 0 := by
 have h1 := le_lt hl
 have h2 : 256 ^ l.length ≤ 256 ^ 4 := Nat.pow_le_pow_right (by decide) h4
 apply le_zero
 have h3 : B32 (le l) := by unfold B32; omega
 rw [raw_le hl, Nat.zero_xor] at h
 apply stepN_inj (8 * l.length) h3 (b := 0) zero_b32
 rw [h]
 have := stepN_shift (8 * l.length) 0
 rw [Nat.zero_mul] at this
 exact this.symm
theorem of_burst {p d e s : List Nat} (hd : ∀ x ∈ d, x < 256) (he : ∀ x ∈ e, x < 256) (hs : ∀ x ∈ s, x < 256) (hp : ∀ x ∈ p, x < 256) (hl : d.length = e.length) (h4 : d.length ≤ 4) : of (p ++ d ++ s) = of (p ++ e ++ s) ↔ d = e := by
 constructor
 ·intro h
  unfold of more at h
  have h1 : raw (flip 0) (p ++ d ++ s) = raw (flip 0) (p ++ e ++ s) := by
   have := congrArg flip h
   rwa [flip_flip, flip_flip] at this
  rw [raw_append, raw_append, raw_append, raw_append] at h1
  obtain ⟨r, hr⟩ : ∃ r, raw (flip 0) p = r := ⟨_, rfl⟩
  have hrb : B32 r := by rw [← hr]; exact raw_b32 hp (flip_b32 zero_b32)
  rw [hr] at h1
  have h2 : ∀ {l : List Nat}, (∀ x ∈ l, x < 256) → ∀ {a b : Nat}, B32 a → B32 b → raw a l = raw b l → a = b := by
   intro l
   induction l with
   | nil => intro _ a b _ _ h; exact h
   | cons c l ih =>
    intro hl a b ha hb h
    have hc := hl c (by simp)
    exact take_inj ha hb hc (ih (fun x hx => hl x (by simp [hx])) (take_b32 ha hc) (take_b32 hb hc) h)
  have h3 := h2 hs (raw_b32 hd hrb) (raw_b32 he hrb) h1
  have h5 := raw_against hl r r
  rw [Nat.xor_self, h3, Nat.xor_self] at h5
  have h6 : ∀ x ∈ against d e, x < 256 := by
   intro x hx
   obtain ⟨i, hi, rfl⟩ := List.mem_iff_getElem.1 hx
   simp only [against, List.getElem_zipWith]
   exact Nat.xor_lt_two_pow (n := 8) (hd _ (List.getElem_mem _)) (he _ (List.getElem_mem _))
  have h7 := raw_four h6 (by simp [against]; omega) h5
  apply List.ext_getElem hl
  intro i h8 h9
  have h10 : d[i] ^^^ e[i] ∈ against d e := by
   have : (against d e)[i]'(by simp [against]; omega) = d[i] ^^^ e[i] := by simp [against]
   rw [← this]
   exact List.getElem_mem _
  exact xor_eq_zero (h7 _ h10)
 ·intro h; rw [h]
end Go.Proofs.YtiafeniflkikeaaGreat.Cr
