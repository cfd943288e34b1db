/- Parts of the proof. -/
import Derived.Test.YtiafeniflkikeaaGreatPm15
import Derived.Test.YtiafeniflkikeaaGreatPm14
import Derived.Test.YtiafeniflkikeaaGreatPm04
import Derived.Test.YtiafeniflkikeaaGreatPm05
import Derived.Test.YtiafeniflkikeaaGreatPm06
namespace Go.Proofs.YtiafeniflkikeaaGreat
open Go.RowKit
set_option linter.unusedVariables false
namespace Pp
def cnt {β : Type} (m : Nat) (f : Int → Option β) : Nat := (List.range m).countP (fun k : Nat => (f (k : Int)).isSome)
def Small {β : Type} (f : Int → Option β) : Prop := ∀ k c, f k = some c → 0 ≤ k ∧ k < 65536
section
variable {β γ : Type} {m : Nat} {f g : Int → Option β} {k : Int}
theorem cnt_mono {g : Int → Option γ} (h : ∀ k : Nat, k < m → (f (k : Int)).isSome → (g (k : Int)).isSome) : cnt m f ≤ cnt m g := by
 unfold cnt
 exact List.countP_mono_left (fun k hk h1 => h k (List.mem_range.1 hk) h1)
theorem cnt_one (m : Nat) (k : Int) : (List.range m).countP (fun j : Nat => decide ((j : Int) = k)) ≤ 1 := by
 by_cases h : ∃ n : Nat, (n : Int) = k
 ·obtain ⟨n, rfl⟩ := h
  have e : (fun j : Nat => decide ((j : Int) = (n : Int))) = (fun j => j == n) := by
   funext j
   rw [Bool.eq_iff_iff, decide_eq_true_iff, beq_iff_eq]
   omega
  rw [e]
  exact List.nodup_iff_count.1 List.nodup_range n
 ·have e : (List.range m).countP (fun j : Nat => decide ((j : Int) = k)) = 0 := by
   rw [List.countP_eq_zero]
   intro j _ h2
   exact h ⟨j, by simpa using h2⟩
  omega
theorem cnt_put (m : Nat) (f : Int → Option β) (k : Int) (v : β) : cnt m (fun j => if j = k then some v else f j) ≤ cnt m f + 1 := by
 have h1 : cnt m (fun j => if j = k then some v else f j) ≤ (List.range m).countP (fun j : Nat => (f (j : Int)).isSome || decide ((j : Int) = k)) := by
  unfold cnt
  refine List.countP_mono_left (fun j _ h => ?_)
  by_cases hj : (j : Int) = k
  ·simp [hj]
  ·simp only [if_neg hj] at h
   simp [h]
 have h2 : ∀ l : List Nat, l.countP (fun j : Nat => (f (j : Int)).isSome || decide ((j : Int) = k)) ≤ l.countP (fun j : Nat => (f (j : Int)).isSome) + l.countP (fun j : Nat => decide ((j : Int) = k)) := by
  intro l
  induction l with
  | nil => simp
  | cons x l ih =>
   simp only [List.countP_cons]
   by_cases ha : (f (x : Int)).isSome <;> by_cases hb : (x : Int) = k <;> simp [ha, hb] <;> omega
 have := h2 (List.range m)
 have := cnt_one m k
 unfold cnt at *
 omega
theorem cnt_del (hk : 0 ≤ k) (hm : k < (m : Int)) (hs : (f k).isSome) : cnt m (fun j => if j = k then none else f j) + 1 ≤ cnt m f := by
 obtain ⟨n, rfl⟩ := Int.eq_ofNat_of_zero_le hk
 have hm : n < m := by omega
 have h2 : ∀ l : List Nat, n ∈ l → l.countP (fun j : Nat => ((fun j : Int => if j = (n : Int) then none else f j) (j : Int)).isSome) + 1 ≤ l.countP (fun j : Nat => (f (j : Int)).isSome) := by
  intro l
  have mono : ∀ l : List Nat, l.countP (fun j : Nat => ((fun j : Int => if j = (n : Int) then none else f j) (j : Int)).isSome) ≤ l.countP (fun j : Nat => (f (j : Int)).isSome) := fun l => List.countP_mono_left (fun j _ h => by
   by_cases e : (j : Int) = n
   ·simp only [if_pos e] at h; cases h
   ·simp only [if_neg e] at h; exact h)
  induction l with
  | nil => intro h; cases h
  | cons x l ih =>
   intro h
   rw [List.countP_cons, List.countP_cons]
   by_cases e : x = n
   ·subst e
    have := mono l
    rw [if_neg (by simp), if_pos (by simpa using hs)]
    omega
   ·have := ih ((List.mem_cons.1 h).resolve_left (fun e' => e e'.symm))
    have e3 : ¬ ((x : Int) = (n : Int)) := by omega
    have e2 : ((fun j : Int => if j = (n : Int) then none else f j) (x : Int)).isSome = (f (x : Int)).isSome := by simp only [if_neg e3]
    rw [e2]
    omega
 exact h2 _ (List.mem_range.2 hm)
theorem cnt_le (m : Nat) (f : Int → Option β) : cnt m f ≤ m := by
 have := List.countP_le_length (p := fun k : Nat => (f (k : Int)).isSome) (l := List.range m)
 rw [List.length_range] at this
 exact this
def ents (m : Nat) (f : Int → Option β) : List (Int × β) := (List.range m).filterMap (fun k : Nat => (f (k : Int)).map (fun c => ((k : Int), c)))
theorem ents_len (m : Nat) (f : Int → Option β) : (ents m f).length = cnt m f := by
 unfold ents cnt
 induction List.range m with
 | nil => rfl
 | cons x l ih =>
  rw [List.filterMap_cons, List.countP_cons]
  cases h : f (x : Int) with
  | none => simpa [h] using ih
  | some c => simp [ih]
theorem ents_mem (h : Small f) (k : Int) (c : β) : f k = some c ↔ (k, c) ∈ ents 65536 f := by
 unfold ents
 rw [List.mem_filterMap]
 constructor
 ·intro hc
  obtain ⟨h0, h1⟩ := h k c hc
  refine ⟨k.toNat, List.mem_range.2 (by omega), ?_⟩
  rw [Int.toNat_of_nonneg h0, hc]
  rfl
 ·rintro ⟨j, _, hj⟩
  rw [Option.map_eq_some_iff] at hj
  obtain ⟨c', h1, h2⟩ := hj
  obtain ⟨e1, e2⟩ := Prod.mk.inj h2
  rw [← e1, ← e2]
  exact h1
theorem ents_keys (m : Nat) (f : Int → Option β) : ((ents m f).map (·.1)).Pairwise (· < ·) := by
 have key : ∀ l : List Nat, l.Pairwise (· < ·) → ((l.filterMap (fun k : Nat => (f (k : Int)).map (fun c => ((k : Int), c)))).map (·.1)).Pairwise (· < ·) := by
  intro l
  induction l with
  | nil => intro _; exact List.Pairwise.nil
  | cons x l ih =>
   intro h
   obtain ⟨h1, h2⟩ := List.pairwise_cons.1 h
   rw [List.filterMap_cons]
   cases hf : f (x : Int) with
   | none => simpa [hf] using ih h2
   | some c =>
    simp only [Option.map_some, List.map_cons, List.pairwise_cons]
    refine ⟨fun y hy => ?_, ih h2⟩
    obtain ⟨e, he, rfl⟩ := List.mem_map.1 hy
    obtain ⟨j, hj, hj2⟩ := List.mem_filterMap.1 he
    rw [Option.map_eq_some_iff] at hj2
    obtain ⟨c', _, rfl⟩ := hj2
    have := h1 j hj
    show (x : Int) < (j : Int)
    omega
 exact key _ List.pairwise_lt_range
theorem ents_nodup (m : Nat) (f : Int → Option β) : ((ents m f).map (·.1)).Nodup := by
 rw [List.nodup_iff_pairwise_ne]
 exact (ents_keys m f).imp (fun h => by omega)
end
def usedF (l : List Pa.Page) (k : Int) : Option Unit := if l.any (fun x => decide ((x.n : Int) = k) && decide (x.state ≠ 2)) then some () else none
def dropF (l : List Pa.Page) (k : Int) : Option Unit := if l.any (fun x => decide ((x.n : Int) = k) && decide (x.state = 3)) then some () else none
theorem usedF_some {l : List Pa.Page} {k : Int} : (usedF l k).isSome ↔ ∃ x ∈ l, (x.n : Int) = k ∧ x.state ≠ 2 := by
 unfold usedF
 by_cases h : l.any (fun x => decide ((x.n : Int) = k) && decide (x.state ≠ 2)) = true
 ·rw [if_pos h]
  simpa using h
 ·rw [if_neg h]
  simpa using h
theorem dropF_some {l : List Pa.Page} {k : Int} : (dropF l k).isSome ↔ ∃ x ∈ l, (x.n : Int) = k ∧ x.state = 3 := by
 unfold dropF
 by_cases h : l.any (fun x => decide ((x.n : Int) = k) && decide (x.state = 3)) = true
 ·rw [if_pos h]
  simpa using h
 ·rw [if_neg h]
  simpa using h
theorem unit_ext {f g : Int → Option Unit} (h : ∀ k, (f k).isSome ↔ (g k).isSome) : f = g := by
 funext k
 have := h k
 cases hf : f k <;> cases hg : g k <;> simp [hf, hg] at this ⊢
structure Sound (s : S) (F : List Nat) : Prop where
 root : Rt.May s.root
 rise : Pa.Rising s.l
 from2 : ∀ x ∈ s.l, 2 ≤ x.n ∧ x.n < 65536 ∧ (x.state = 1 ∨ x.state = 2 ∨ x.state = 3)
 told : told F = (s.root, 0)
 big : 1024 ≤ F.length
 cache : s.cache ≤ 256
 name : s.name.size ≤ maxLen
theorem rising_inj {l : List Pa.Page} (h : Pa.Rising l) {x y : Pa.Page} (hx : x ∈ l) (hy : y ∈ l) (e : x.n = y.n) : x = y := by
 obtain ⟨i, hi⟩ := List.getElem?_of_mem hx
 obtain ⟨j, hj⟩ := List.getElem?_of_mem hy
 have h1 := (List.getElem?_eq_some_iff.1 hi).1
 have h2 := (List.getElem?_eq_some_iff.1 hj).1
 have g1 := (List.getElem?_eq_some_iff.1 hi).2
 have g2 := (List.getElem?_eq_some_iff.1 hj).2
 have hp := List.pairwise_iff_getElem.1 h
 rcases Nat.lt_trichotomy i j with h | h | h
 ·have := hp i j h1 h2 h; rw [g1, g2] at this; omega
 ·subst h; rw [hi] at hj; exact Option.some.inj hj
 ·have := hp j i h2 h1 h; rw [g1, g2] at this; omega
end Pp
section
variable {P : Program} {κ β : Type} {w : World} {b n : Nat}
theorem IsMp.tight {β : Type} {K : MpK P Int β} (O : MpOk K) (hok : ∀ x, K.ok x ↔ I64 x) {f : Int → Option β} (h : IsMp K w b n f) (hs : Pp.Small f) : IsMp K w b 65536 f := by
 obtain ⟨D, h1, h2⟩ := h
 have h3 : IsMp K w b n f := ⟨D, h1, h2⟩
 obtain ⟨es, rfl, hp⟩ := Tells.perm O h1 h2 (Pp.ents 65536 f) (Pp.ents_nodup _ _) (fun e he => (hok _).2 (by
  have := (Pp.ents_mem hs e.1 e.2).2 he
  have := hs _ _ this
  unfold I64; omega)) (fun x _ y => Pp.ents_mem hs x y)
 have hl : es.length ≤ 65536 := by
  rw [hp.length_eq, List.length_map, Pp.ents_len]
  exact Pp.cnt_le _ _
 refine ⟨_, ?_, h2⟩
 obtain ⟨es', clock, h4, h5, h6, h7⟩ := h1
 refine ⟨es', clock, h4, h5, ?_, h7⟩
 have e := congrArg (fun d : DataW Unit => match d with | .map l => l.length | _ => 0) h7
 simp only [length_read] at e
 omega
theorem IsMp.len_ {β : Type} {K : MpK P Int β} (O : MpOk K) (hok : ∀ x, K.ok x ↔ I64 x) {f : Int → Option β} (h : IsMp K w b n f) (hs : Pp.Small f) (ty : TypeId) :
  (Builtin.len_ #[K.t] ty #[.map (some b)]).run P w = .ok (.int .i64 (Pp.cnt 65536 f : Nat)) w := by
 rw [← Pp.ents_len]
 exact h.size_ O (Pp.ents 65536 f) (Pp.ents_nodup _ _) (fun e he => (hok _).2 (by
  have := (Pp.ents_mem hs e.1 e.2).2 he
  have := hs _ _ this
  unfold I64; omega)) (fun x _ y => Pp.ents_mem hs x y) ty
end
end Go.Proofs.YtiafeniflkikeaaGreat
namespace Go.Proofs.YtiafeniflkikeaaGreat
open Go.RowKit
set_option linter.unusedVariables false
structure Fp where
 M : Nat → Prop
 R : Nat → Prop
namespace Fp
def Lt (f : Fp) (n : Nat) : Prop := ∀ k, f.M k ∨ f.R k → k < n
def From (f : Fp) (n : Nat) : Prop := ∀ k, f.M k ∨ f.R k → n ≤ k
structure Next (f f' : Fp) (n : Nat) : Prop where
 m : ∀ k, f'.M k → f.M k ∨ n ≤ k
 r : ∀ k, f'.R k → f.R k ∨ n ≤ k
def Off (f : Fp) (F : Nat → Prop) : Prop := ∀ k, F k → ¬ f.M k ∧ ¬ f.R k
def Apart (f g : Fp) : Prop := f.Off g.M ∧ g.Off f.M
theorem Next.refl (f : Fp) (n : Nat) : f.Next f n := ⟨fun _ h => .inl h, fun _ h => .inl h⟩
theorem Next.trans {f g h : Fp} {n m : Nat} (h1 : f.Next g n) (h2 : g.Next h m) (hm : n ≤ m) : f.Next h n :=
 ⟨fun k hk => (h2.m k hk).elim (fun h => h1.m k h) (fun h => .inr (by omega)), fun k hk => (h2.r k hk).elim (fun h => h1.r k h) (fun h => .inr (by omega))⟩
theorem Next.from_ {f g : Fp} {n B : Nat} (h : f.Next g n) (hf : f.From B) (hB : B ≤ n) : g.From B := fun k hk => by
 rcases hk with hk | hk
 ·rcases h.m k hk with h | h
  ·exact hf k (.inl h)
  ·omega
 ·rcases h.r k hk with h | h
  ·exact hf k (.inr h)
  ·omega
theorem From.mono {f : Fp} {n B : Nat} (h : f.From n) (hB : B ≤ n) : f.From B := fun k hk => by have := h k hk; omega
theorem From.off {f : Fp} {n : Nat} (h : f.From n) {F : Nat → Prop} (hF : ∀ k, F k → k < n) : f.Off F := fun k hk => ⟨fun hm => by have := h k (.inl hm); have := hF k hk; omega, fun hr => by have := h k (.inr hr); have := hF k hk; omega⟩
theorem Lt.off {f : Fp} {n : Nat} (h : f.Lt n) {F : Nat → Prop} (hF : ∀ k, F k → n ≤ k) : f.Off F := fun k hk => ⟨fun hm => by have := h k (.inl hm); have := hF k hk; omega, fun hr => by have := h k (.inr hr); have := hF k hk; omega⟩
theorem Apart.symm {f g : Fp} (h : f.Apart g) : g.Apart f := ⟨h.2, h.1⟩
theorem Apart.next {f f' g : Fp} {n : Nat} (h : f.Apart g) (hn : f.Next f' n) (hg : g.Lt n) : f'.Apart g :=
  ⟨fun k hk => ⟨fun hm => (hn.m k hm).elim (fun h2 => (h.1 k hk).1 h2) (fun h2 => by have := hg k (.inl hk); omega), fun hr => (hn.r k hr).elim (fun h2 => (h.1 k hk).2 h2) (fun h2 => by have := hg k (.inl hk); omega)⟩,
   fun k hk => (hn.m k hk).elim (fun h2 => h.2 k h2) (fun h2 => ⟨fun hm => by have := hg k (.inl hm); omega, fun hr => by have := hg k (.inr hr); omega⟩)⟩
end Fp
abbrev HasDisk := World → Fp → Sf.St → Nat → Prop
section
variable (D : HasDisk)
def IsDeed (f : Fp) (b : Nat) (r : Nat × Sf.St) (w : World) (e : Ending) (w' : World) : Prop :=
 e = .returned (.int .i64 (r.1 : Nat)) ∧ ∃ f', D w' f' r.2 b ∧ f.Next f' w.heap.size ∧ Turned f.M w w'
def IsDisk (t : Sf.St) (w : World) (e : Ending) (w' : World) : Prop :=
 ∃ (b : Nat) (f' : Fp), e = .returned (.tuple #[.pointer (some ⟨b, 0, none⟩), .int .i64 0]) ∧ D w' f' t b ∧ f'.From w.heap.size ∧ Below w.heap.size w w'
end
structure DiskLaw (D : HasDisk) : Prop where
 lt : ∀ {w : World} {f : Fp} {t : Sf.St} {b : Nat}, D w f t b → f.Lt w.heap.size
 turned : ∀ {w w' : World} {f : Fp} {t : Sf.St} {b : Nat} {F : Nat → Prop}, D w f t b → Turned F w w' → f.Off F → D w' f t b
 sep : ∀ {w : World} {f : Fp} {t : Sf.St} {b : Nat}, D w f t b → ∀ k, f.M k → ¬ f.R k
section
variable {D : HasDisk} {f f' : Fp} {t : Sf.St} {b : Nat} {r : Nat × Sf.St} {w w' : World} {e : Ending}
theorem alloc_turned (w : World) (o : Obj) : Turned (fun _ => False) w (w.alloc o) := (Turned.refl _ w).alloc o
theorem DiskLaw.below (L : DiskLaw D) (h : D w f t b) (hb : Below w.heap.size w w') : D w' f t b := L.turned h (Turned.of_below hb) ((L.lt h).off fun _ h => h)
theorem DiskLaw.alloc (L : DiskLaw D) (h : D w f t b) (o : Obj) : D (w.alloc o) f t b := L.turned h (alloc_turned w o) (fun _ h => h.elim)
end
def IsNE (r : Nat × Nat) (w : World) (e : Ending) (w' : World) : Prop := e = .returned (.tuple #[.int .i64 (r.1 : Nat), .int .i64 (r.2 : Nat)]) ∧ Below w.heap.size w w'
def IsNum (n : Nat) (w : World) (e : Ending) (w' : World) : Prop := e = .returned (.int .i64 (n : Nat)) ∧ Below w.heap.size w w'
def Sf.Few (t : Sf.St) : Prop := t.acts < 1099511627776
end Go.Proofs.YtiafeniflkikeaaGreat
namespace Go.Proofs.YtiafeniflkikeaaGreat.Sf
open Go.RowKit
set_option linter.unusedVariables false
structure Inv (t : St) : Prop where
 nums : (t.seen.map (·.2)).Nodup
 lt : ∀ e ∈ t.seen, e.2 < t.files.length
theorem find_mem {d : Dir} {s : ByteArray} {n : Nat} (h : find d s = some n) : (s, n) ∈ d := by
 unfold find at h
 cases hf : d.find? (fun e => decide (e.1 = s)) with
 | none => rw [hf] at h; cases h
 | some e =>
  rw [hf] at h
  have h1 := List.find?_some hf
  have h2 := List.mem_of_find?_eq_some hf
  simp only [decide_eq_true_eq] at h1
  obtain ⟨a, b⟩ := e
  simp at h h1
  subst h1 h
  exact h2
theorem find_none {d : Dir} {s : ByteArray} (h : find d s = none) : ∀ e ∈ d, e.1 ≠ s := by
 intro e he hs
 unfold find at h
 rw [Option.map_eq_none_iff, List.find?_eq_none] at h
 exact h e he (by simpa using hs)
theorem with_perm (d : Dir) (s : ByteArray) (n : Nat) : (with_ d s n).Perm ((s, n) :: d) := by
 unfold with_
 have h := List.perm_middle (a := (s, n)) (l₁ := d.take (ahead d s)) (l₂ := d.drop (ahead d s))
 rw [List.take_append_drop] at h
 exact h
theorem mem_with {d : Dir} {s : ByteArray} {n : Nat} {e : ByteArray × Nat} : e ∈ with_ d s n ↔ e = (s, n) ∨ e ∈ d := by
 rw [(with_perm d s n).mem_iff, List.mem_cons]
theorem mem_without {d : Dir} {s : ByteArray} {e : ByteArray × Nat} : e ∈ without d s ↔ e ∈ d ∧ e.1 ≠ s := by
 unfold without; simp
theorem without_sub (d : Dir) (s : ByteArray) : (without d s).Sublist d := List.filter_sublist
theorem lens_perm {t : St} {d e : Dir} (h : d.Perm e) : lens t d = lens t e := by
 unfold lens
 exact (h.map _).sum_nat
theorem lens_sub {t : St} {d e : Dir} (h : d.Sublist e) : lens t d ≤ lens t e := by
 unfold lens
 induction h with
 | slnil => exact Nat.le_refl _
 | cons a _ ih => simp only [List.map_cons, List.sum_cons]; omega
 | cons_cons a _ ih => simp only [List.map_cons, List.sum_cons]; omega
theorem lens_without {t : St} {d : Dir} {s : ByteArray} {n : Nat} (h : (s, n) ∈ d) : lens t (without d s) + len t n ≤ lens t d := by
 induction d with
 | nil => cases h
 | cons x d ih =>
  have e : lens t (x :: d) = len t x.2 + lens t d := by unfold lens; rw [List.map_cons, List.sum_cons]
  by_cases hx : x.1 = s
  ·have e2 : without (x :: d) s = without d s := by unfold without; rw [List.filter_cons_of_neg (by simpa using hx)]
   rw [e, e2]
   have h1 := lens_sub (t := t) (without_sub d s)
   rcases List.mem_cons.1 h with h | h
   ·rw [← h]; simp only; omega
   ·have := ih h; omega
  ·have e2 : without (x :: d) s = x :: without d s := by unfold without; rw [List.filter_cons_of_pos (by simpa using hx)]
   have e3 : lens t (x :: without d s) = len t x.2 + lens t (without d s) := by unfold lens; rw [List.map_cons, List.sum_cons]
   rw [e, e2, e3]
   rcases List.mem_cons.1 h with h | h
   ·rw [← h] at hx; exact absurd rfl hx
   ·have := ih h; omega
theorem done_len_put {b l : List Nat} {a : Nat} (h : a ≤ b.length) : (done b ⟨false, a, l⟩).length = max b.length (a + l.length) := by
 unfold done
 simp only [Bool.false_eq_true, if_false, List.length_append, List.length_take, List.length_drop]
 omega
theorem done_len_cut {b : List Nat} {a : Nat} (h : a ≤ b.length) : (done b ⟨true, a, []⟩).length = a := by
 unfold done
 simp only [if_true, List.length_take]
 omega
theorem now_add (s : List Nat) (r : List Act) (a : Act) : now ⟨s, r ++ [a]⟩ = done (now ⟨s, r⟩) a := by unfold now; simp [List.foldl_append]
theorem get_ok {t : St} {s : ByteArray} (h : (get t s).2 = 0) : t.dead = false ∧ find t.seen s = some (get t s).1 := by
 unfold get at h ⊢
 cases hd : t.dead with
 | true => rw [hd] at h; simp at h
 | false =>
  rw [hd] at h
  simp only [Bool.false_eq_true, if_false] at h ⊢
  cases hf : find t.seen s with
  | none => rw [hf] at h; simp at h
  | some n => simp
structure Quiet (t : St) (r : Nat × St) : Prop where
 no : r.1 ≠ 0 → r.2 = t
 yes : r.1 = 0 → r.2.acts = t.acts + 1
 fuse : r.2.fuse = 0
 dead : r.2.dead = false
 inv : Inv r.2
 room : r.2.room = t.room
 used : used r.2 ≤ r.2.room
structure Calm (t : St) : Prop where
 fuse : t.fuse = 0
 dead : t.dead = false
 inv : Inv t
 used : used t ≤ t.room
theorem Calm.no {t : St} (h : Calm t) (e : Nat) (he : e ≠ 0) : Quiet t (e, t) := ⟨fun _ => rfl, fun h => absurd h he, h.fuse, h.dead, h.inv, rfl, h.used⟩
theorem used_lens {t : St} (h : t.dead = false) : used t = lens t t.seen := by unfold used; rw [h]; rfl
end Go.Proofs.YtiafeniflkikeaaGreat.Sf
namespace Go.Proofs.YtiafeniflkikeaaGreat
open Go.RowKit
set_option linter.unusedVariables false
structure Sl where
 A : Option Addr
 n : Nat
 c : Nat
def slV (u : Sl) : Value := .slice u.A u.n u.c
structure FileOk (f : Sf.File) : Prop where
 len : ∀ k, k ≤ f.row.length → (Sf.bytes f k).length ≤ 1048576
 at_ : ∀ k a, f.row[k]? = some a → a.at_ ≤ (Sf.bytes f k).length ∧ a.b.length ≤ 1048576 ∧ (a.cut = true → a.b = [])
 row : f.row.length ≤ 2199023255552
end Go.Proofs.YtiafeniflkikeaaGreat
