/-
  SfSpec: What a disk's functions owe: a disk in memory has blocks that its functions may turn (M) and blocks that they read alone (R).
  SfInv: Chapter 14: what holds of a disk whatever is done: each file that is seen is seen once; no more is used than there is room for.
  SfRaw: A slice as it lies in memory; what holds of a file's acts (mathematics). Any seat may take it.
-/
import Derived.Test.YtmcbjcbnckpfkaaGreatPt05
import Derived.Test.YtmcbjcbnckpfkaaGreatPt03
import Derived.Test.YtmcbjcbnckpfkaaGreatPt02
import Derived.Test.YtmcbjcbnckpfkaaGreatPt01
import Derived.Test.YtmcbjcbnckpfkaaGreatPt08
import Derived.Test.YtmcbjcbnckpfkaaGreatPt06
namespace Go.Proofs.YtmcbjcbnckpfkaaGreat
open Go.RowKit
set_option linter.unusedVariables false

/-- The blocks of an object: those that its functions may turn, and those that they read alone. -/
structure Fp where
  M : Nat → Prop
  R : Nat → Prop
namespace Fp
def Lt (f : Fp) (n : Nat) : Prop := ∀ k, f.M k ∨ f.R k → k < n
def From (f : Fp) (n : Nat) : Prop := ∀ k, f.M k ∨ f.R k → n ≤ k
/-- What a call made of it: of its blocks, and of new ones. -/
structure Next (f f' : Fp) (n : Nat) : Prop where
  m : ∀ k, f'.M k → f.M k ∨ n ≤ k
  r : ∀ k, f'.R k → f.R k ∨ n ≤ k
/-- None of these blocks is one of it. -/
def Off (f : Fp) (F : Nat → Prop) : Prop := ∀ k, F k → ¬ f.M k ∧ ¬ f.R k
/-- Two objects of which none turns what the other one has. -/
def Apart (f g : Fp) : Prop := f.Off g.M ∧ g.Off f.M
theorem Next.refl (f : Fp) (n : Nat) : f.Next f n := ⟨fun _ h => .inl h, fun _ h => .inl h⟩
theorem Next.trans {f g h : Fp} {n m : Nat} (h1 : f.Next g n) (h2 : g.Next h m) (hm : n ≤ m) : f.Next h n :=
  ⟨fun k hk => (h2.m k hk).elim (fun h => h1.m k h) (fun h => .inr (by omega)), fun k hk => (h2.r k hk).elim (fun h => h1.r k h) (fun h => .inr (by omega))⟩
theorem Next.from_ {f g : Fp} {n B : Nat} (h : f.Next g n) (hf : f.From B) (hB : B ≤ n) : g.From B := fun k hk => by
  rcases hk with hk | hk
  · rcases h.m k hk with h | h
    · exact hf k (.inl h)
    · omega
  · rcases h.r k hk with h | h
    · exact hf k (.inr h)
    · omega
theorem From.mono {f : Fp} {n B : Nat} (h : f.From n) (hB : B ≤ n) : f.From B := fun k hk => by have := h k hk; omega
theorem From.off {f : Fp} {n : Nat} (h : f.From n) {F : Nat → Prop} (hF : ∀ k, F k → k < n) : f.Off F := fun k hk => ⟨fun hm => by have := h k (.inl hm); have := hF k hk; omega, fun hr => by have := h k (.inr hr); have := hF k hk; omega⟩
theorem Lt.off {f : Fp} {n : Nat} (h : f.Lt n) {F : Nat → Prop} (hF : ∀ k, F k → n ≤ k) : f.Off F := fun k hk => ⟨fun hm => by have := h k (.inl hm); have := hF k hk; omega, fun hr => by have := h k (.inr hr); have := hF k hk; omega⟩
theorem Apart.symm {f g : Fp} (h : f.Apart g) : g.Apart f := ⟨h.2, h.1⟩
/-- One of the two goes on. -/
theorem Apart.next {f f' g : Fp} {n : Nat} (h : f.Apart g) (hn : f.Next f' n) (hg : g.Lt n) : f'.Apart g :=
  ⟨fun k hk => ⟨fun hm => (hn.m k hm).elim (fun h2 => (h.1 k hk).1 h2) (fun h2 => by have := hg k (.inl hk); omega), fun hr => (hn.r k hr).elim (fun h2 => (h.1 k hk).2 h2) (fun h2 => by have := hg k (.inl hk); omega)⟩,
   fun k hk => (hn.m k hk).elim (fun h2 => h.2 k h2) (fun h2 => ⟨fun hm => by have := hg k (.inl hm); omega, fun hr => by have := hg k (.inr hr); omega⟩)⟩
/-- A new one and one that was there. -/
theorem Lt.apart {f g : Fp} {n : Nat} (hf : f.Lt n) (hg : g.From n) : f.Apart g :=
  ⟨hf.off (fun k hk => hg k (.inl hk)), hg.off (fun k hk => hf k (.inl hk))⟩
end Fp

/-- A disk's number that a disk in memory stands for. -/
abbrev HasDisk := World → Fp → Sf.St → Nat → Prop
section
variable (D : HasDisk)
/-- A deed that answers an error, and turns the disk alone. -/
def IsDeed (f : Fp) (b : Nat) (r : Nat × Sf.St) (w : World) (e : Ending) (w' : World) : Prop :=
  e = .returned (.int .i64 (r.1 : Nat)) ∧ ∃ f', D w' f' r.2 b ∧ f.Next f' w.heap.size ∧ Turned f.M w w'
/-- A call that answers another disk, in new memory, and no error, and turns nothing. -/
def IsDisk (t : Sf.St) (w : World) (e : Ending) (w' : World) : Prop :=
  ∃ (b : Nat) (f' : Fp), e = .returned (.tuple #[.pointer (some ⟨b, 0, none⟩), .int .i64 0]) ∧ D w' f' t b ∧ f'.From w.heap.size ∧ Below w.heap.size w w'
/-- A call that answers another disk alone, in new memory but for what it reads, and turns nothing. -/
def IsDisk1 (f : Fp) (t : Sf.St) (w : World) (e : Ending) (w' : World) : Prop :=
  ∃ (b : Nat) (f' : Fp), e = .returned (.pointer (some ⟨b, 0, none⟩)) ∧ D w' f' t b ∧ (∀ k, f'.M k → w.heap.size ≤ k) ∧ (∀ k, f'.R k → f.R k ∨ w.heap.size ≤ k) ∧ Below w.heap.size w w'
end
/-- What every disk in memory has: its blocks are there, and it stays where none of them is turned. -/
structure DiskLaw (D : HasDisk) : Prop where
  lt : ∀ {w : World} {f : Fp} {t : Sf.St} {b : Nat}, D w f t b → f.Lt w.heap.size
  turned : ∀ {w w' : World} {f : Fp} {t : Sf.St} {b : Nat} {F : Nat → Prop}, D w f t b → Turned F w w' → f.Off F → D w' f t b
  sep : ∀ {w : World} {f : Fp} {t : Sf.St} {b : Nat}, D w f t b → ∀ k, f.M k → ¬ f.R k
/-- An object and its copy. -/
theorem Fp.copy_apart {f f' : Fp} {n : Nat} (hs : ∀ k, f.M k → ¬ f.R k) (hl : f.Lt n) (h1 : ∀ k, f'.M k → n ≤ k) (h2 : ∀ k, f'.R k → f.R k ∨ n ≤ k) : f.Apart f' :=
  ⟨hl.off h1, fun k hk => ⟨fun h => by have := h1 k h; have := hl k (.inl hk); omega, fun h => (h2 k h).elim (hs k hk) (fun h => by have := hl k (.inl hk); omega)⟩⟩
/-- An object that shares nothing with another one shares nothing with its copy. -/
theorem Fp.copy_other {f f' g : Fp} {n : Nat} (h : g.Apart f) (hl : g.Lt n) (h1 : ∀ k, f'.M k → n ≤ k) (h2 : ∀ k, f'.R k → f.R k ∨ n ≤ k) : g.Apart f' :=
  ⟨hl.off h1, fun k hk => ⟨fun h => by have := h1 k h; have := hl k (.inl hk); omega, fun h3 => (h2 k h3).elim (h.2 k hk).2 (fun h4 => by have := hl k (.inl hk); omega)⟩⟩
section
variable {D : HasDisk} {f f' : Fp} {t : Sf.St} {b : Nat} {r : Nat × Sf.St} {w w' : World} {e : Ending}
theorem IsDeed.of_alloc {o : Obj} (h : IsDeed D f b r (w.alloc o) e w') : IsDeed D f b r w e w' := by
  obtain ⟨h1, f', h2, h3, h4⟩ := h
  refine ⟨h1, f', h2, ⟨fun k hk => (h3.m k hk).imp id (fun h => by simp at h; omega), fun k hk => (h3.r k hk).imp id (fun h => by simp at h; omega)⟩, ?_⟩
  exact ((Turned.refl f.M w).alloc o).trans h4 (fun _ _ h => h)
theorem alloc_turned (w : World) (o : Obj) : Turned (fun _ => False) w (w.alloc o) := (Turned.refl _ w).alloc o
theorem DiskLaw.below (L : DiskLaw D) (h : D w f t b) (hb : Below w.heap.size w w') : D w' f t b := L.turned h (Turned.of_below hb) ((L.lt h).off fun _ h => h)
theorem DiskLaw.alloc (L : DiskLaw D) (h : D w f t b) (o : Obj) : D (w.alloc o) f t b := L.turned h (alloc_turned w o) (fun _ h => h.elim)
theorem Fp.Lt.not_new {f : Fp} {n : Nat} (h : f.Lt n) {m c : Nat} : ∀ k, (Value.slice (some ⟨n, 0, none⟩) m c).ownBlock = some k → ¬ f.M k := fun k hk hm => by
  have := h k (.inl hm)
  have e : n = k := Option.some.inj hk
  omega
/-- No block of what came in is one that a disk of the call's own turns. -/
theorem Fp.From.not_arg {P : Program} {α : Type} {K : El P α} {w0 w1 : World} {v : Value} {l : List α} (hF : f.From w0.heap.size) (h : Lv K w1 w0.heap.size v l) : 0 < l.length → ∀ k, v.ownBlock = some k → ¬ f.M k := fun hp k hk hm => by
  have := h.blk_ hp hk
  have := hF k (.inl hm)
  omega
theorem DiskLaw.drew (L : DiskLaw D) (h : D w f t b) : D w.drew f t b := L.turned h ((Turned.refl (fun _ => False) w).drew) (fun _ h => h.elim)
/-- An own slice's block is none of the disk's: it stays so. -/
theorem off_moved {v v' : Value} {w0 : World} (h : f.Off (fun k => v.ownBlock = some k)) (hm : Moved w0 v v') (hl : f.Lt w0.heap.size) : f.Off (fun k => v'.ownBlock = some k) := fun k hk => by
  rcases hm k hk with h1 | h1
  · exact h k h1
  · exact ⟨fun h2 => by have := hl k (.inl h2); omega, fun h2 => by have := hl k (.inr h2); omega⟩
theorem off_next {v : Value} {n : Nat} (h : f.Off (fun k => v.ownBlock = some k)) (hn : f.Next f' n) (hv : ∀ k, v.ownBlock = some k → k < n) : f'.Off (fun k => v.ownBlock = some k) := fun k hk => by
  have h1 := h k hk
  have h2 := hv k hk
  exact ⟨fun h3 => (hn.m k h3).elim h1.1 (by omega), fun h3 => (hn.r k h3).elim h1.2 (by omega)⟩
theorem off_nextB {g n : Nat} (h : f.Off (fun k => g = k)) (hn : f.Next f' n) (hv : g < n) : f'.Off (fun k => g = k) := fun k hk => by
  have h1 := h k hk
  exact ⟨fun h3 => (hn.m k h3).elim h1.1 (by omega), fun h3 => (hn.r k h3).elim h1.2 (by omega)⟩
theorem off_nil : f.Off (fun k => (Value.slice none 0 0).ownBlock = some k) := fun k hk => by cases hk
/-- What a deed turned lies from base on. -/
theorem Fp.From.below {base : Nat} {w0 : World} (hF : f.From base) (hB : Below base w0 w) (hs : base ≤ w.heap.size) (ht : Turned f.M w w') : Below base w0 w' :=
  hB.trans (ht.below hs (fun k hk => hF k (.inl hk)))
end
/-- A call that answers a number and an error, and turns nothing. -/
def IsNE (r : Nat × Nat) (w : World) (e : Ending) (w' : World) : Prop := e = .returned (.tuple #[.int .i64 (r.1 : Nat), .int .i64 (r.2 : Nat)]) ∧ Below w.heap.size w w'
def IsNum (n : Nat) (w : World) (e : Ending) (w' : World) : Prop := e = .returned (.int .i64 (n : Nat)) ∧ Below w.heap.size w w'
/-- How many acts a disk may have had, so that a call counts one more. -/
def Sf.Few (t : Sf.St) : Prop := t.acts < 1099511627776
end Go.Proofs.YtmcbjcbnckpfkaaGreat
namespace Go.Proofs.YtmcbjcbnckpfkaaGreat.Sf
open Go.RowKit
set_option linter.unusedVariables false

structure Inv (t : St) : Prop where
  nums : (t.seen.map (·.2)).Nodup
  lt : ∀ e ∈ t.seen, e.2 < t.files.length
theorem inv_new (r : Nat) : Inv (new r) := ⟨by simp [new], by simp [new]⟩

theorem find_mem {d : Dir} {s : ByteArray} {n : Nat} (h : find d s = some n) : (s, n) ∈ d := by
  unfold find at h
  cases hf : d.find? (fun e => decide (e.1 = s)) with
  | none => rw [hf] at h; cases h
  | some e =>
    rw [hf] at h
    have h1 := List.find?_some hf
    have h2 := List.mem_of_find?_eq_some hf
    simp only [decide_eq_true_eq] at h1
    obtain ⟨a, b⟩ := e
    simp at h h1
    subst h1 h
    exact h2
theorem find_none {d : Dir} {s : ByteArray} (h : find d s = none) : ∀ e ∈ d, e.1 ≠ s := by
  intro e he hs
  unfold find at h
  rw [Option.map_eq_none_iff, List.find?_eq_none] at h
  exact h e he (by simpa using hs)
theorem with_perm (d : Dir) (s : ByteArray) (n : Nat) : (with_ d s n).Perm ((s, n) :: d) := by
  unfold with_
  have h := List.perm_middle (a := (s, n)) (l₁ := d.take (ahead d s)) (l₂ := d.drop (ahead d s))
  rw [List.take_append_drop] at h
  exact h
theorem mem_with {d : Dir} {s : ByteArray} {n : Nat} {e : ByteArray × Nat} : e ∈ with_ d s n ↔ e = (s, n) ∨ e ∈ d := by
  rw [(with_perm d s n).mem_iff, List.mem_cons]
theorem mem_without {d : Dir} {s : ByteArray} {e : ByteArray × Nat} : e ∈ without d s ↔ e ∈ d ∧ e.1 ≠ s := by
  unfold without; simp
theorem without_sub (d : Dir) (s : ByteArray) : (without d s).Sublist d := List.filter_sublist

theorem lens_perm {t : St} {d e : Dir} (h : d.Perm e) : lens t d = lens t e := by
  unfold lens
  exact (h.map _).sum_nat
theorem lens_sub {t : St} {d e : Dir} (h : d.Sublist e) : lens t d ≤ lens t e := by
  unfold lens
  induction h with
  | slnil => exact Nat.le_refl _
  | cons a _ ih => simp only [List.map_cons, List.sum_cons]; omega
  | cons_cons a _ ih => simp only [List.map_cons, List.sum_cons]; omega
theorem lens_without {t : St} {d : Dir} {s : ByteArray} {n : Nat} (h : (s, n) ∈ d) : lens t (without d s) + len t n ≤ lens t d := by
  induction d with
  | nil => cases h
  | cons x d ih =>
    have e : lens t (x :: d) = len t x.2 + lens t d := by unfold lens; rw [List.map_cons, List.sum_cons]
    by_cases hx : x.1 = s
    · have e2 : without (x :: d) s = without d s := by unfold without; rw [List.filter_cons_of_neg (by simpa using hx)]
      rw [e, e2]
      have h1 := lens_sub (t := t) (without_sub d s)
      rcases List.mem_cons.1 h with h | h
      · rw [← h]; simp only; omega
      · have := ih h; omega
    · have e2 : without (x :: d) s = x :: without d s := by unfold without; rw [List.filter_cons_of_pos (by simpa using hx)]
      have e3 : lens t (x :: without d s) = len t x.2 + lens t (without d s) := by unfold lens; rw [List.map_cons, List.sum_cons]
      rw [e, e2, e3]
      rcases List.mem_cons.1 h with h | h
      · rw [← h] at hx; exact absurd rfl hx
      · have := ih h; omega
theorem lens_congr {t u : St} {d : Dir} (h : ∀ e ∈ d, len t e.2 = len u e.2) : lens t d = lens u d := by
  unfold lens
  congr 1
  exact List.map_congr_left h
/-- One file of a directory, which it has once, becomes another one. -/
theorem lens_one {t u : St} {d : Dir} {n : Nat} (hd : (d.map (·.2)).Nodup) (hn : ∃ e ∈ d, e.2 = n) (h : ∀ m, m ≠ n → len t m = len u m) : lens u d + len t n = lens t d + len u n := by
  induction d with
  | nil => obtain ⟨e, he, _⟩ := hn; cases he
  | cons x d ih =>
    simp only [List.map_cons, List.nodup_cons] at hd
    unfold lens at ih ⊢
    simp only [List.map_cons, List.sum_cons]
    by_cases hx : x.2 = n
    · have hc : (d.map fun e => len t e.2) = d.map fun e => len u e.2 := List.map_congr_left fun e he => h e.2 (fun e2 => hd.1 (by rw [hx, ← e2]; exact List.mem_map_of_mem he))
      rw [hc, hx]
      omega
    · have h1 : ∃ e ∈ d, e.2 = n := by
        obtain ⟨e, he, e2⟩ := hn
        rcases List.mem_cons.1 he with rfl | he
        · exact absurd e2 hx
        · exact ⟨e, he, e2⟩
      have := ih hd.2 h1
      have := h x.2 hx
      omega

theorem done_len_put {b l : List Nat} {a : Nat} (h : a ≤ b.length) : (done b ⟨false, a, l⟩).length = max b.length (a + l.length) := by
  unfold done
  simp only [Bool.false_eq_true, if_false, List.length_append, List.length_take, List.length_drop]
  omega
theorem done_len_cut {b : List Nat} {a : Nat} (h : a ≤ b.length) : (done b ⟨true, a, []⟩).length = a := by
  unfold done
  simp only [if_true, List.length_take]
  omega
theorem now_add (s : List Nat) (r : List Act) (a : Act) : now ⟨s, r ++ [a]⟩ = done (now ⟨s, r⟩) a := by unfold now; simp [List.foldl_append]

theorem blown_quiet {t : St} (h : t.fuse = 0) : blown t = (0, { t with acts := t.acts + 1 }) := if_pos h
/-- The files behind an act of one of them. -/
def added (t : St) (n : Nat) (a : Act) : St := { t with files := t.files.set n ⟨(fileAt t n).sure, (fileAt t n).row ++ [a]⟩ }
theorem len_added {t : St} {n : Nat} {a : Act} (hn : n < t.files.length) : len (added t n a) n = (done (now (fileAt t n)) a).length := by
  unfold len fileAt added
  simp only
  rw [List.getD_eq_getElem?_getD, List.getElem?_set_self hn, Option.getD_some, now_add]
  rfl
theorem len_added_other {t : St} {n m : Nat} {a : Act} (h : m ≠ n) : len (added t n a) m = len t m := by
  unfold len fileAt added
  simp only
  rw [List.getD_eq_getElem?_getD, List.getElem?_set_ne (Ne.symm h), ← List.getD_eq_getElem?_getD]
theorem get_ok {t : St} {s : ByteArray} (h : (get t s).2 = 0) : t.dead = false ∧ find t.seen s = some (get t s).1 := by
  unfold get at h ⊢
  cases hd : t.dead with
  | true => rw [hd] at h; simp at h
  | false =>
    rw [hd] at h
    simp only [Bool.false_eq_true, if_false] at h ⊢
    cases hf : find t.seen s with
    | none => rw [hf] at h; simp at h
    | some n => simp
/-- What a deed does to a disk that is not armed. -/
structure Quiet (t : St) (r : Nat × St) : Prop where
  no : r.1 ≠ 0 → r.2 = t
  yes : r.1 = 0 → r.2.acts = t.acts + 1
  fuse : r.2.fuse = 0
  dead : r.2.dead = false
  inv : Inv r.2
  room : r.2.room = t.room
  used : used r.2 ≤ r.2.room
structure Calm (t : St) : Prop where
  fuse : t.fuse = 0
  dead : t.dead = false
  inv : Inv t
  used : used t ≤ t.room
theorem Calm.no {t : St} (h : Calm t) (e : Nat) (he : e ≠ 0) : Quiet t (e, t) := ⟨fun _ => rfl, fun h => absurd h he, h.fuse, h.dead, h.inv, rfl, h.used⟩
theorem used_lens {t : St} (h : t.dead = false) : used t = lens t t.seen := by unfold used; rw [h]; rfl
/-- An act of a file that is seen. -/
theorem Calm.added_ {t : St} (h : Calm t) {s : ByteArray} {n : Nat} (hn : find t.seen s = some n) {a : Act} (hroom : lens t t.seen - len t n + (done (now (fileAt t n)) a).length ≤ t.room) : Quiet t (add t n a) := by
  have hm := find_mem hn
  have hlt := h.inv.lt _ hm
  have e : add t n a = (0, { added t n a with acts := t.acts + 1 }) := blown_quiet (t := added t n a) h.fuse
  rw [e]
  have hI : Inv { added t n a with acts := t.acts + 1 } := ⟨h.inv.nums, fun x hx => by have := h.inv.lt x hx; simpa [added] using this⟩
  refine ⟨fun h => absurd rfl h, fun _ => rfl, h.fuse, h.dead, hI, rfl, ?_⟩
  rw [used_lens (by exact h.dead)]
  show lens (added t n a) t.seen ≤ t.room
  have h1 := lens_one (t := t) (u := added t n a) h.inv.nums ⟨_, hm, rfl⟩ (fun m hm => (len_added_other hm).symm)
  rw [len_added hlt] at h1
  simp only at h1
  omega
theorem Calm.turned_ {t : St} (h : Calm t) {u : St} (hf : u.fuse = 0) (hd : u.dead = false) (ha : u.acts = t.acts) (hr : u.room = t.room) {d : Dir} (hI : (d.map (·.2)).Nodup) (hl : ∀ e ∈ d, e.2 < u.files.length) (hu : lens u d ≤ u.room) : Quiet t (turn u d) := by
  have e : turn u d = (0, { u with seen := d, row := u.row ++ [d], acts := u.acts + 1 }) := blown_quiet (t := { u with seen := d, row := u.row ++ [d] }) hf
  rw [e]
  refine ⟨fun h => absurd rfl h, fun _ => by show u.acts + 1 = _; rw [ha], hf, hd, ⟨hI, hl⟩, hr, ?_⟩
  rw [used_lens (by exact hd)]
  exact hu
theorem isSome_none {α : Type} {o : Option α} (h : o.isSome = false) : o = none := by cases o <;> simp_all
set_option maxHeartbeats 1000000 in
theorem Calm.deed {t : St} (h : Calm t) (o : Op) (hc : o.call ≤ 7) : Quiet t (doOp t o) := by
  have hu := h.used
  rw [used_lens h.dead] at hu
  unfold doOp
  split
  · unfold create
    rw [if_neg (show ¬ t.dead = true by rw [h.dead]; simp)]
    split
    · exact h.no 2 (by decide)
    · split
      · exact h.no 8 (by decide)
      · split
        · exact h.no 3 (by decide)
        · have hp := with_perm t.seen o.name t.files.length
          refine h.turned_ (u := { t with files := t.files ++ [noFile] }) h.fuse h.dead rfl rfl ?_ ?_ ?_
          · rw [(hp.map _).nodup_iff, List.map_cons, List.nodup_cons]
            refine ⟨fun hm => ?_, h.inv.nums⟩
            obtain ⟨e, he, e2⟩ := List.mem_map.1 hm
            have := h.inv.lt e he
            simp only at e2
            omega
          · intro e he
            show e.2 < (t.files ++ [noFile]).length
            rw [List.length_append, List.length_singleton]
            rcases mem_with.1 he with rfl | he
            · show t.files.length < _; omega
            · have := h.inv.lt e he; omega
          · have hother : ∀ m, m < t.files.length → len { t with files := t.files ++ [noFile] } m = len t m := fun m hm => by
              unfold len fileAt
              simp only
              rw [List.getD_eq_getElem?_getD, List.getElem?_append_left hm, ← List.getD_eq_getElem?_getD]
            have hself : len { t with files := t.files ++ [noFile] } t.files.length = 0 := by
              unfold len fileAt
              simp only
              rw [List.getD_eq_getElem?_getD, List.getElem?_append_right (Nat.le_refl _), Nat.sub_self]
              rfl
            rw [lens_perm hp]
            have e1 : lens { t with files := t.files ++ [noFile] } t.seen = lens t t.seen := lens_congr fun e he => hother _ (h.inv.lt e he)
            unfold lens at e1 ⊢
            rw [List.map_cons, List.sum_cons, e1]
            show len _ t.files.length + lens t t.seen ≤ t.room
            rw [hself]
            omega
  · split
    · unfold append
      split
      · exact h.no _ (by assumption)
      · rename_i hg
        have hg' : (get t o.name).2 = 0 := by omega
        obtain ⟨_, hf⟩ := get_ok hg'
        split
        · exact h.no 9 (by decide)
        · rename_i hr
          rw [used_lens h.dead] at hr
          refine h.added_ hf ?_
          have hl : len t (get t o.name).1 ≤ lens t t.seen := by
            have := lens_sub (t := t) (List.singleton_sublist.2 (find_mem hf))
            simpa [lens] using this
          unfold len at hl ⊢
          rw [done_len_put (Nat.le_refl _)]
          omega
    · split
      · unfold write
        split
        · exact h.no _ (by assumption)
        · rename_i hg
          have hg' : (get t o.name).2 = 0 := by omega
          obtain ⟨_, hf⟩ := get_ok hg'
          split
          · exact h.no 2 (by decide)
          · rename_i hat
            split
            · exact h.no 9 (by decide)
            · rename_i hr
              rw [used_lens h.dead] at hr
              refine h.added_ hf ?_
              have hl : len t (get t o.name).1 ≤ lens t t.seen := by
                have := lens_sub (t := t) (List.singleton_sublist.2 (find_mem hf))
                simpa [lens] using this
              unfold len at hl hat hr ⊢
              rw [done_len_put (by omega)]
              omega
      · split
        · unfold cut
          split
          · exact h.no _ (by assumption)
          · rename_i hg
            have hg' : (get t o.name).2 = 0 := by omega
            obtain ⟨_, hf⟩ := get_ok hg'
            split
            · exact h.no 2 (by decide)
            · rename_i hat
              refine h.added_ hf ?_
              have hl : len t (get t o.name).1 ≤ lens t t.seen := by
                have := lens_sub (t := t) (List.singleton_sublist.2 (find_mem hf))
                simpa [lens] using this
              unfold len at hl hat ⊢
              rw [done_len_cut (by omega)]
              omega
        · split
          · unfold rename
            split
            · exact h.no _ (by assumption)
            · rename_i hg
              have hg' : (get t o.name).2 = 0 := by omega
              obtain ⟨_, hf⟩ := get_ok hg'
              split
              · exact h.no 2 (by decide)
              · have hm := find_mem hf
                have hs : (without (without t.seen o.name) o.to).Sublist t.seen := (without_sub _ _).trans (without_sub _ _)
                have hp := with_perm (without (without t.seen o.name) o.to) o.to (get t o.name).1
                have hnot : (get t o.name).1 ∉ (without (without t.seen o.name) o.to).map (·.2) := by
                  intro hx
                  obtain ⟨e, he, e2⟩ := List.mem_map.1 hx
                  have h1 := (mem_without.1 he).1
                  have h2 := mem_without.1 h1
                  have h3 : e = (o.name, (get t o.name).1) := by
                    have hn := h.inv.nums
                    rw [List.nodup_iff_pairwise_ne, List.pairwise_map] at hn
                    apply Classical.byContradiction
                    intro hne
                    obtain ⟨i, hi, ei⟩ := List.mem_iff_getElem.1 h2.1
                    obtain ⟨j, hj, ej⟩ := List.mem_iff_getElem.1 hm
                    rw [List.pairwise_iff_getElem] at hn
                    rcases Nat.lt_trichotomy i j with hij | hij | hij
                    · exact hn i j hi hj hij (by rw [ei, ej]; exact e2)
                    · subst hij; exact hne (ei.symm.trans ej)
                    · exact hn j i hj hi hij (by rw [ei, ej]; exact e2.symm)
                  rw [h3] at h2
                  exact h2.2 rfl
                refine h.turned_ h.fuse h.dead rfl rfl ?_ ?_ ?_
                · rw [(hp.map _).nodup_iff, List.map_cons, List.nodup_cons]
                  exact ⟨hnot, h.inv.nums.sublist (hs.map _)⟩
                · intro e he
                  rcases mem_with.1 he with rfl | he
                  · exact h.inv.lt (o.name, (get t o.name).1) hm
                  · exact h.inv.lt e (hs.subset he)
                · rw [lens_perm hp]
                  have h1 := lens_without (t := t) hm
                  have h2 := lens_sub (t := t) (without_sub (without t.seen o.name) o.to)
                  have h3 : lens t ((o.to, (get t o.name).1) :: without (without t.seen o.name) o.to) = len t (get t o.name).1 + lens t (without (without t.seen o.name) o.to) := by unfold lens; rw [List.map_cons, List.sum_cons]
                  rw [h3]
                  omega
          · split
            · unfold remove
              split
              · exact h.no _ (by assumption)
              · refine h.turned_ h.fuse h.dead rfl rfl ?_ ?_ ?_
                · exact h.inv.nums.sublist ((without_sub _ _).map _)
                · intro e he
                  exact h.inv.lt e ((without_sub _ _).subset he)
                · have := lens_sub (t := t) (without_sub t.seen o.name)
                  omega
            · split
              · unfold sync
                split
                · exact h.no _ (by assumption)
                · rename_i hg
                  have hg' : (get t o.name).2 = 0 := by omega
                  obtain ⟨_, hf⟩ := get_ok hg'
                  rw [blown_quiet h.fuse]
                  simp only [ne_eq, not_true, if_false]
                  have hI : ∀ e ∈ t.seen, e.2 < (t.files.set (get t o.name).1 ⟨now (fileAt t (get t o.name).1), []⟩).length := fun e he => by rw [List.length_set]; exact h.inv.lt e he
                  refine ⟨fun h => absurd rfl h, fun _ => rfl, h.fuse, h.dead, ⟨h.inv.nums, hI⟩, rfl, ?_⟩
                  rw [used_lens (by exact h.dead)]
                  refine Nat.le_trans (Nat.le_of_eq ?_) hu
                  refine lens_congr fun e he => ?_
                  unfold len fileAt
                  simp only
                  rw [List.getD_eq_getElem?_getD, List.getElem?_set]
                  split
                  · rename_i hx
                    have := h.inv.lt _ (find_mem hf)
                    simp only at this
                    rw [if_pos this, Option.getD_some, ← hx]
                    rfl
                  · rw [← List.getD_eq_getElem?_getD]
              · split
                · unfold syncDir
                  rw [if_neg (show ¬ t.dead = true by rw [h.dead]; simp)]
                  rw [blown_quiet h.fuse]
                  simp only [ne_eq, not_true, if_false]
                  refine ⟨fun h => absurd rfl h, fun _ => rfl, h.fuse, h.dead, ⟨h.inv.nums, h.inv.lt⟩, rfl, ?_⟩
                  rw [used_lens (by exact h.dead)]
                  exact hu
                · rename_i h7 h8
                  omega
theorem calm_new {r : Nat} : Calm (new r) := ⟨rfl, rfl, inv_new r, by simp [used, new, lens]⟩
theorem Quiet.calm {t : St} {r : Nat × St} (h : Quiet t r) : Calm r.2 := ⟨h.fuse, h.dead, h.inv, h.used⟩
end Go.Proofs.YtmcbjcbnckpfkaaGreat.Sf
namespace Go.Proofs.YtmcbjcbnckpfkaaGreat
open Go.RowKit
set_option linter.unusedVariables false
/-- A slice: where it lies, its length, its room. -/
structure Sl where
  A : Option Addr
  n : Nat
  c : Nat
def slV (u : Sl) : Value := .slice u.A u.n u.c
/-- No act of a file reaches beyond it, and it is never too long. -/
structure FileOk (f : Sf.File) : Prop where
  len : ∀ k, k ≤ f.row.length → (Sf.bytes f k).length ≤ 1048576
  at_ : ∀ k a, f.row[k]? = some a → a.at_ ≤ (Sf.bytes f k).length ∧ a.b.length ≤ 1048576 ∧ (a.cut = true → a.b = [])
  row : f.row.length ≤ 2199023255552
end Go.Proofs.YtmcbjcbnckpfkaaGreat
