/- Parts of the proof. -/
import Derived.Test.YtiafeniflkikeaaGreatPm02
import Derived.Test.YtiafeniflkikeaaGreatProg
import Derived.WalkKit
import Derived.Below
import Derived.Laws.CopyOwn
import Derived.Lib.Hide
import Derived.Deep.RegionHeld
import Derived.Deep.WholeRow
namespace Go.Proofs.YtiafeniflkikeaaGreat.Rt
structure Root where
 seq : Nat
 page : Int
 pages : Int
 lsn : Nat
 next : Nat
 shard : Int
 tail : Int
 deriving DecidableEq
def zero : Root := ⟨0, 0, 0, 0, 0, 0, 0⟩
def May (r : Root) : Prop :=
 1 ≤ r.seq ∧ r.seq ≤ 4611686018427387904 ∧ 2 ≤ r.pages ∧ r.pages ≤ 65536 ∧ r.lsn ≤ 4611686018427387904 ∧ (r.page = 0 ∨ 2 ≤ r.page ∧ r.page ≤ r.pages - 1) ∧
 1 ≤ r.next ∧ r.next ≤ 4294967296 ∧ 0 ≤ r.shard ∧ r.shard ≤ 2147483647 ∧ 0 ≤ r.tail ∧ r.tail ≤ 1048576
instance (r : Root) : Decidable (May r) := inferInstanceAs (Decidable (_ ∧ _))
def nums (r : Root) : List Nat := [r.seq, r.page.toNat, r.pages.toNat, r.lsn, r.next, r.shard.toNat, r.tail.toNat]
def bys : List Nat → List Nat
 | [] => []
 | n :: l => Mt.put n ++ bys l
theorem bys_snoc (l : List Nat) (n : Nat) : bys (l ++ [n]) = bys l ++ Mt.put n := by
 induction l with
 | nil => simp [bys]
 | cons x l ih => simp [bys, ih]
theorem bys_len (l : List Nat) : (bys l).length ≤ 10 * l.length := by
 induction l with
 | nil => simp [bys]
 | cons x l ih => simp only [bys, List.length_append, List.length_cons]; have := Mt.put_len_le x; omega
theorem bys_lt {l : List Nat} (h : ∀ n ∈ l, Mt.B64 n) : ∀ x ∈ bys l, x < 256 := by
 induction l with
 | nil => intro x hx; cases hx
 | cons n l ih =>
  intro x hx
  rcases List.mem_append.1 hx with h1 | h1
  ·exact Mt.put_lt (h n (by simp)) x h1
  ·exact ih (fun m hm => h m (by simp [hm])) x h1
def Bad (i n : Nat) : Prop := i ≠ 0 ∧ i ≠ 3 ∧ 8589934592 < n
instance (i n : Nat) : Decidable (Bad i n) := inferInstanceAs (Decidable (_ ∧ _))
def rd (b : List Nat) : Nat → Nat → Nat → List Nat → Option (List Nat × Nat)
 | 0, _, a, l => some (l, a)
 | k + 1, i, a, l => if (Mt.get b (a : Nat)).2.2 ≠ 0 ∨ Bad i (Mt.get b (a : Nat)).1 then none else rd b k (i + 1) (Mt.get b (a : Nat)).2.1 (l ++ [(Mt.get b (a : Nat)).1])
theorem rd_put : ∀ (ns : List Nat) (x y : List Nat) (i : Nat) (l : List Nat), (∀ n ∈ ns, Mt.B64 n) → (∀ j n, ns[j]? = some n → ¬ Bad (i + j) n) →
  rd (x ++ bys ns ++ y) ns.length i x.length l = some (l ++ ns, x.length + (bys ns).length) := by
 intro ns
 induction ns with
 | nil => intro x y i l _ _; simp [rd, bys]
 | cons n ns ih =>
  intro x y i l hB hbad
  have hg := Mt.get_put (hB n (by simp)) x (bys ns ++ y)
  have e : x ++ bys (n :: ns) ++ y = x ++ Mt.put n ++ (bys ns ++ y) := by simp [bys]
  rw [e, List.length_cons, rd, hg]
  rw [if_neg (by
   intro h
   rcases h with h | h
   ·exact h rfl
   ·exact hbad 0 n rfl (by simpa using h))]
  have hi := ih (x ++ Mt.put n) y (i + 1) (l ++ [n]) (fun m hm => hB m (by simp [hm])) (fun j m hm => by
   have := hbad (j + 1) m (by simpa using hm)
   rwa [show i + 1 + j = i + (j + 1) by omega])
  rw [List.length_append] at hi
  rw [show x ++ Mt.put n ++ (bys ns ++ y) = x ++ Mt.put n ++ bys ns ++ y by simp]
  show rd _ ns.length (i + 1) (x.length + (Mt.put n).length) (l ++ [n]) = _
  rw [hi]
  simp [bys, Nat.add_assoc]
def ofN (l : List Nat) : Root := ⟨l.getD 0 0, (l.getD 1 0 : Nat), (l.getD 2 0 : Nat), l.getD 3 0, l.getD 4 0, (l.getD 5 0 : Nat), (l.getD 6 0 : Nat)⟩
theorem ofN_nums {r : Root} (h : May r) : ofN (nums r) = r := by
 obtain ⟨h1, h2, h3, h4, h5, h6, h7, h8, h9, h10, h11, h12⟩ := h
 cases r with
 | mk a b c d e f g =>
  simp only at h3 h6 h9 h11
  simp only [nums, ofN, Root.mk.injEq]
  refine ⟨rfl, ?_, ?_, rfl, rfl, ?_, ?_⟩ <;> simp <;> omega
def putE (r : Root) : List Nat × Nat := if May r then Pg.putE ((r.seq % 2 : Nat) : Int) 1 (bys (nums r)) else ([], 2)
def getE (place : Int) (b : List Nat) : Root × Nat :=
 if place ≠ 0 ∧ place ≠ 1 then (zero, 2)
 else if (Pg.getE place b).2.2 ≠ 0 then (zero, (Pg.getE place b).2.2)
 else if (Pg.getE place b).1 ≠ 1 then (zero, 5)
 else match rd (Pg.getE place b).2.1 7 0 0 [] with
  | none => (zero, 5)
  | some (l, a) => if a = (Pg.getE place b).2.1.length ∧ May (ofN l) ∧ (((ofN l).seq % 2 : Nat) : Int) = place then (ofN l, 0) else (zero, 5)
def pickE (a b : List Nat) : Root × Nat :=
 if (getE 0 a).2 ≠ 0 ∧ (getE 1 b).2 ≠ 0 then (zero, 7)
 else if (getE 0 a).2 = 0 ∧ ((getE 1 b).2 ≠ 0 ∨ (getE 1 b).1.seq < (getE 0 a).1.seq) then ((getE 0 a).1, 0) else ((getE 1 b).1, 0)
section
variable {place : Int} {b c : List Nat} {k e : Nat}
theorem getE_arg (h : place ≠ 0 ∧ place ≠ 1) : getE place b = (zero, 2) := if_pos h
theorem getE_page (h : ¬ (place ≠ 0 ∧ place ≠ 1)) (hp : Pg.getE place b = (k, c, e)) (he : e ≠ 0) : getE place b = (zero, e) := by unfold getE; rw [if_neg h, hp, if_pos he]
theorem getE_kind (h : ¬ (place ≠ 0 ∧ place ≠ 1)) (hp : Pg.getE place b = (k, c, 0)) (hk : k ≠ 1) : getE place b = (zero, 5) := by unfold getE; rw [if_neg h, hp, if_neg (by simp), if_pos hk]
theorem getE_none (h : ¬ (place ≠ 0 ∧ place ≠ 1)) (hp : Pg.getE place b = (1, c, 0)) (hr : rd c 7 0 0 [] = none) : getE place b = (zero, 5) := by
 unfold getE; rw [if_neg h, hp, if_neg (by simp), if_neg (by simp)]; simp only [hr]
theorem getE_bad {l : List Nat} {a : Nat} (h : ¬ (place ≠ 0 ∧ place ≠ 1)) (hp : Pg.getE place b = (1, c, 0)) (hr : rd c 7 0 0 [] = some (l, a)) (hx : ¬ (a = c.length ∧ May (ofN l) ∧ (((ofN l).seq % 2 : Nat) : Int) = place)) : getE place b = (zero, 5) := by
 unfold getE; rw [if_neg h, hp, if_neg (by simp), if_neg (by simp)]; simp only [hr]; rw [if_neg hx]
theorem getE_ok {l : List Nat} {a : Nat} (h : ¬ (place ≠ 0 ∧ place ≠ 1)) (hp : Pg.getE place b = (1, c, 0)) (hr : rd c 7 0 0 [] = some (l, a)) (hx : a = c.length ∧ May (ofN l) ∧ (((ofN l).seq % 2 : Nat) : Int) = place) : getE place b = (ofN l, 0) := by
 unfold getE; rw [if_neg h, hp, if_neg (by simp), if_neg (by simp)]; simp only [hr]; rw [if_pos hx]
end
theorem nums_b64 {r : Root} (h : May r) : ∀ n ∈ nums r, Mt.B64 n := by
 obtain ⟨h1, h2, h3, h4, h5, h6, h7, h8, h9, h10, h11, h12⟩ := h
 intro n hn
 simp only [nums, List.mem_cons, List.not_mem_nil, or_false] at hn
 unfold Mt.B64
 rcases hn with rfl | rfl | rfl | rfl | rfl | rfl | rfl <;> omega
theorem nums_ok {r : Root} (h : May r) : ∀ j n, (nums r)[j]? = some n → ¬ Bad (0 + j) n := by
 obtain ⟨h1, h2, h3, h4, h5, h6, h7, h8, h9, h10, h11, h12⟩ := h
 intro j n hj
 unfold Bad
 match j with
 | 0 => omega
 | 1 => simp [nums] at hj; omega
 | 2 => simp [nums] at hj; omega
 | 3 => omega
 | 4 => simp [nums] at hj; omega
 | 5 => simp [nums] at hj; omega
 | 6 => simp [nums] at hj; omega
 | j + 7 => simp [nums] at hj
theorem put_page {r : Root} (h : May r) : ∃ P, Pg.putE ((r.seq % 2 : Nat) : Int) 1 (bys (nums r)) = (P, 0) ∧ putE r = (P, 0) ∧ getE ((r.seq % 2 : Nat) : Int) P = (r, 0) := by
 have hl := bys_len (nums r)
 have h7 : (nums r).length = 7 := rfl
 have hp := Pg.putE_ok (n := ((r.seq % 2 : Nat) : Int)) (k := 1) (b := bys (nums r)) (by omega) (by omega)
 refine ⟨_, hp, by unfold putE; rw [if_pos h, hp], ?_⟩
 have hg := (Pg.getE_put hp).1
 have hr := rd_put (nums r) [] [] 0 [] (nums_b64 h) (nums_ok h)
 rw [List.nil_append, List.append_nil, List.nil_append, List.length_nil, Nat.zero_add] at hr
 rw [getE_ok (by omega) hg hr ⟨rfl, by rw [ofN_nums h]; exact h, by rw [ofN_nums h]⟩, ofN_nums h]
theorem putE_no {r : Root} (h : ¬ May r) : putE r = ([], 2) := if_neg h
theorem one {r : Root} (h : May r) {P : List Nat} (hP : putE r = (P, 0)) {p y : Nat} (hp : p < 512) (hy : y < 256) (hne : P[p]? ≠ some y) : ∃ e, e ≠ 0 ∧ getE ((r.seq % 2 : Nat) : Int) (P.set p y) = (zero, e) := by
 unfold putE at hP
 rw [if_pos h] at hP
 have h1 := Pg.one (by omega) (bys_lt (nums_b64 h)) hP hp hy hne
 obtain ⟨⟨k, c, e⟩, hg⟩ : ∃ x, Pg.getE ((r.seq % 2 : Nat) : Int) (P.set p y) = x := ⟨_, rfl⟩
 rw [hg] at h1
 exact ⟨e, h1, getE_page (by omega) hg h1⟩
theorem page_len {r : Root} {P : List Nat} (hP : putE r = (P, 0)) : P.length = 512 ∧ May r := by
 unfold putE at hP
 by_cases h : May r
 ·rw [if_pos h] at hP
  obtain ⟨-, h1, h2, -, -⟩ := Pg.getE_put hP
  exact ⟨by rw [h1]; exact Pg.page_len h2, h⟩
 ·rw [if_neg h] at hP; simp at hP
theorem getE_zero {place : Int} {b : List Nat} {r : Root} {e : Nat} (h : getE place b = (r, e)) (he : e ≠ 0) : r = zero := by
 unfold getE at h
 split at h
 ·simp only [Prod.mk.injEq] at h; exact h.1.symm
 ·split at h
  ·simp only [Prod.mk.injEq] at h; exact h.1.symm
  ·split at h
   ·simp only [Prod.mk.injEq] at h; exact h.1.symm
   ·split at h
    ·simp only [Prod.mk.injEq] at h; exact h.1.symm
    ·split at h
     ·simp only [Prod.mk.injEq] at h; omega
     ·simp only [Prod.mk.injEq] at h; exact h.1.symm
theorem getE_may {place : Int} {b : List Nat} {r : Root} (h : getE place b = (r, 0)) : May r := by
 unfold getE at h
 split at h
 ·simp at h
 ·split at h
  ·rename_i h1 h2; simp only [Prod.mk.injEq] at h; exact absurd h.2 h2
  ·split at h
   ·simp at h
   ·split at h
    ·simp at h
    ·split at h
     ·rename_i h3; simp only [Prod.mk.injEq, and_true] at h; subst h; exact h3.2.1
     ·simp at h
end Go.Proofs.YtiafeniflkikeaaGreat.Rt
namespace Go.Proofs.YtiafeniflkikeaaGreat.Pa
structure Page where
 n : Nat
 state : Nat
 kind : Nat
 body : List Nat
 deriving DecidableEq
structure M where
 root : Rt.Root
 l : List Page
 size : Nat
def new : M := ⟨⟨1, 0, 2, 0, 1, 0, 0⟩, [], 1024⟩
def idx (l : List Page) (n : Int) : Option Nat := l.findIdx? (fun x => decide ((x.n : Int) = n))
def atI (l : List Page) (n : Int) : Int := match idx l n with
 | some i => (i : Int)
 | none => -1
def isOf (s o : Int) (x : Page) : Bool := decide ((x.state : Int) = s) || decide ((x.state : Int) = o)
def numbers (l : List Page) (s o : Int) : List Int := (l.filter (isOf s o)).map (fun x => (x.n : Int))
def find (l : List Page) (n : Int) : Option Page := (idx l n).bind (fun i => l[i]?)
def read (l : List Page) (n : Int) : Nat × List Nat × Nat := match find l n with
 | some x => (x.kind, x.body, 0)
 | none => (0, [], 7)
def gap : List Page → Nat → Nat
 | [], _ => 0
 | x :: l, c => if x.n = c then gap l (c + 1) + 1 else 0
def addL (l : List Page) (kind : Nat) (body : List Nat) : List Page := l.take (gap l 2) ++ ⟨2 + gap l 2, 2, kind, body⟩ :: l.drop (gap l 2)
def add (m : M) (kind : Nat) (body : List Nat) : M × Nat × Nat :=
 if 496 < body.length then (m, 0, 3) else if 65536 ≤ 2 + gap m.l 2 then (m, 0, 3) else ({ m with l := addL m.l kind body }, 2 + gap m.l 2, 0)
def dropL (l : List Page) (i : Nat) (x : Page) : List Page := if x.state = 2 then l.take i ++ l.drop (i + 1) else l.set i { x with state := 3 }
def drop (m : M) (n : Int) : M × Nat := match idx m.l n with
 | none => (m, 7)
 | some i => match m.l[i]? with
  | none => (m, 7)
  | some x => if x.state = 3 then (m, 7) else ({ m with l := dropL m.l i x }, 0)
def used (x : Page) : Page := { x with state := 1 }
def backL (l : List Page) : List Page := (l.filter (fun x => decide (x.state ≠ 2))).map used
def back (m : M) : M := { m with l := backL m.l }
def keep (l : List Page) : List Page := l.filter (fun x => decide (x.state ≠ 3))
def pages (l : List Page) : Int := l.foldl (fun p x => if x.state = 3 then p else (x.n : Int) + 1) 2
def sizeL (s : Nat) (l : List Page) : Nat := l.foldl (fun p x => if x.state = 2 then max p ((x.n + 1) * 512) else p) s
def there (l : List Page) (p : Int) : Bool := decide (p = 0) || (keep l).any (fun x => decide ((x.n : Int) = p))
def rootOf (m : M) (r : Rt.Root) : Rt.Root := { r with seq := (m.root.seq + 1) % 18446744073709551616, pages := pages m.l }
def commit (m : M) (r : Rt.Root) (free : Int) : M × Nat :=
 if there m.l r.page = false ∨ ¬ Rt.May (rootOf m r) then (m, 2)
 else if free < (sizeL m.size m.l : Int) - m.size then (m, 9)
 else (⟨rootOf m r, (keep m.l).map used, sizeL m.size m.l⟩, 0)
def Rising (l : List Page) : Prop := l.Pairwise (fun x y => x.n < y.n)
structure Ok (m : M) : Prop where
 root : Rt.May m.root
 rise : Rising m.l
 from2 : ∀ x ∈ m.l, 2 ≤ x.n ∧ x.n < 65536 ∧ (x.state = 1 ∨ x.state = 2 ∨ x.state = 3) ∧ x.kind < 256 ∧ x.body.length ≤ 496 ∧ ∀ y ∈ x.body, y < 256
theorem gap_le (l : List Page) : ∀ c, gap l c ≤ l.length := by
 induction l with
 | nil => intro c; simp [gap]
 | cons x l ih =>
  intro c
  unfold gap
  split
  ·have := ih (c + 1); simp; omega
  ·omega
theorem gap_at {l : List Page} : ∀ {c k : Nat}, (∀ i x, i < k → l[i]? = some x → x.n = c + i) → k ≤ l.length → (∀ x, l[k]? = some x → x.n ≠ c + k) → gap l c = k := by
 induction l with
 | nil => intro c k _ hk _; simp [gap]; simp at hk; omega
 | cons x l ih =>
  intro c k h1 hk h2
  unfold gap
  cases k with
  | zero =>
   have := h2 x rfl
   rw [if_neg (by simpa using this)]
  | succ k =>
   have := h1 0 x (by omega) rfl
   rw [if_pos (by simpa using this)]
   rw [ih (c := c + 1) (k := k) (fun i y hi hy => by have := h1 (i + 1) y (by omega) (by simpa using hy); omega) (by simpa using hk) (fun y hy => by have := h2 y (by simpa using hy); omega)]
theorem idx_at {l : List Page} {n : Int} {k : Nat} {x : Page} (h0 : ∀ y ∈ l.take k, (y.n : Int) ≠ n) (hx : l[k]? = some x) (hs : (x.n : Int) = n) : idx l n = some k := by
 unfold idx
 rw [List.findIdx?_eq_some_iff_getElem]
 have hk := (List.getElem?_eq_some_iff.1 hx).1
 refine ⟨hk, ?_, fun j hj => ?_⟩
 ·rw [List.getElem?_eq_getElem hk] at hx
  rw [Option.some.inj hx]
  simpa using hs
 ·have := h0 l[j] (List.mem_take_iff_getElem.2 ⟨j, by omega, rfl⟩)
  simpa using this
theorem idx_none {l : List Page} {n : Int} (h : ∀ y ∈ l, (y.n : Int) ≠ n) : idx l n = none := by
 unfold idx
 rw [List.findIdx?_eq_none_iff]
 intro x hx
 simpa using h x hx
theorem idx_lt {l : List Page} {n : Int} {i : Nat} (h : idx l n = some i) : ∃ x, l[i]? = some x ∧ (x.n : Int) = n := by
 unfold idx at h
 rw [List.findIdx?_eq_some_iff_getElem] at h
 obtain ⟨hk, hx, _⟩ := h
 exact ⟨l[i], List.getElem?_eq_getElem hk, by simpa using hx⟩
theorem backL_snoc (l : List Page) (x : Page) : backL (l ++ [x]) = if x.state = 2 then backL l else backL l ++ [used x] := by
 unfold backL
 rw [List.filter_append]
 by_cases h : x.state = 2 <;> simp [h]
theorem keep_snoc (l : List Page) (x : Page) : keep (l ++ [x]) = if x.state = 3 then keep l else keep l ++ [x] := by
 unfold keep
 rw [List.filter_append]
 by_cases h : x.state = 3 <;> simp [h]
theorem pages_snoc (l : List Page) (x : Page) : pages (l ++ [x]) = if x.state = 3 then pages l else (x.n : Int) + 1 := by unfold pages; simp [List.foldl_append]
theorem sizeL_snoc (s : Nat) (l : List Page) (x : Page) : sizeL s (l ++ [x]) = if x.state = 2 then max (sizeL s l) ((x.n + 1) * 512) else sizeL s l := by unfold sizeL; simp [List.foldl_append]
theorem there_snoc (l : List Page) (x : Page) (p : Int) : there (l ++ [x]) p = if x.state = 3 then there l p else (there l p || decide ((x.n : Int) = p)) := by
 unfold there
 rw [keep_snoc]
 by_cases h : x.state = 3 <;> simp [h, Bool.or_assoc]
end Go.Proofs.YtiafeniflkikeaaGreat.Pa
namespace Go.Proofs.YtiafeniflkikeaaGreat
open Go.RowKit
set_option linter.unusedVariables false
def Rw (w : World) (g : Nat) (t : TypeId) (c : Array Value) : Prop := w.heap[g]? = some (.cells c t (0, 0))
section
variable {w w' : World} {g k : Nat} {t : TypeId} {c : Array Value} {v : Value}
theorem Rw.lt (h : Rw w g t c) : g < w.heap.size := (Array.getElem?_eq_some_iff.1 h).1
theorem Rw.cell (h : Rw w g t c) (k : Nat) : w.cell? ⟨g, k, none⟩ = c[k]? := cell_of_row w g k c t (0, 0) h
theorem Rw.frozen (h : Rw w g t c) (k : Nat) : w.frozen? ⟨g, k, none⟩ = false := by
 have h' : w.heap[g]? = some (.cells c t (0, 0)) := h
 simp [World.frozen?, h']
theorem Rw.below (h : Rw w g t c) {B : Nat} (hb : Below B w w') (hB : g < B) : Rw w' g t c := (hb.block g hB).trans h
theorem Rw.drew (h : Rw w g t c) : Rw w.drew g t c := h
theorem Rw.new (w : World) (t : TypeId) (c : Array Value) : Rw (w.alloc (.cells c t)) w.heap.size t c := heap_alloc_new w _
theorem Rw.at_ {n : Nat} (h : n = w.heap.size) (t : TypeId) (c : Array Value) : Rw (w.alloc (.cells c t)) n t c := by subst h; exact Rw.new w t c
theorem Rw.old (h : Rw w g t c) (o : Obj) : Rw (w.alloc o) g t c := by
 show (w.heap.push o)[g]? = _
 have := h.lt
 rw [Array.getElem?_push, if_neg (by omega)]
 exact h
theorem Rw.set (h : Rw w g t c) (k : Nat) (v : Value) : Rw (w.setCell ⟨g, k, none⟩ v) g t (c.setIfInBounds k v) := by
 unfold Rw
 rw [setCell_eq_setRow w g k c t (0, 0) v h]
 exact setRow_heap w g c _ t (0, 0) h
theorem Rw.setOther (h : Rw w g t c) {g' : Nat} (hg : g ≠ g') (k : Nat) (v : Value) : Rw (w.setCell ⟨g', k, none⟩ v) g t c := by
 unfold Rw World.setCell at *
 simp only [Array.getElem?_modify, Ne.symm hg, if_false]
 exact h
theorem Rw.row (h : Rw w g t c) (c' : Array Value) : Rw (w.setRow g c') g t c' := setRow_heap w g c c' t (0, 0) h
theorem Rw.rowOther (h : Rw w g t c) {g' : Nat} (hg : g ≠ g') (c' : Array Value) : Rw (w.setRow g' c') g t c := (setRow_other w g' g c' hg).trans h
end
end Go.Proofs.YtiafeniflkikeaaGreat
namespace Go.Proofs.YtiafeniflkikeaaGreat
open Go.RowKit
set_option linter.unusedVariables false
def BxT (T : TypeId) (w : World) (B g : Nat) (C : Array Value) : Prop := g < B ∧ Rw w g T C
section
variable {T : TypeId} {w w' W : World} {B B' g : Nat} {C N : Array Value}
theorem BxT.below_ (h : BxT T w B g C) (hb : Below B' w w') (hB : B ≤ B') : BxT T w' B g C := ⟨h.1, h.2.below hb (Nat.lt_of_lt_of_le h.1 hB)⟩
theorem bxt_stored (hX : (w.alloc (.cells N T)).setRow w.heap.size C = W) : BxT T W W.heap.size w.heap.size C ∧ Below w.heap.size w W := by
 subst hX
 have h1 : Rw (w.alloc (.cells N T)) w.heap.size T N := Rw.new w _ _
 exact ⟨⟨(h1.row C).lt, h1.row C⟩, below_setRow ((Below.refl _ _).alloc (Nat.le_refl _) _) (Nat.le_refl _) _⟩
theorem bxt_new (hW : w.alloc (.cells C T) = W) : BxT T W W.heap.size w.heap.size C ∧ Below w.heap.size w W := by
 subst hW
 exact ⟨⟨by simp, Rw.new w _ _⟩, (Below.refl _ _).alloc (Nat.le_refl _) _⟩
end
theorem wpList_load_row_onT {P : Program} {ops : Array Oper} {rest : List Oper} {o : Oper} {a : Act} {w : World} {Q : Exit → Act → World → Prop} (hw : Region.wanted o (yielded ops a.tmps) = true) (ty : TypeId) (x : Operand) (ho : o.op = .load ty x)
  (g : Nat) (hx : a.eval x = .pointer (some ⟨g, 0, none⟩)) (t : TypeId) (cs : Array Value) (fr : Nat × Nat) (d : TypeDesc)
  (hg : w.heap[g]? = some (.cells cs t fr)) (hu : P.underlying ty = some d) (hd : (match d with | .struct _ | .array _ _ => true | _ => false) = true) (hi : (P.info? ty).map (·.size) = some cs.size)
  (h : wpList P ops Q rest (a.put o.dst (.agg cs)) w) : wpList P ops Q (o :: rest) a w :=
 wpList_step fun K hK => by
  rw [if_pos hw]
  exact wp_load_row ty x ho g hx t cs fr d hg hu hd hi (hK _ _ h)
theorem wpList_build_atT {P : Program} {ops : Array Oper} {rest : List Oper} {o : Oper} {a : Act} {w : World} {Q : Exit → Act → World → Prop} (hg : o.guard = none) (t : TypeId) (parts : Array (Nat × Operand)) (ho : o.op = .build t parts) (c : Array Value)
  (hf : P.built t (parts.map fun (i, x) => (i, a.eval x)).toList = some c)
  (h : wpList P ops Q rest (a.put o.dst (.agg c)) w) : wpList P ops Q (o :: rest) a w :=
 wpList_build hg t parts ho (by rw [hf]; rfl) (by rw [hf]; exact h)
theorem exec_build {P : Program} {a : Act} {o : Oper} (t : TypeId) (parts : Array (Nat × Operand)) (ho : o.op = .build t parts) (c : Array Value) (w : World)
  (hf : P.built t (parts.map fun (i, x) => (i, a.eval x)).toList = some c) : (execOp a.eval o).run P w = .ok (.value (.agg c)) w := by
 unfold execOp
 simp only [ho, Sem.run_bind, run_build w t _ c hf, Result.andThen_ok]
 rfl
end Go.Proofs.YtiafeniflkikeaaGreat
