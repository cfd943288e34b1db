/- Parts of the proof. -/
import Derived.Test.YtiafeniflkikeaaGreatPn08
import Derived.Test.YtiafeniflkikeaaGreatPn01
namespace Go.Proofs.YtiafeniflkikeaaGreat.Pg
theorem four_inj {m n : Nat} (hm : Cr.B32 m) (hn : Cr.B32 n) (h : four m = four n) : m = n := by
 have h1 := le_four hm
 rw [h, le_four hn] at h1
 exact h1.symm
theorem near {n : Int} {k : Nat} {b P Q : List Nat} (hk : k < 256) (hb : ∀ x ∈ b, x < 256) (h : putE n k b = (P, 0)) (hQ8 : ∀ x ∈ Q, x < 256) {p : Nat} (hp : p ≤ 508)
  (hat : ∀ i, ¬ (p ≤ i ∧ i < p + 4) → Q[i]? = P[i]?) (h0 : (getE n Q).2.2 = 0) : Q = P := by
 obtain ⟨hg, hP, hb4, hn0, hn1⟩ := getE_put h
 have hl : P.length = 512 := by rw [hP]; exact page_len hb4
 have hP8 : ∀ x ∈ P, x < 256 := by rw [hP]; exact page_lt hk hb
 obtain ⟨⟨k', c, e⟩, hq⟩ : ∃ r, getE n Q = r := ⟨_, rfl⟩
 rw [hq] at h0
 simp only at h0
 subst h0
 have hpq := putE_get hq
 obtain ⟨-, hQ, hc4, -, -⟩ := getE_put hpq
 have hQl : Q.length = 512 := by rw [hQ]; exact page_len hc4
 have tP : P.take 4 = four (Cr.of (P.drop 4)) := by rw [hP, page_take, page_drop]
 have tQ : Q.take 4 = four (Cr.of (Q.drop 4)) := by rw [hQ, page_take, page_drop]
 have dP8 : ∀ x ∈ P.drop 4, x < 256 := fun x hx => hP8 x (List.mem_of_mem_drop hx)
 have dQ8 : ∀ x ∈ Q.drop 4, x < 256 := fun x hx => hQ8 x (List.mem_of_mem_drop hx)
 by_cases h4 : 4 ≤ p
 ·have e1 : Q.take 4 = P.take 4 := by
   apply List.ext_getElem?
   intro i
   rw [List.getElem?_take, List.getElem?_take]
   by_cases hi : i < 4
   ·rw [if_pos hi, if_pos hi, hat i (by omega)]
   ·rw [if_neg hi, if_neg hi]
  have e2 : Cr.of (Q.drop 4) = Cr.of (P.drop 4) := four_inj (Cr.of_b32 dQ8) (Cr.of_b32 dP8) (by rw [← tQ, ← tP, e1])
  have e3 := (Cr.of_near dQ8 dP8 (by simp [hQl, hl]) (p := p - 4) (k := 4) (Nat.le_refl _) (by
   apply List.ext_getElem?
   intro i
   rw [List.getElem?_take, List.getElem?_take]
   by_cases hi : i < p - 4
   ·rw [if_pos hi, if_pos hi, List.getElem?_drop, List.getElem?_drop, hat (4 + i) (by omega)]
   ·rw [if_neg hi, if_neg hi]) (by
   apply List.ext_getElem?
   intro i
   rw [List.getElem?_drop, List.getElem?_drop, List.getElem?_drop, List.getElem?_drop, hat _ (by omega)])).1 e2
  rw [← List.take_append_drop 4 Q, e1, e3, List.take_append_drop]
 ·have num : ∀ i, i < 4 → Q.getD (4 + i) 0 = P.getD (4 + i) 0 := fun i hi => by
   rw [hQ, hP, page_at _ _ _ (by omega), page_at _ _ _ (by omega)]
   have : i = 0 ∨ i = 1 ∨ i = 2 ∨ i = 3 := by omega
   rcases this with rfl | rfl | rfl | rfl <;> rfl
  have e3 : Q.drop 4 = P.drop 4 := by
   apply List.ext_getElem?
   intro i
   rw [List.getElem?_drop, List.getElem?_drop]
   by_cases hi : i < 4
   ·have h1 := num i hi
    rw [List.getD_eq_getElem?_getD, List.getD_eq_getElem?_getD, List.getElem?_eq_getElem (show 4 + i < Q.length by omega), List.getElem?_eq_getElem (show 4 + i < P.length by omega)] at h1
    rw [List.getElem?_eq_getElem (show 4 + i < Q.length by omega), List.getElem?_eq_getElem (show 4 + i < P.length by omega)]
    simpa using h1
   ·rw [hat (4 + i) (by omega)]
  have e1 : Q.take 4 = P.take 4 := by rw [tQ, tP, e3]
  rw [← List.take_append_drop 4 Q, e1, e3, List.take_append_drop]
theorem one {n : Int} {k : Nat} {b P : List Nat} (hk : k < 256) (hb : ∀ x ∈ b, x < 256) (h : putE n k b = (P, 0)) {p y : Nat} (hp : p < 512) (hy : y < 256) (hne : P[p]? ≠ some y) :
  (getE n (P.set p y)).2.2 ≠ 0 := by
 intro h0
 obtain ⟨-, hP, hb4, -, -⟩ := getE_put h
 have hl : P.length = 512 := by rw [hP]; exact page_len hb4
 have hP8 : ∀ x ∈ P, x < 256 := by rw [hP]; exact page_lt hk hb
 have hQ8 : ∀ x ∈ P.set p y, x < 256 := fun x hx => by
  rcases List.mem_or_eq_of_mem_set hx with h | rfl
  ·exact hP8 x h
  ·exact hy
 have e := near (p := min p 508) hk hb h hQ8 (by omega) (fun i hi => by rw [List.getElem?_set, if_neg (by omega)]) h0
 apply hne
 rw [← e, List.getElem?_set, if_pos rfl, if_pos (by omega)]
theorem nz0 : Cr.raw 4294967295 (List.replicate 64 0) = 4231468184 := by decide +kernel
theorem nz1 : Cr.raw 4231468184 (List.replicate 64 0) = 4158167844 := by decide +kernel
theorem nz2 : Cr.raw 4158167844 (List.replicate 64 0) = 2345306063 := by decide +kernel
theorem nz3 : Cr.raw 2345306063 (List.replicate 64 0) = 1200442991 := by decide +kernel
theorem nz4 : Cr.raw 1200442991 (List.replicate 64 0) = 64332339 := by decide +kernel
theorem nz5 : Cr.raw 64332339 (List.replicate 64 0) = 1158271177 := by decide +kernel
theorem nz6 : Cr.raw 1158271177 (List.replicate 64 0) = 3425213895 := by decide +kernel
theorem nz7 : Cr.raw 3425213895 (List.replicate 60 0) = 329799228 := by decide +kernel
theorem noughts_raw : Cr.raw 4294967295 (List.replicate 508 0) = 329799228 := by
 have e : ∀ j : Nat, List.replicate (64 + j) 0 = List.replicate 64 0 ++ List.replicate j 0 := fun j => (List.replicate_append_replicate ..).symm
 rw [show 508 = 64 + 444 from rfl, e, Cr.raw_append, nz0, show 444 = 64 + 380 from rfl, e, Cr.raw_append, nz1, show 380 = 64 + 316 from rfl, e, Cr.raw_append, nz2, show 316 = 64 + 252 from rfl, e, Cr.raw_append, nz3, show 252 = 64 + 188 from rfl, e, Cr.raw_append, nz4, show 188 = 64 + 124 from rfl, e, Cr.raw_append, nz5, show 124 = 64 + 60 from rfl, e, Cr.raw_append, nz6, nz7]
theorem noughts_sum : four (Cr.of (List.replicate 508 0)) ≠ [0, 0, 0, 0] := by
 intro h
 have h32 : Cr.B32 (Cr.of (List.replicate 508 0)) := Cr.of_b32 (fun x hx => by rw [List.eq_of_mem_replicate hx]; omega)
 have h0 := four_inj h32 Cr.zero_b32 (h.trans (by decide))
 rw [Cr.of_eq, Cr.ones_eq, noughts_raw, Cr.flip_eq, Cr.ones_eq] at h0
 exact absurd h0 (by decide)
theorem noughts (n : Int) : (getE n (List.replicate 512 0)).2.2 ≠ 0 := by
 intro h
 obtain ⟨⟨k', c, e⟩, hq⟩ : ∃ r, getE n (List.replicate 512 0) = r := ⟨_, rfl⟩
 rw [hq] at h
 simp only at h
 subst h
 obtain ⟨-, hQ, hc4, -, -⟩ := getE_put (putE_get hq)
 have t : (List.replicate 512 0).take 4 = four (Cr.of ((List.replicate 512 0).drop 4)) := by rw [hQ, page_take, page_drop]
 rw [List.drop_replicate, List.take_replicate] at t
 exact noughts_sum t.symm
end Go.Proofs.YtiafeniflkikeaaGreat.Pg
namespace Go.Proofs.YtiafeniflkikeaaGreat.Mt
theorem get_put {n : Nat} (hn : B64 n) (x y : List Nat) : get (x ++ put n ++ y) (x.length : Nat) = (n, x.length + (put n).length, 0) := by
 refine get_ok (by simp) ?_
 rw [List.append_assoc, List.drop_left]
 exact rd_put hn y
end Go.Proofs.YtiafeniflkikeaaGreat.Mt
namespace Go.Proofs.YtiafeniflkikeaaGreat.Mt
theorem rd_cases (f : Nat) : ∀ (i X : Nat) (s : List Nat), i + f = 9 → (∃ n k, rd i X s = (n, k, 0)) ∨ rd i X s = (0, 0, 4) ∨ rd i X s = (0, 0, 5) := by
 induction f with
 | zero =>
  intro i X s hi
  cases s with
  | nil => right; left; rfl
  | cons c r =>
   rw [rd]
   split
   ·right; right; rfl
   ·rw [if_pos (by omega)]; left; exact ⟨_, _, rfl⟩
 | succ f ih =>
  intro i X s hi
  cases s with
  | nil => right; left; rfl
  | cons c r =>
   rw [rd]
   split
   ·right; right; rfl
   ·by_cases h : c < 128
    ·rw [if_pos h]; left; exact ⟨_, _, rfl⟩
    ·rw [if_neg h]; exact ih (i + 1) _ r (by omega)
theorem get_cases {l : List Nat} (hl : ∀ x ∈ l, x < 256) (a : Int) :
  (∃ e, 2 ≤ e ∧ e ≤ 5 ∧ get l a = (0, 0, e)) ∨
  (∃ (k n : Nat) (r : List Nat), a = (k : Int) ∧ k < l.length ∧ B64 n ∧ l.drop k = put n ++ r ∧ k + (put n).length ≤ l.length ∧ get l a = (n, k + (put n).length, 0)) := by
 by_cases h : a < 0 ∨ (l.length : Int) < a
 ·exact .inl ⟨2, by omega, by omega, get_arg h⟩
 ·obtain ⟨k, rfl⟩ := Int.eq_ofNat_of_zero_le (show 0 ≤ a by omega)
  have hk : k ≤ l.length := by omega
  rcases rd_cases 9 0 0 (l.drop k) rfl with ⟨n, m, hr⟩ | hr | hr
  ·obtain ⟨hb, hm, r, hs⟩ := rd_ok (fun x hx => hl x (List.mem_of_mem_drop hx)) hr
   have hlen := congrArg List.length hs
   have hp := put_len_pos n
   rw [List.length_drop, List.length_append] at hlen
   refine .inr ⟨k, n, r, rfl, by omega, hb, hs, by omega, ?_⟩
   rw [get_ok hk hr, hm]
  ·exact .inl ⟨4, by omega, by omega, get_err hk hr (by decide)⟩
  ·exact .inl ⟨5, by omega, by omega, get_err hk hr (by decide)⟩
end Go.Proofs.YtiafeniflkikeaaGreat.Mt
namespace Go.Proofs.YtiafeniflkikeaaGreat.Rt
structure Root where
 seq : Nat
 page : Int
 pages : Int
 lsn : Nat
 next : Nat
 shard : Int
 tail : Int
 deriving DecidableEq
def zero : Root := ⟨0, 0, 0, 0, 0, 0, 0⟩
def May (r : Root) : Prop :=
 1 ≤ r.seq ∧ r.seq ≤ 4611686018427387904 ∧ 2 ≤ r.pages ∧ r.pages ≤ 65536 ∧ r.lsn ≤ 4611686018427387904 ∧ (r.page = 0 ∨ 2 ≤ r.page ∧ r.page ≤ r.pages - 1) ∧
 1 ≤ r.next ∧ r.next ≤ 4294967296 ∧ 0 ≤ r.shard ∧ r.shard ≤ 2147483647 ∧ 0 ≤ r.tail ∧ r.tail ≤ 1048576
instance (r : Root) : Decidable (May r) := inferInstanceAs (Decidable (_ ∧ _))
def nums (r : Root) : List Nat := [r.seq, r.page.toNat, r.pages.toNat, r.lsn, r.next, r.shard.toNat, r.tail.toNat]
def bys : List Nat → List Nat
 | [] => []
 | n :: l => Mt.put n ++ bys l
theorem bys_snoc (l : List Nat) (n : Nat) : bys (l ++ [n]) = bys l ++ Mt.put n := by
 induction l with
 | nil => simp [bys]
 | cons x l ih => simp [bys, ih]
theorem bys_len (l : List Nat) : (bys l).length ≤ 10 * l.length := by
 induction l with
 | nil => simp [bys]
 | cons x l ih => simp only [bys, List.length_append, List.length_cons]; have := Mt.put_len_le x; omega
theorem bys_lt {l : List Nat} (h : ∀ n ∈ l, Mt.B64 n) : ∀ x ∈ bys l, x < 256 := by
 induction l with
 | nil => intro x hx; cases hx
 | cons n l ih =>
  intro x hx
  rcases List.mem_append.1 hx with h1 | h1
  ·exact Mt.put_lt (h n (by simp)) x h1
  ·exact ih (fun m hm => h m (by simp [hm])) x h1
def Bad (i n : Nat) : Prop := i ≠ 0 ∧ i ≠ 3 ∧ 8589934592 < n
instance (i n : Nat) : Decidable (Bad i n) := inferInstanceAs (Decidable (_ ∧ _))
def rd (b : List Nat) : Nat → Nat → Nat → List Nat → Option (List Nat × Nat)
 | 0, _, a, l => some (l, a)
 | k + 1, i, a, l => if (Mt.get b (a : Nat)).2.2 ≠ 0 ∨ Bad i (Mt.get b (a : Nat)).1 then none else rd b k (i + 1) (Mt.get b (a : Nat)).2.1 (l ++ [(Mt.get b (a : Nat)).1])
theorem rd_put : ∀ (ns : List Nat) (x y : List Nat) (i : Nat) (l : List Nat), (∀ n ∈ ns, Mt.B64 n) → (∀ j n, ns[j]? = some n → ¬ Bad (i + j) n) →
  rd (x ++ bys ns ++ y) ns.length i x.length l = some (l ++ ns, x.length + (bys ns).length) := by
 intro ns
 induction ns with
 | nil => intro x y i l _ _; simp [rd, bys]
 | cons n ns ih =>
  intro x y i l hB hbad
  have hg := Mt.get_put (hB n (by simp)) x (bys ns ++ y)
  have e : x ++ bys (n :: ns) ++ y = x ++ Mt.put n ++ (bys ns ++ y) := by simp [bys]
  rw [e, List.length_cons, rd, hg]
  rw [if_neg (by
   intro h
   rcases h with h | h
   ·exact h rfl
   ·exact hbad 0 n rfl (by simpa using h))]
  have hi := ih (x ++ Mt.put n) y (i + 1) (l ++ [n]) (fun m hm => hB m (by simp [hm])) (fun j m hm => by
   have := hbad (j + 1) m (by simpa using hm)
   rwa [show i + 1 + j = i + (j + 1) by omega])
  rw [List.length_append] at hi
  rw [show x ++ Mt.put n ++ (bys ns ++ y) = x ++ Mt.put n ++ bys ns ++ y by simp]
  show rd _ ns.length (i + 1) (x.length + (Mt.put n).length) (l ++ [n]) = _
  rw [hi]
  simp [bys, Nat.add_assoc]
def ofN (l : List Nat) : Root := ⟨l.getD 0 0, (l.getD 1 0 : Nat), (l.getD 2 0 : Nat), l.getD 3 0, l.getD 4 0, (l.getD 5 0 : Nat), (l.getD 6 0 : Nat)⟩
theorem ofN_nums {r : Root} (h : May r) : ofN (nums r) = r := by
 obtain ⟨h1, h2, h3, h4, h5, h6, h7, h8, h9, h10, h11, h12⟩ := h
 cases r with
 | mk a b c d e f g =>
  simp only at h3 h6 h9 h11
  simp only [nums, ofN, Root.mk.injEq]
  refine ⟨rfl, ?_, ?_, rfl, rfl, ?_, ?_⟩ <;> simp <;> omega
def putE (r : Root) : List Nat × Nat := if May r then Pg.putE ((r.seq % 2 : Nat) : Int) 1 (bys (nums r)) else ([], 2)
def getE (place : Int) (b : List Nat) : Root × Nat :=
 if place ≠ 0 ∧ place ≠ 1 then (zero, 2)
 else if (Pg.getE place b).2.2 ≠ 0 then (zero, (Pg.getE place b).2.2)
 else if (Pg.getE place b).1 ≠ 1 then (zero, 5)
 else match rd (Pg.getE place b).2.1 7 0 0 [] with
  | none => (zero, 5)
  | some (l, a) => if a = (Pg.getE place b).2.1.length ∧ May (ofN l) ∧ (((ofN l).seq % 2 : Nat) : Int) = place then (ofN l, 0) else (zero, 5)
def pickE (a b : List Nat) : Root × Nat :=
 if (getE 0 a).2 ≠ 0 ∧ (getE 1 b).2 ≠ 0 then (zero, 7)
 else if (getE 0 a).2 = 0 ∧ ((getE 1 b).2 ≠ 0 ∨ (getE 1 b).1.seq < (getE 0 a).1.seq) then ((getE 0 a).1, 0) else ((getE 1 b).1, 0)
section
variable {place : Int} {b c : List Nat} {k e : Nat}
theorem getE_arg (h : place ≠ 0 ∧ place ≠ 1) : getE place b = (zero, 2) := if_pos h
theorem getE_page (h : ¬ (place ≠ 0 ∧ place ≠ 1)) (hp : Pg.getE place b = (k, c, e)) (he : e ≠ 0) : getE place b = (zero, e) := by unfold getE; rw [if_neg h, hp, if_pos he]
theorem getE_kind (h : ¬ (place ≠ 0 ∧ place ≠ 1)) (hp : Pg.getE place b = (k, c, 0)) (hk : k ≠ 1) : getE place b = (zero, 5) := by unfold getE; rw [if_neg h, hp, if_neg (by simp), if_pos hk]
theorem getE_none (h : ¬ (place ≠ 0 ∧ place ≠ 1)) (hp : Pg.getE place b = (1, c, 0)) (hr : rd c 7 0 0 [] = none) : getE place b = (zero, 5) := by
 unfold getE; rw [if_neg h, hp, if_neg (by simp), if_neg (by simp)]; simp only [hr]
theorem getE_bad {l : List Nat} {a : Nat} (h : ¬ (place ≠ 0 ∧ place ≠ 1)) (hp : Pg.getE place b = (1, c, 0)) (hr : rd c 7 0 0 [] = some (l, a)) (hx : ¬ (a = c.length ∧ May (ofN l) ∧ (((ofN l).seq % 2 : Nat) : Int) = place)) : getE place b = (zero, 5) := by
 unfold getE; rw [if_neg h, hp, if_neg (by simp), if_neg (by simp)]; simp only [hr]; rw [if_neg hx]
theorem getE_ok {l : List Nat} {a : Nat} (h : ¬ (place ≠ 0 ∧ place ≠ 1)) (hp : Pg.getE place b = (1, c, 0)) (hr : rd c 7 0 0 [] = some (l, a)) (hx : a = c.length ∧ May (ofN l) ∧ (((ofN l).seq % 2 : Nat) : Int) = place) : getE place b = (ofN l, 0) := by
 unfold getE; rw [if_neg h, hp, if_neg (by simp), if_neg (by simp)]; simp only [hr]; rw [if_pos hx]
end
theorem nums_b64 {r : Root} (h : May r) : ∀ n ∈ nums r, Mt.B64 n := by
 obtain ⟨h1, h2, h3, h4, h5, h6, h7, h8, h9, h10, h11, h12⟩ := h
 intro n hn
 simp only [nums, List.mem_cons, List.not_mem_nil, or_false] at hn
 unfold Mt.B64
 rcases hn with rfl | rfl | rfl | rfl | rfl | rfl | rfl <;> omega
theorem nums_ok {r : Root} (h : May r) : ∀ j n, (nums r)[j]? = some n → ¬ Bad (0 + j) n := by
 obtain ⟨h1, h2, h3, h4, h5, h6, h7, h8, h9, h10, h11, h12⟩ := h
 intro j n hj
 unfold Bad
 match j with
 | 0 => omega
 | 1 => simp [nums] at hj; omega
 | 2 => simp [nums] at hj; omega
 | 3 => omega
 | 4 => simp [nums] at hj; omega
 | 5 => simp [nums] at hj; omega
 | 6 => simp [nums] at hj; omega
 | j + 7 => simp [nums] at hj
theorem put_page {r : Root} (h : May r) : ∃ P, Pg.putE ((r.seq % 2 : Nat) : Int) 1 (bys (nums r)) = (P, 0) ∧ putE r = (P, 0) ∧ getE ((r.seq % 2 : Nat) : Int) P = (r, 0) := by
 have hl := bys_len (nums r)
 have h7 : (nums r).length = 7 := rfl
 have hp := Pg.putE_ok (n := ((r.seq % 2 : Nat) : Int)) (k := 1) (b := bys (nums r)) (by omega) (by omega)
 refine ⟨_, hp, by unfold putE; rw [if_pos h, hp], ?_⟩
 have hg := (Pg.getE_put hp).1
 have hr := rd_put (nums r) [] [] 0 [] (nums_b64 h) (nums_ok h)
 rw [List.nil_append, List.append_nil, List.nil_append, List.length_nil, Nat.zero_add] at hr
 rw [getE_ok (by omega) hg hr ⟨rfl, by rw [ofN_nums h]; exact h, by rw [ofN_nums h]⟩, ofN_nums h]
theorem putE_no {r : Root} (h : ¬ May r) : putE r = ([], 2) := if_neg h
theorem one {r : Root} (h : May r) {P : List Nat} (hP : putE r = (P, 0)) {p y : Nat} (hp : p < 512) (hy : y < 256) (hne : P[p]? ≠ some y) : ∃ e, e ≠ 0 ∧ getE ((r.seq % 2 : Nat) : Int) (P.set p y) = (zero, e) := by
 unfold putE at hP
 rw [if_pos h] at hP
 have h1 := Pg.one (by omega) (bys_lt (nums_b64 h)) hP hp hy hne
 obtain ⟨⟨k, c, e⟩, hg⟩ : ∃ x, Pg.getE ((r.seq % 2 : Nat) : Int) (P.set p y) = x := ⟨_, rfl⟩
 rw [hg] at h1
 exact ⟨e, h1, getE_page (by omega) hg h1⟩
theorem page_len {r : Root} {P : List Nat} (hP : putE r = (P, 0)) : P.length = 512 ∧ May r := by
 unfold putE at hP
 by_cases h : May r
 ·rw [if_pos h] at hP
  obtain ⟨-, h1, h2, -, -⟩ := Pg.getE_put hP
  exact ⟨by rw [h1]; exact Pg.page_len h2, h⟩
 ·rw [if_neg h] at hP; simp at hP
theorem getE_zero {place : Int} {b : List Nat} {r : Root} {e : Nat} (h : getE place b = (r, e)) (he : e ≠ 0) : r = zero := by
 unfold getE at h
 split at h
 ·simp only [Prod.mk.injEq] at h; exact h.1.symm
 ·split at h
  ·simp only [Prod.mk.injEq] at h; exact h.1.symm
  ·split at h
   ·simp only [Prod.mk.injEq] at h; exact h.1.symm
   ·split at h
    ·simp only [Prod.mk.injEq] at h; exact h.1.symm
    ·split at h
     ·simp only [Prod.mk.injEq] at h; omega
     ·simp only [Prod.mk.injEq] at h; exact h.1.symm
theorem getE_may {place : Int} {b : List Nat} {r : Root} (h : getE place b = (r, 0)) : May r := by
 unfold getE at h
 split at h
 ·simp at h
 ·split at h
  ·rename_i h1 h2; simp only [Prod.mk.injEq] at h; exact absurd h.2 h2
  ·split at h
   ·simp at h
   ·split at h
    ·simp at h
    ·split at h
     ·rename_i h3; simp only [Prod.mk.injEq, and_true] at h; subst h; exact h3.2.1
     ·simp at h
end Go.Proofs.YtiafeniflkikeaaGreat.Rt
