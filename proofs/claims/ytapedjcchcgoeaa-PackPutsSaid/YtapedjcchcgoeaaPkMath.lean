/-
  Plain mathematics of chapter 12 (pack): numbers with a sign as such without one, rows as bytes.
-/
import Derived.Test.YtapedjcchcgoeaaPut
import Derived.Test.YtapedjcchcgoeaaKInt
import Derived.Test.YtapedjcchcgoeaaMathE
namespace Go.Proofs.Ytapedjcchcgoeaa.Pk
def fold (n : Int) : Nat := if 0 ≤ n then 2 * n.toNat else 2 * (-(n + 1)).toNat + 1
def unfold (u : Nat) : Int := if u % 2 = 0 then ((u / 2 : Nat) : Int) else -((u / 2 : Nat) : Int) - 1
theorem unfold_fold (n : Int) : unfold (fold n) = n := by unfold unfold fold; split <;> split <;> omega
theorem fold_unfold (u : Nat) : fold (unfold u) = u := by unfold unfold fold; split <;> split <;> omega
theorem fold_lt {n : Int} (h : I64 n) : fold n < 18446744073709551616 := by unfold I64 at h; unfold fold; split <;> omega
theorem unfold_i64 {u : Nat} (h : u < 18446744073709551616) : I64 (unfold u) := by unfold I64 unfold; split <;> omega
/-- The bytes of tokens behind one. -/
def bytes (was : Int) : List Int → List Nat
  | [] => []
  | t :: r => Mt.put (fold (t - was)) ++ bytes t r
theorem bytes_app (a b : List Int) : ∀ was, bytes was (a ++ b) = bytes was a ++ bytes (a.getLastD was) b := by
  induction a with
  | nil => intro was; rfl
  | cons t r ih =>
    intro was
    rw [List.cons_append, bytes, bytes, ih, List.append_assoc]
    cases r with
    | nil => rfl
    | cons x r => simp [List.getLastD]
def Tok (t : Int) : Prop := 0 ≤ t ∧ t ≤ 1048575
instance (t : Int) : Decidable (Tok t) := inferInstanceAs (Decidable (_ ∧ _))
/-- What Put answers. -/
def putE (l : List Int) : List Nat × Nat := if 65536 < l.length then ([], 3) else if ∀ t ∈ l, Tok t then (Mt.put l.length ++ bytes 0 l, 0) else ([], 2)
theorem fold_tok {a b : Int} (ha : Tok a) (hb : Tok b) : fold (a - b) ≤ 2097151 := by unfold Tok at ha hb; unfold fold; split <;> omega
theorem getLastD_snoc (a : List Int) (x d : Int) : (a ++ [x]).getLastD d = x := by simp [List.getLastD_eq_getLast?]
theorem take_more {l : List Int} {k : Nat} {x : Int} (h : l[k]? = some x) : l.take (k + 1) = l.take k ++ [x] := by
  rw [List.take_add_one, h]; rfl
theorem bytes_more {l : List Int} {k : Nat} {x : Int} (h : l[k]? = some x) : bytes 0 (l.take (k + 1)) = bytes 0 (l.take k) ++ Mt.put (fold (x - (l.take k).getLastD 0)) := by
  rw [take_more h, bytes_app]
  simp [bytes]
theorem bytes_len : ∀ (l : List Int) (was : Int), (bytes was l).length ≤ 10 * l.length := by
  intro l
  induction l with
  | nil => intro was; simp [bytes]
  | cons t r ih =>
    intro was
    have h1 := Mt.put_len_le (fold (t - was))
    have h2 := ih t
    rw [bytes, List.length_append, List.length_cons]
    omega
/-- The next token, by the one ahead, and the place behind it, or the error. -/
def next (b : List Nat) (was : Int) (at_ : Nat) : Int × Nat × Nat :=
  if (Mt.get b (at_ : Int)).2.2 ≠ 0 then (0, 0, (Mt.get b (at_ : Int)).2.2)
  else if unfold (Mt.get b (at_ : Int)).1 < -was ∨ 1048575 - was < unfold (Mt.get b (at_ : Int)).1 then (0, 0, 5)
  else (was + unfold (Mt.get b (at_ : Int)).1, (Mt.get b (at_ : Int)).2.1, 0)
/-- So many tokens, behind these. -/
def getL (b : List Nat) : Nat → List Int → Nat → List Int × Nat × Nat
  | 0, acc, at_ => (acc, at_, 0)
  | n + 1, acc, at_ => if (next b (acc.getLastD 0) at_).2.2 ≠ 0 then ([], 0, (next b (acc.getLastD 0) at_).2.2) else getL b n (acc ++ [(next b (acc.getLastD 0) at_).1]) (next b (acc.getLastD 0) at_).2.1
/-- What Get answers. -/
def getE (b : List Nat) (a : Int) : List Int × Nat × Nat :=
  if (Mt.count b a 65536).2.2 ≠ 0 then ([], 0, (Mt.count b a 65536).2.2) else getL b (Mt.count b a 65536).1 [] (Mt.count b a 65536).2.1
theorem getE_err {b : List Nat} {a : Int} {e : Nat} (h : Mt.count b a 65536 = (0, 0, e)) (he : e ≠ 0) : getE b a = ([], 0, e) := by unfold getE; rw [h, if_pos he]
theorem getE_on {b : List Nat} {a : Int} {n k : Nat} (h : Mt.count b a 65536 = (n, k, 0)) : getE b a = getL b n [] k := by unfold getE; rw [h, if_neg (by simp)]
theorem next_err {b : List Nat} {was : Int} {k e : Nat} (h : Mt.get b (k : Int) = (0, 0, e)) (he : e ≠ 0) : next b was k = (0, 0, e) := by unfold next; rw [h, if_pos he]
theorem next_form {b : List Nat} {was : Int} {k u j : Nat} (h : Mt.get b (k : Int) = (u, j, 0)) (hd : unfold u < -was ∨ 1048575 - was < unfold u) : next b was k = (0, 0, 5) := by unfold next; rw [h, if_neg (by simp), if_pos hd]
theorem next_ok {b : List Nat} {was : Int} {k u j : Nat} (h : Mt.get b (k : Int) = (u, j, 0)) (hd : ¬ (unfold u < -was ∨ 1048575 - was < unfold u)) : next b was k = (was + unfold u, j, 0) := by unfold next; rw [h, if_neg (by simp), if_neg hd]
theorem getL_err {b : List Nat} {n : Nat} {acc : List Int} {was : Int} {k e : Nat} (hw : was = acc.getLastD 0) (h : next b was k = (0, 0, e)) (he : e ≠ 0) : getL b (n + 1) acc k = ([], 0, e) := by subst hw; rw [getL, h, if_pos he]
theorem getL_ok {b : List Nat} {n : Nat} {acc : List Int} {was t : Int} {k j : Nat} (hw : was = acc.getLastD 0) (h : next b was k = (t, j, 0)) : getL b (n + 1) acc k = getL b n (acc ++ [t]) j := by subst hw; rw [getL, h, if_neg (by simp)]
end Go.Proofs.Ytapedjcchcgoeaa.Pk
