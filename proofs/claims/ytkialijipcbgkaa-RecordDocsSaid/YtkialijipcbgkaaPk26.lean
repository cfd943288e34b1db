/-
  MathD: Plain mathematics of chapter 1 (leb): the document's own way of reading a number.
  MathE: Plain mathematics of chapter 1 (leb): a count, and a counted row.
  Put: leb.Put answers the bytes of a number, in new memory.
  PkMath: Plain mathematics of chapter 12 (pack): numbers with a sign as such without one, rows as bytes.
-/
import Derived.Test.YtkialijipcbgkaaPk01
import Derived.Test.YtkialijipcbgkaaPk25
import Derived.Test.YtkialijipcbgkaaPk03
namespace Go.Proofs.Ytkialijipcbgkaa.Mt
theorem val_snoc (s : List Nat) (c : Nat) : val (s ++ [c]) = val s + c % 128 * 128 ^ s.length := by
  induction s with
  | nil => simp [val]
  | cons x r ih =>
    simp only [List.cons_append, val, ih, List.length_cons, Nat.pow_succ]
    rw [Nat.mul_add, ← Nat.mul_assoc, Nat.mul_comm 128 (c % 128), Nat.mul_assoc (c % 128), Nat.mul_comm 128 (128 ^ _)]
    omega
theorem val_lt (s : List Nat) : val s < 128 ^ s.length := by
  induction s with
  | nil => simp [val]
  | cons x r ih => simp only [val, List.length_cons, Nat.pow_succ]; omega
theorem val_drop (s : List Nat) : ∀ j, val (s.drop j) ≤ val s := by
  induction s with
  | nil => intro j; simp [val]
  | cons x r ih =>
    intro j
    cases j with
    | zero => simp
    | succ j => have := ih j; simp only [List.drop_succ_cons, val]; omega
theorem take_snoc {s : List Nat} {k c : Nat} {r : List Nat} (h : s.drop k = c :: r) : s.take (k + 1) = s.take k ++ [c] := by
  rw [List.take_add, h]; rfl
theorem val_take {s : List Nat} {k c : Nat} {r : List Nat} (h : s.drop k = c :: r) : val (s.take (k + 1)) = val (s.take k) + c % 128 * 128 ^ k := by
  have hk : k < s.length := by
    rcases Nat.lt_or_ge k s.length with h1 | h1
    · exact h1
    · rw [List.drop_of_length_le h1] at h; cases h
  rw [take_snoc h, val_snoc, List.length_take, Nat.min_eq_left (by omega)]
theorem val_small {s : List Nat} {k c : Nat} {r : List Nat} (h : s.drop k = c :: r) (hk : k ≤ 9) (hc : c < 128) (h9 : 8 < k → c < 2) : val (s.take (k + 1)) < 18446744073709551616 := by
  have h1 := val_lt (s.take k)
  have h2 : (s.take k).length ≤ k := List.length_take_le _ _
  have h3 : val (s.take k) < 128 ^ k := Nat.lt_of_lt_of_le h1 (Nat.pow_le_pow_right (by decide) h2)
  rw [val_take h, Nat.mod_eq_of_lt hc]
  by_cases h8 : 8 < k
  · obtain rfl : k = 9 := by omega
    have := h9 h8
    omega
  · have h4 : c * 128 ^ k ≤ 127 * 128 ^ k := Nat.mul_le_mul_right _ (by omega)
    have h5 : (128 : Nat) ^ k ≤ 128 ^ 8 := Nat.pow_le_pow_right (by decide) (by omega)
    omega
theorem drop_byte {l : List Nat} {a k c : Nat} (hd : l.drop (a + k) = c :: l.drop (a + k + 1)) : (l.drop a).drop k = c :: l.drop (a + k + 1) := by rw [List.drop_drop]; exact hd
theorem horner {s : List Nat} {p d : Nat} {r : List Nat} (h : s.drop p = d :: r) : val (s.drop p) = d % 128 + 128 * val (s.drop (p + 1)) := by
  have hr2 : s.drop (p + 1) = r := by
    have := congrArg (List.drop 1) h
    simpa [List.drop_drop] using this
  rw [hr2, h]; rfl
theorem rd_take {s : List Nat} {k c : Nat} {r : List Nat} (hr : rd 0 0 s = rd k (val (s.take k)) (s.drop k)) (h : s.drop k = c :: r) (h9 : ¬ (k = 9 ∧ 1 < c)) (hc : 128 ≤ c) : rd 0 0 s = rd (k + 1) (val (s.take (k + 1))) (s.drop (k + 1)) := by
  have hr2 : s.drop (k + 1) = r := by
    have := congrArg (List.drop 1) h
    simpa [List.drop_drop] using this
  rw [hr, h, rd_on h9 hc, val_take h, hr2]
end Go.Proofs.Ytkialijipcbgkaa.Mt
namespace Go.Proofs.Ytkialijipcbgkaa.Mt
def count (l : List Nat) (a most : Int) : Nat × Nat × Nat :=
  if (get l a).2.2 ≠ 0 then (0, 0, (get l a).2.2) else if most < 0 ∨ most < ((get l a).1 : Nat) then (0, 0, 3) else get l a
theorem count_err {l : List Nat} {a most : Int} {e : Nat} (h : get l a = (0, 0, e)) (he : e ≠ 0) : count l a most = (0, 0, e) := by unfold count; rw [h, if_pos he]
theorem count_lim {l : List Nat} {a most : Int} {n k : Nat} (h : get l a = (n, k, 0)) (hm : most < 0 ∨ most < (n : Int)) : count l a most = (0, 0, 3) := by unfold count; rw [h, if_neg (by simp), if_pos hm]
theorem count_ok {l : List Nat} {a most : Int} {n k : Nat} (h : get l a = (n, k, 0)) (hm : ¬ (most < 0 ∨ most < (n : Int))) : count l a most = (n, k, 0) := by unfold count; rw [h, if_neg (by simp), if_neg hm]

theorem count_cases {l : List Nat} (hl : ∀ x ∈ l, x < 256) (a most : Int) :
    (∃ e, 2 ≤ e ∧ e ≤ 5 ∧ count l a most = (0, 0, e)) ∨
    (∃ (k n : Nat) (r : List Nat), a = (k : Int) ∧ k < l.length ∧ B64 n ∧ l.drop k = put n ++ r ∧ k + (put n).length ≤ l.length ∧ count l a most = (n, k + (put n).length, 0) ∧ (n : Int) ≤ most) := by
  rcases get_cases hl a with ⟨e, h1, h2, h3⟩ | ⟨k, n, r, h1, h2, h3, h4, h5, h6⟩
  · exact .inl ⟨e, h1, h2, count_err h3 (by omega)⟩
  · by_cases hm : most < 0 ∨ most < (n : Int)
    · exact .inl ⟨3, by omega, by omega, count_lim h6 hm⟩
    · exact .inr ⟨k, n, r, h1, h2, h3, h4, h5, count_ok h6 hm, by omega⟩

def getRow (l : List Nat) (a most : Int) : List Nat × Nat × Nat :=
  if (count l a most).2.2 ≠ 0 then ([], 0, (count l a most).2.2)
  else if l.length - (count l a most).2.1 < (count l a most).1 then ([], 0, 4)
  else ((l.drop (count l a most).2.1).take (count l a most).1, (count l a most).2.1 + (count l a most).1, 0)
theorem getRow_err {l : List Nat} {a most : Int} {e : Nat} (h : count l a most = (0, 0, e)) (he : e ≠ 0) : getRow l a most = ([], 0, e) := by unfold getRow; rw [h, if_pos he]
theorem getRow_short {l : List Nat} {a most : Int} {n k : Nat} (h : count l a most = (n, k, 0)) (hm : l.length - k < n) : getRow l a most = ([], 0, 4) := by unfold getRow; rw [h, if_neg (by simp), if_pos hm]
theorem getRow_ok {l : List Nat} {a most : Int} {n k : Nat} (h : count l a most = (n, k, 0)) (hm : ¬ l.length - k < n) : getRow l a most = ((l.drop k).take n, k + n, 0) := by unfold getRow; rw [h, if_neg (by simp), if_neg hm]
end Go.Proofs.Ytkialijipcbgkaa.Mt
namespace Go.Proofs.Ytkialijipcbgkaa
open Go.RowKit
set_option linter.unusedVariables false

/-- A call that answers these bytes in new memory, and turns nothing that was there. -/
def IsFresh (l : List Nat) (w : World) (e : Ending) (w' : World) : Prop :=
  ∃ A c, e = .returned (.slice A l.length c) ∧ OwnB w' w.heap.size (.slice A l.length c) l ∧ Below w.heap.size w w'

set_option maxHeartbeats 400000 in
set_option maxRecDepth 100000 in
theorem put_any (n : Nat) (hn : Mt.B64 n) (w : World) :
    Calls Try.prog 33 #[.int .u64 n] w (IsFresh (Mt.put n) w) := by
  have hlen := Mt.put_len_le n
  obtain ⟨i0, hi, hz0, hz1, hz2⟩ := info_parts info5
  go_enter Try.func33, Try.ntmps33
  have hb2 : i0.bytes * (Mt.put n).length ≤ 281474976710656 := by rw [hz2]; omega
  have hm3 : (Mt.put n).length ≤ maxLen := by simp only [maxLen]; omega
  clear hlen
  go_wp2_with (first | (go_at_call 55; refine (len_any _ hn _).mono ?_; rintro e w' ⟨rfl, rfl⟩) | (at_make; go_must (refine wpList_make_own _ rfl _ _ 28 rfl w.heap.size 5 i0 (.int .u8 0) 1 Try.underlying28 hi hz0 hz1 .i64 .i64 _ (Mt.put n).length rfl rfl rfl hb2 hm3 (Nat.le_refl _) ?_; intro w1 hown hgrow)))
  have how : OwnB w1 w.heap.size (.slice (some ⟨w.heap.size, 0, none⟩) 0 (Mt.put n).length) [] := ⟨by simp, hown⟩
  have hbel : Below w.heap.size w w1 := (Below.refl _ _).grown hgrow (Nat.le_refl _) (by intro k hk; cases hk)
  clear hown hgrow hb2 hm3
  go_loopw [0, 3] (fun m v wr => ∃ (q : Nat) (l : List Nat), m = .int .u64 q ∧ Hid (Mt.B64 q) ∧ Hid (OwnB wr w.heap.size v l) ∧ Hid (Mt.put n = l ++ Mt.put q) ∧ Below w.heap.size w wr) (fun m _ _ => (intOf m).toNat)
  case atStart => exact ⟨n, [], rfl, hn, how, rfl, hbel⟩
  case round =>
    obtain ⟨q, l, rfl, HQ, HO, HP, hbr⟩ := hrel
    clear how hbel hi hz0 hz1 hz2
    have hbase : w.heap.size ≤ wr.heap.size := hbr.size
    have hl10 : l.length ≤ 10 := by
      have h1 := Mt.put_len_le n
      rw [HP.out, List.length_append] at h1
      omega
    by_cases h : 128 ≤ q
    · have HP2 : Hid (Mt.put n = (l ++ [q % 128 + 128]) ++ Mt.put (q / 128)) := by
        unfold Hid
        rw [HP.out, Mt.put_step h HQ.out]
        simp
      have HQ2 : Hid (Mt.B64 (q / 128)) := Mt.b64_div HQ.out
      have hown1 := HO.out.alloc_ (.cells #[.int .u8 (bits BinOp.or IntKind.u8 ((q : Int) % 256) 128)] 5)
      have hsrc := Bv.one_ wr (or128 q) (by omega)
      have hbel1 := hbr.alloc hbase (.cells #[.int .u8 (bits BinOp.or IntKind.u8 ((q : Int) % 256) 128)] 5)
      have HO1 := Lib.hid hown1
      have HS := Lib.hid hsrc
      have HB := Lib.hid hbel1
      clear hown1 hsrc hbel1 HP HO HQ hn
      go_wp2_with (at_builtin; go_must (refine wpList_append_bytes _ rfl _ _ rfl rfl w.heap.size _ rfl l HO1.out _ rfl _ [q % 128 + 128] HS.out (by simp; omega) (by simp; omega) ?_; intro A c w2 hA))
      go_roundw
      case rel => exact ⟨q / 128, l ++ [q % 128 + 128], by simp, HQ2, (by simpa [Hid] using hA.own), HP2, HB.out.grown hA.grown (by simp; omega) (fun k hk => (HO1.out.lt_ k hk).1)⟩
      case measure => simp [intOf]; omega
    · have HP2 : Hid (Mt.put n = l ++ [q]) := by
        unfold Hid
        rw [HP.out, Mt.put_small (by omega)]
      have hown1 := HO.out.alloc_ (.cells #[.int .u8 (q : Int)] 5)
      have hsrc := Bv.one_ wr (x := (q : Int)) (c := q) rfl (by omega)
      have hbel1 := hbr.alloc hbase (.cells #[.int .u8 (q : Int)] 5)
      have HO1 := Lib.hid hown1
      have HS := Lib.hid hsrc
      have HB := Lib.hid hbel1
      clear hown1 hsrc hbel1 HP HO HQ hn
      go_wp2_with (at_builtin; go_must (refine wpList_append_bytes _ rfl _ _ rfl rfl w.heap.size _ rfl l HO1.out _ rfl _ [q] HS.out (by simp; omega) (by simp; omega) ?_; intro A c w2 hA))
      go_ret
      exact ⟨A, c, by rw [HP2.out]; simp, by rw [HP2.out]; exact hA.own, HB.out.grown hA.grown (by simp; omega) (fun k hk => (HO1.out.lt_ k hk).1)⟩
end Go.Proofs.Ytkialijipcbgkaa
namespace Go.Proofs.Ytkialijipcbgkaa.Pk
def fold (n : Int) : Nat := if 0 ≤ n then 2 * n.toNat else 2 * (-(n + 1)).toNat + 1
def unfold (u : Nat) : Int := if u % 2 = 0 then ((u / 2 : Nat) : Int) else -((u / 2 : Nat) : Int) - 1
theorem unfold_fold (n : Int) : unfold (fold n) = n := by unfold unfold fold; split <;> split <;> omega
theorem fold_unfold (u : Nat) : fold (unfold u) = u := by unfold unfold fold; split <;> split <;> omega
theorem fold_lt {n : Int} (h : I64 n) : fold n < 18446744073709551616 := by unfold I64 at h; unfold fold; split <;> omega
theorem unfold_i64 {u : Nat} (h : u < 18446744073709551616) : I64 (unfold u) := by unfold I64 unfold; split <;> omega
/-- The bytes of tokens behind one. -/
def bytes (was : Int) : List Int → List Nat
  | [] => []
  | t :: r => Mt.put (fold (t - was)) ++ bytes t r
theorem bytes_app (a b : List Int) : ∀ was, bytes was (a ++ b) = bytes was a ++ bytes (a.getLastD was) b := by
  induction a with
  | nil => intro was; rfl
  | cons t r ih =>
    intro was
    rw [List.cons_append, bytes, bytes, ih, List.append_assoc]
    cases r with
    | nil => rfl
    | cons x r => simp [List.getLastD]
def Tok (t : Int) : Prop := 0 ≤ t ∧ t ≤ 1048575
instance (t : Int) : Decidable (Tok t) := inferInstanceAs (Decidable (_ ∧ _))
/-- What Put answers. -/
def putE (l : List Int) : List Nat × Nat := if 65536 < l.length then ([], 3) else if ∀ t ∈ l, Tok t then (Mt.put l.length ++ bytes 0 l, 0) else ([], 2)
theorem fold_tok {a b : Int} (ha : Tok a) (hb : Tok b) : fold (a - b) ≤ 2097151 := by unfold Tok at ha hb; unfold fold; split <;> omega
theorem getLastD_snoc (a : List Int) (x d : Int) : (a ++ [x]).getLastD d = x := by simp [List.getLastD_eq_getLast?]
theorem take_more {l : List Int} {k : Nat} {x : Int} (h : l[k]? = some x) : l.take (k + 1) = l.take k ++ [x] := by
  rw [List.take_add_one, h]; rfl
theorem bytes_more {l : List Int} {k : Nat} {x : Int} (h : l[k]? = some x) : bytes 0 (l.take (k + 1)) = bytes 0 (l.take k) ++ Mt.put (fold (x - (l.take k).getLastD 0)) := by
  rw [take_more h, bytes_app]
  simp [bytes]
theorem bytes_len : ∀ (l : List Int) (was : Int), (bytes was l).length ≤ 10 * l.length := by
  intro l
  induction l with
  | nil => intro was; simp [bytes]
  | cons t r ih =>
    intro was
    have h1 := Mt.put_len_le (fold (t - was))
    have h2 := ih t
    rw [bytes, List.length_append, List.length_cons]
    omega
/-- The next token, by the one ahead, and the place behind it, or the error. -/
def next (b : List Nat) (was : Int) (at_ : Nat) : Int × Nat × Nat :=
  if (Mt.get b (at_ : Int)).2.2 ≠ 0 then (0, 0, (Mt.get b (at_ : Int)).2.2)
  else if unfold (Mt.get b (at_ : Int)).1 < -was ∨ 1048575 - was < unfold (Mt.get b (at_ : Int)).1 then (0, 0, 5)
  else (was + unfold (Mt.get b (at_ : Int)).1, (Mt.get b (at_ : Int)).2.1, 0)
/-- So many tokens, behind these. -/
def getL (b : List Nat) : Nat → List Int → Nat → List Int × Nat × Nat
  | 0, acc, at_ => (acc, at_, 0)
  | n + 1, acc, at_ => if (next b (acc.getLastD 0) at_).2.2 ≠ 0 then ([], 0, (next b (acc.getLastD 0) at_).2.2) else getL b n (acc ++ [(next b (acc.getLastD 0) at_).1]) (next b (acc.getLastD 0) at_).2.1
/-- What Get answers. -/
def getE (b : List Nat) (a : Int) : List Int × Nat × Nat :=
  if (Mt.count b a 65536).2.2 ≠ 0 then ([], 0, (Mt.count b a 65536).2.2) else getL b (Mt.count b a 65536).1 [] (Mt.count b a 65536).2.1
theorem getE_err {b : List Nat} {a : Int} {e : Nat} (h : Mt.count b a 65536 = (0, 0, e)) (he : e ≠ 0) : getE b a = ([], 0, e) := by unfold getE; rw [h, if_pos he]
theorem getE_on {b : List Nat} {a : Int} {n k : Nat} (h : Mt.count b a 65536 = (n, k, 0)) : getE b a = getL b n [] k := by unfold getE; rw [h, if_neg (by simp)]
theorem next_err {b : List Nat} {was : Int} {k e : Nat} (h : Mt.get b (k : Int) = (0, 0, e)) (he : e ≠ 0) : next b was k = (0, 0, e) := by unfold next; rw [h, if_pos he]
theorem next_form {b : List Nat} {was : Int} {k u j : Nat} (h : Mt.get b (k : Int) = (u, j, 0)) (hd : unfold u < -was ∨ 1048575 - was < unfold u) : next b was k = (0, 0, 5) := by unfold next; rw [h, if_neg (by simp), if_pos hd]
theorem next_ok {b : List Nat} {was : Int} {k u j : Nat} (h : Mt.get b (k : Int) = (u, j, 0)) (hd : ¬ (unfold u < -was ∨ 1048575 - was < unfold u)) : next b was k = (was + unfold u, j, 0) := by unfold next; rw [h, if_neg (by simp), if_neg hd]
theorem getL_err {b : List Nat} {n : Nat} {acc : List Int} {was : Int} {k e : Nat} (hw : was = acc.getLastD 0) (h : next b was k = (0, 0, e)) (he : e ≠ 0) : getL b (n + 1) acc k = ([], 0, e) := by subst hw; rw [getL, h, if_pos he]
theorem getL_ok {b : List Nat} {n : Nat} {acc : List Int} {was t : Int} {k j : Nat} (hw : was = acc.getLastD 0) (h : next b was k = (t, j, 0)) : getL b (n + 1) acc k = getL b n (acc ++ [t]) j := by subst hw; rw [getL, h, if_neg (by simp)]
end Go.Proofs.Ytkialijipcbgkaa.Pk
