/-
  Plain mathematics of chapter 3 (frame): a payload's frame, how it is read, and what follows.
-/
import Derived.Test.YteemhdoegjdaiaaPutRow
import Derived.Test.YteemhdoegjdaiaaMathE
import Derived.Test.YteemhdoegjdaiaaMathB
import Derived.Test.YteemhdoegjdaiaaCMathB
namespace Go.Proofs.Yteemhdoegjdaiaa

/-- The four bytes of a number, the lowest first. -/
def four (n : Nat) : List Nat := [Cr.byt n 0, Cr.byt n 1, Cr.byt n 2, Cr.byt n 3]
theorem four_len (n : Nat) : (four n).length = 4 := rfl
theorem four_lt (n : Nat) : ∀ x ∈ four n, x < 256 := by
  intro x hx
  simp only [four, List.mem_cons, List.not_mem_nil, or_false] at hx
  rcases hx with rfl | rfl | rfl | rfl <;> exact Cr.byt_lt _ _
theorem le_four {n : Nat} (h : Cr.B32 n) : Cr.le (four n) = n := by
  unfold Cr.B32 at h
  simp only [four, Cr.le, Cr.byt]
  omega

namespace Fr
/-- A payload's frame. -/
def frm (p : List Nat) : List Nat := putRow p ++ four (Cr.of (putRow p))
theorem frm_len (p : List Nat) : (frm p).length = (putRow p).length + 4 := by simp [frm, four]
theorem frm_len2 (p : List Nat) : (frm p).length = (Mt.put p.length).length + p.length + 4 := by rw [frm_len, putRow_len]
theorem row_lt {p : List Nat} (hp : ∀ x ∈ p, x < 256) (hb : Mt.B64 p.length) : ∀ x ∈ putRow p, x < 256 := by
  intro x hx
  rcases List.mem_append.1 hx with h | h
  · exact Mt.put_lt hb x h
  · exact hp x h
theorem frm_lt {p : List Nat} (hp : ∀ x ∈ p, x < 256) (hb : Mt.B64 p.length) : ∀ x ∈ frm p, x < 256 := by
  intro x hx
  rcases List.mem_append.1 hx with h | h
  · exact row_lt hp hb x h
  · exact four_lt _ x h

/-- What Get tells: the payload, the place behind the frame, the error's number. -/
def get (l : List Nat) (a : Int) : List Nat × Nat × Nat :=
  if (Mt.getRow l a 65536).2.2 ≠ 0 then ([], 0, (Mt.getRow l a 65536).2.2)
  else if l.length - (Mt.getRow l a 65536).2.1 < 4 then ([], 0, 4)
  else if (l.drop (Mt.getRow l a 65536).2.1).take 4 ≠ four (Cr.of ((l.drop a.toNat).take ((Mt.getRow l a 65536).2.1 - a.toNat))) then ([], 0, 6)
  else ((Mt.getRow l a 65536).1, (Mt.getRow l a 65536).2.1 + 4, 0)
theorem get_err {l : List Nat} {a : Int} {e : Nat} (h : Mt.getRow l a 65536 = ([], 0, e)) (he : e ≠ 0) : get l a = ([], 0, e) := by unfold get; rw [h, if_pos he]
theorem get_short {l y : List Nat} {a : Int} {n : Nat} (h : Mt.getRow l a 65536 = (y, n, 0)) (hs : l.length - n < 4) : get l a = ([], 0, 4) := by unfold get; rw [h, if_neg (by simp), if_pos hs]
theorem get_sum {l y : List Nat} {k n : Nat} (h : Mt.getRow l (k : Int) 65536 = (y, n, 0)) (hs : ¬ l.length - n < 4) (hq : (l.drop n).take 4 ≠ four (Cr.of ((l.drop k).take (n - k)))) : get l (k : Int) = ([], 0, 6) := by
  unfold get; rw [h, if_neg (by simp), if_neg hs, Int.toNat_natCast, if_pos hq]
theorem get_ok {l y : List Nat} {k n : Nat} (h : Mt.getRow l (k : Int) 65536 = (y, n, 0)) (hs : ¬ l.length - n < 4) (hq : (l.drop n).take 4 = four (Cr.of ((l.drop k).take (n - k)))) : get l (k : Int) = (y, n + 4, 0) := by
  unfold get; rw [h, if_neg (by simp), if_neg hs, Int.toNat_natCast, if_neg (by simpa using hq)]

/-- What reading a row can tell. -/
theorem row_cases {l : List Nat} (hl : ∀ x ∈ l, x < 256) (a : Int) :
    (∃ e, 2 ≤ e ∧ e ≤ 5 ∧ Mt.getRow l a 65536 = ([], 0, e)) ∨
    (∃ (k : Nat) (y : List Nat), a = (k : Int) ∧ k < l.length ∧ (l.drop k).take (putRow y).length = putRow y ∧ 0 < (putRow y).length ∧ k + (putRow y).length ≤ l.length ∧ y.length ≤ 65536 ∧ Mt.getRow l a 65536 = (y, k + (putRow y).length, 0)) := by
  rcases Mt.count_cases hl a 65536 with ⟨e, h1, h2, h3⟩ | ⟨k, n, r, h1, h2, h3, h4, h5, h6, h7⟩
  · exact .inl ⟨e, h1, h2, Mt.getRow_err h3 (by omega)⟩
  · by_cases hs : l.length - (k + (Mt.put n).length) < n
    · exact .inl ⟨4, by omega, by omega, Mt.getRow_short h6 hs⟩
    · have hd : l.drop (k + (Mt.put n).length) = r := by rw [← List.drop_drop, h4, List.drop_left]
      have hlen : ((l.drop (k + (Mt.put n).length)).take n).length = n := by rw [List.length_take, List.length_drop]; omega
      have hp : putRow ((l.drop (k + (Mt.put n).length)).take n) = Mt.put n ++ (l.drop (k + (Mt.put n).length)).take n := by unfold putRow; rw [hlen]
      have hpl : (putRow ((l.drop (k + (Mt.put n).length)).take n)).length = (Mt.put n).length + n := by rw [hp, List.length_append, hlen]
      have h0 := Mt.put_len_pos n
      refine .inr ⟨k, (l.drop (k + (Mt.put n).length)).take n, h1, h2, ?_, by omega, by omega, by omega, ?_⟩
      · rw [hpl, hp, h4, List.take_length_add_append, hd]
      · rw [Mt.getRow_ok h6 hs, hpl, Nat.add_assoc]
/-- Where a row stands it is read. -/
theorem row_at {l p q y : List Nat} (h : l = p ++ putRow y ++ q) (hy : y.length ≤ 65536) : Mt.getRow l (p.length : Nat) 65536 = (y, p.length + (putRow y).length, 0) := by
  subst h
  have h1 := Mt.get_put (show Mt.B64 y.length by unfold Mt.B64; omega) p (y ++ q)
  have e : p ++ Mt.put y.length ++ (y ++ q) = p ++ putRow y ++ q := by simp [putRow]
  rw [e] at h1
  have h2 := Mt.count_ok (most := 65536) h1 (by omega)
  rw [Mt.getRow_ok h2 (by simp [putRow]; omega)]
  have e2 : (p ++ putRow y ++ q).drop (p.length + (Mt.put y.length).length) = y ++ q := by
    rw [← e]
    have : p.length + (Mt.put y.length).length = (p ++ Mt.put y.length).length := by simp
    rw [this, List.drop_left]
  rw [e2, List.take_left]
  simp [putRow, Nat.add_assoc]

/-- What reading a frame can tell. -/
theorem get_cases {l : List Nat} (hl : ∀ x ∈ l, x < 256) (a : Int) :
    (∃ e, 2 ≤ e ∧ e ≤ 6 ∧ get l a = ([], 0, e)) ∨
    (∃ (k : Nat) (y q : List Nat), a = (k : Int) ∧ k < l.length ∧ l.drop k = frm y ++ q ∧ k + (frm y).length ≤ l.length ∧ y.length ≤ 65536 ∧ get l a = (y, k + (frm y).length, 0)) := by
  rcases row_cases hl a with ⟨e, h1, h2, h3⟩ | ⟨k, y, rfl, hk, ht, hp0, hle, hy, hr⟩
  · exact .inl ⟨e, h1, by omega, get_err h3 (by omega)⟩
  · by_cases hs : l.length - (k + (putRow y).length) < 4
    · exact .inl ⟨4, by omega, by omega, get_short hr hs⟩
    · by_cases hq : (l.drop (k + (putRow y).length)).take 4 = four (Cr.of ((l.drop k).take (k + (putRow y).length - k)))
      · refine .inr ⟨k, y, l.drop (k + (frm y).length), rfl, hk, ?_, ?_, hy, ?_⟩
        · have e1 : k + (putRow y).length - k = (putRow y).length := by omega
          rw [e1, ht] at hq
          have h1 : l.drop k = putRow y ++ l.drop (k + (putRow y).length) := by
            have := List.take_append_drop (putRow y).length (l.drop k)
            rw [ht, List.drop_drop] at this
            exact this.symm
          have h2 : l.drop (k + (putRow y).length) = four (Cr.of (putRow y)) ++ l.drop (k + (frm y).length) := by
            have := List.take_append_drop 4 (l.drop (k + (putRow y).length))
            rw [hq, List.drop_drop] at this
            rw [frm_len]
            exact this.symm
          rw [h1, h2]
          simp [frm]
        · rw [frm_len]; omega
        · rw [get_ok hr hs hq, frm_len]; rfl
      · exact .inl ⟨6, by omega, by omega, get_sum hr hs hq⟩
/-- Where a frame stands it is read. -/
theorem get_at {l p q y : List Nat} (h : l = p ++ frm y ++ q) (hy : y.length ≤ 65536) : get l (p.length : Nat) = (y, p.length + (frm y).length, 0) := by
  have h1 : l = p ++ putRow y ++ (four (Cr.of (putRow y)) ++ q) := by rw [h]; simp [frm]
  have hr := row_at h1 hy
  have hd1 : l.drop p.length = putRow y ++ (four (Cr.of (putRow y)) ++ q) := by rw [h1, List.append_assoc, List.drop_left]
  have hd2 : l.drop (p.length + (putRow y).length) = four (Cr.of (putRow y)) ++ q := by rw [← List.drop_drop, hd1, List.drop_left]
  have e1 : p.length + (putRow y).length - p.length = (putRow y).length := by omega
  have hlen : (l.drop (p.length + (putRow y).length)).length = 4 + q.length := by rw [hd2]; simp [four]; omega
  rw [List.length_drop] at hlen
  rw [get_ok hr (by omega), frm_len]
  · rfl
  · rw [hd2, e1, hd1, List.take_left]
    exact List.take_left (l₁ := four (Cr.of (putRow y)))
theorem get_drop {l q y : List Nat} {k : Nat} (h : l.drop k = frm y ++ q) (hk : k ≤ l.length) (hy : y.length ≤ 65536) : get l (k : Nat) = (y, k + (frm y).length, 0) := by
  have h1 : l = l.take k ++ frm y ++ q := by rw [List.append_assoc, ← h, List.take_append_drop]
  have h2 := get_at h1 hy
  rw [List.length_take, Nat.min_eq_left hk] at h2
  exact h2

/-! ### A frame's own sum: behind its four bytes the sum of all is always the same number -/
def rest : Nat := Cr.flip (Cr.stepN 32 Cr.ones)
theorem of_frame {l : List Nat} (hl : ∀ x ∈ l, x < 256) : Cr.of (l ++ four (Cr.of l)) = rest := by
  have hb := Cr.of_b32 hl
  have h : Cr.flip (Cr.of l) ^^^ Cr.of l = Cr.ones := by rw [Cr.flip_eq, Nat.xor_assoc, Nat.xor_self, Nat.xor_zero]
  rw [Cr.of_append, Cr.more_eq, Cr.raw_le (four_lt _), le_four hb, h, four_len]
  rfl
end Fr
end Go.Proofs.Yteemhdoegjdaiaa
