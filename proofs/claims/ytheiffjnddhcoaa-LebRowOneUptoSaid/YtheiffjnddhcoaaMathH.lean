/-
  Plain mathematics of chapter 1 (leb): where a row, or a list, is read, the bytes are what is put of it.
-/
import Derived.Test.YtheiffjnddhcoaaMathG
namespace Go.Proofs.Ytheiffjnddhcoaa

theorem take_two {s p r : List Nat} (h : s = p ++ r) (n : Nat) : s.take (p.length + n) = p ++ r.take n := by
  subst h
  exact List.take_length_add_append n
theorem drop_more {l : List Nat} {k : Nat} {p r : List Nat} (h : l.drop k = p ++ r) : l.drop (k + p.length) = r := by
  rw [← List.drop_drop, h, List.drop_left]

theorem row_cases {l : List Nat} (hl : ∀ x ∈ l, x < 256) (a most : Int) :
    (∃ e, 2 ≤ e ∧ e ≤ 5 ∧ Mt.getRow l a most = ([], 0, e)) ∨
    (∃ (k : Nat) (y : List Nat), a = (k : Int) ∧ k < l.length ∧ (l.drop k).take (putRow y).length = putRow y ∧ 0 < (putRow y).length ∧ k + (putRow y).length ≤ l.length ∧ y.length ≤ l.length ∧ Mt.getRow l a most = (y, k + (putRow y).length, 0)) := by
  rcases Mt.count_cases hl a most with ⟨e, h1, h2, h3⟩ | ⟨k, n, r, h1, h2, h3, h4, h5, h6, h7⟩
  · exact .inl ⟨e, h1, h2, Mt.getRow_err h3 (by omega)⟩
  · by_cases hs : l.length - (k + (Mt.put n).length) < n
    · exact .inl ⟨4, by omega, by omega, Mt.getRow_short h6 hs⟩
    · have hd := drop_more h4
      have hlen : ((l.drop (k + (Mt.put n).length)).take n).length = n := by rw [List.length_take, List.length_drop]; omega
      have hp : putRow ((l.drop (k + (Mt.put n).length)).take n) = Mt.put n ++ (l.drop (k + (Mt.put n).length)).take n := by unfold putRow; rw [hlen]
      have hpl : (putRow ((l.drop (k + (Mt.put n).length)).take n)).length = (Mt.put n).length + n := by rw [hp, List.length_append, hlen]
      have h0 := Mt.put_len_pos n
      refine .inr ⟨k, (l.drop (k + (Mt.put n).length)).take n, h1, h2, ?_, by omega, by omega, by omega, ?_⟩
      · rw [hpl, take_two h4, hp, hd]
      · rw [Mt.getRow_ok h6 hs, hpl, Nat.add_assoc]

theorem gets_one (n : Nat) : ∀ {l : List Nat} (x : Nat), (∀ z ∈ l, z < 256) → x ≤ l.length →
    (∃ e, 2 ≤ e ∧ e ≤ 5 ∧ Mt.gets n l x = ([], 0, e)) ∨
    (∃ ys, ys.length = n ∧ x + (puts ys).length ≤ l.length ∧ (l.drop x).take (puts ys).length = puts ys ∧ (∀ z ∈ ys, Mt.B64 z) ∧ Mt.gets n l x = (ys, x + (puts ys).length, 0)) := by
  induction n with
  | zero => intro l x _ hx; exact .inr ⟨[], rfl, by simpa [puts] using hx, by simp [puts], by simp, by simp [Mt.gets, puts]⟩
  | succ n ih =>
    intro l x hl hx
    rcases Mt.get_cases hl (x : Int) with ⟨e, h1, h2, h3⟩ | ⟨k, v, r, h1, h2, h3, h4, h5, h6⟩
    · exact .inl ⟨e, h1, h2, Mt.gets_err h3 (by omega)⟩
    · obtain rfl : x = k := by omega
      rw [Mt.gets_on h6]
      rcases ih (x + (Mt.put v).length) hl h5 with ⟨e, g1, g2, g3⟩ | ⟨ys, g1, g2, g3, g4, g5⟩
      · exact .inl ⟨e, g1, g2, by rw [g3, Mt.prep_err (by omega)]⟩
      · refine .inr ⟨v :: ys, by simp [g1], ?_, ?_, ?_, ?_⟩
        · rw [puts_cons, List.length_append]; omega
        · rw [puts_cons, List.length_append, take_two h4]
          have hd := drop_more h4
          rw [hd] at g3
          rw [g3]
        · intro z hz
          rcases List.mem_cons.1 hz with rfl | hz
          · exact h3
          · exact g4 z hz
        · rw [g5, Mt.prep_ok, puts_cons, List.length_append, Nat.add_assoc]; rfl

theorem list_cases {l : List Nat} (hl : ∀ x ∈ l, x < 256) (a most : Int) :
    (∃ e, 2 ≤ e ∧ e ≤ 5 ∧ Mt.getList l a most = ([], 0, e)) ∨
    (∃ (k : Nat) (ys : List Nat), a = (k : Int) ∧ k < l.length ∧ (l.drop k).take (putList ys).length = putList ys ∧ 0 < (putList ys).length ∧ k + (putList ys).length ≤ l.length ∧ ys.length ≤ l.length ∧ Mt.getList l a most = (ys, k + (putList ys).length, 0)) := by
  rcases Mt.count_cases hl a most with ⟨e, h1, h2, h3⟩ | ⟨k, n, r, h1, h2, h3, h4, h5, h6, h7⟩
  · exact .inl ⟨e, h1, h2, Mt.getList_err h3 (by omega)⟩
  · rw [Mt.getList_ok h6]
    rcases gets_one n (k + (Mt.put n).length) hl h5 with ⟨e, g1, g2, g3⟩ | ⟨ys, g1, g2, g3, g4, g5⟩
    · exact .inl ⟨e, g1, g2, g3⟩
    · have hd := drop_more h4
      have hp : putList ys = Mt.put n ++ puts ys := by unfold putList; rw [g1]
      have h0 := Mt.put_len_pos n
      have hpl : (putList ys).length = (Mt.put n).length + (puts ys).length := by rw [hp, List.length_append]
      have hge : ys.length ≤ (puts ys).length := by
        clear g1 g2 g3 g4 g5 hp hpl
        induction ys with
        | nil => simp
        | cons z t ih => have := Mt.put_len_pos z; rw [puts_cons, List.length_append, List.length_cons]; omega
      refine .inr ⟨k, ys, h1, h2, ?_, by omega, by omega, by omega, ?_⟩
      · rw [hpl, take_two h4, hp]
        rw [hd] at g3
        rw [g3]
      · rw [g5, hpl, Nat.add_assoc]
end Go.Proofs.Ytheiffjnddhcoaa
