/-
  Plain mathematics of chapter 3 (frame): a frame in which up to four bytes that stand side by side are changed, behind its first number.
-/
import Derived.Test.YteemhdoegjdaiaaFMath
namespace Go.Proofs.Yteemhdoegjdaiaa.Fr

theorem turned_parts {F p : List Nat} (hF : F = frm p) {a n k : Nat} (ha : (Mt.put p.length).length ≤ a) (hk : a + k ≤ F.length) :
    ∃ p' S, Cr.turnd F a n k = putRow p' ++ S ∧ p'.length = p.length ∧ S.length = 4 := by
  have hlen := Cr.turnd_len F a n k
  have hFl : F.length = (Mt.put p.length).length + p.length + 4 := by rw [hF, frm_len2]
  have hpre : (Cr.turnd F a n k).take (Mt.put p.length).length = Mt.put p.length := by
    have h1 : (Cr.turnd F a n k).take (Mt.put p.length).length = F.take (Mt.put p.length).length := by
      apply List.ext_getElem?
      intro i
      rw [List.getElem?_take, List.getElem?_take, Cr.turnd_at F a n k hk i]
      by_cases h : i < (Mt.put p.length).length
      · rw [if_pos h, if_pos h, if_neg (by omega)]
      · rw [if_neg h, if_neg h]
    rw [h1, hF]
    unfold frm putRow
    rw [List.append_assoc, List.take_left]
  have hpl : (((Cr.turnd F a n k).drop (Mt.put p.length).length).take p.length).length = p.length := by rw [List.length_take, List.length_drop]; omega
  refine ⟨((Cr.turnd F a n k).drop (Mt.put p.length).length).take p.length, (Cr.turnd F a n k).drop ((Mt.put p.length).length + p.length), ?_, hpl, by rw [List.length_drop]; omega⟩
  unfold putRow
  rw [hpl, List.append_assoc]
  rw [← List.drop_drop, List.take_append_drop]
  have := List.take_append_drop (Mt.put p.length).length (Cr.turnd F a n k)
  rw [hpre] at this
  exact this.symm

theorem turned_get {p : List Nat} (hp : ∀ x ∈ p, x < 256) (hl : p.length ≤ 65536) {a n k : Nat} (ha : (Mt.put p.length).length ≤ a) (hk : a + k ≤ (frm p).length) (h4 : k ≤ 4) :
    get (Cr.turnd (frm p) a n k) 0 = if Cr.zer n k = true then (p, (frm p).length, 0) else ([], 0, 6) := by
  have hF8 : ∀ x ∈ frm p, x < 256 := frm_lt hp (by unfold Mt.B64; omega)
  have hrow8 := row_lt hp (show Mt.B64 p.length by unfold Mt.B64; omega)
  by_cases hz : Cr.zer n k = true
  · rw [if_pos hz, (Cr.turnd_eq hk).2 hz]
    have h := get_at (l := frm p) (p := []) (q := []) (y := p) (by simp) hl
    simpa using h
  · rw [if_neg hz]
    obtain ⟨p', S, hG, hpl, hS⟩ := turned_parts (p := p) rfl (n := n) ha hk
    have hG8 := Cr.turnd_lt hF8 a n k
    have hr := row_at (l := Cr.turnd (frm p) a n k) (p := []) (q := S) (y := p') (by rw [hG]; simp) (by omega)
    have hlen : (Cr.turnd (frm p) a n k).length = (putRow p').length + 4 := by rw [hG, List.length_append, hS]
    refine get_sum (k := 0) hr (by simp; omega) ?_
    simp only [List.length_nil, Nat.zero_add, List.drop_zero, Nat.sub_zero]
    rw [hG, List.drop_left, List.take_of_length_le (by omega), List.take_left]
    intro hq
    apply hz
    have h1 : Cr.of (frm p) = rest := of_frame hrow8
    have h2 : Cr.of (Cr.turnd (frm p) a n k) = rest := by
      rw [hG, hq]
      exact of_frame (fun x hx => hG8 x (by rw [hG]; exact List.mem_append_left _ hx))
    exact (Cr.of_turnd hF8 hk h4).1 (h1.trans h2.symm)
end Go.Proofs.Yteemhdoegjdaiaa.Fr
