/-
  A digest told and read again; a text read and told again.
-/
import Derived.Test.YtejipcnihgpdhaaSpParse
namespace Go.Proofs.Ytejipcnihgpdhaa
open Go.RowKit
set_option linter.unusedVariables false

theorem txt_chars (s : ByteArray) : txt (chars s) = s := by
  have h : (txt (chars s)).data.toList = s.data.toList := by
    simp [txt, chars, strOfNums]
    refine (List.map_congr_left (g := id) fun x _ => ?_).trans (List.map_id _)
    simp
  exact ByteArray.ext (Array.toList_inj.1 h)
theorem chars_txt (l : List Nat) (h : ∀ x ∈ l, x < 256) : chars (txt l) = l := by
  simp only [txt, chars, strOfNums, List.map_map]
  refine (List.map_congr_left (g := id) fun x hx => ?_).trans (List.map_id _)
  have := h x hx
  simp [UInt8.toNat_ofNat']
  omega
namespace Sh
theorem dig_val {c : Nat} (h : val c ≠ 16) : dig (val c) = c := by
  unfold val at *
  unfold dig
  split at h <;> (try split at h) <;> split <;> (try split) <;> omega
theorem val_lt {c : Nat} (h : val c ≠ 16) : val c < 16 := by have := val_le c; omega
theorem text_at : ∀ (d : List Nat) (k x : Nat), d[k]? = some x → (text d)[2 * k]? = some (dig (x / 16)) ∧ (text d)[2 * k + 1]? = some (dig (x % 16))
  | [], k, x, h => by simp at h
  | y :: d, 0, x, h => by
    simp at h
    subst h
    exact ⟨rfl, rfl⟩
  | y :: d, k + 1, x, h => by
    have ih := text_at d k x (by simpa using h)
    have e : text (y :: d) = dig (y / 16) :: dig (y % 16) :: text d := rfl
    rw [e, show 2 * (k + 1) = 2 * k + 1 + 1 by omega]
    exact ih
theorem text_getD {d : List Nat} {k x : Nat} (h : d[k]? = some x) : (text d).getD (2 * k) 0 = dig (x / 16) ∧ (text d).getD (2 * k + 1) 0 = dig (x % 16) := by
  obtain ⟨h1, h2⟩ := text_at d k x h
  exact ⟨by rw [List.getD_eq_getElem?_getD, h1]; rfl, by rw [List.getD_eq_getElem?_getD, h2]; rfl⟩
theorem text_lt (d : List Nat) (h : ∀ x ∈ d, x < 256) : ∀ c ∈ text d, c < 256 := by
  intro c hc
  obtain ⟨x, hx, hc⟩ := List.mem_flatMap.1 hc
  have := h x hx
  simp only [two, List.mem_cons, List.not_mem_nil, or_false] at hc
  rcases hc with rfl | rfl
  · exact dig_lt (by omega)
  · exact dig_lt (by omega)
theorem vals_text (d : List Nat) (h : ∀ x ∈ d, x < 256) : ∀ k, k ≤ d.length → vals (text d) k = d.take k
  | 0, _ => rfl
  | k + 1, hk => by
    obtain ⟨x, hx⟩ : ∃ x, d[k]? = some x := ⟨_, List.getElem?_eq_getElem (by omega)⟩
    obtain ⟨g0, g1⟩ := text_getD hx
    have hx8 := h x (List.mem_of_getElem? hx)
    rw [vals_succ, vals_text d h k (by omega), g0, g1, val_dig (by omega), val_dig (by omega), List.take_add_one, hx]
    simp
    omega
theorem good_text (d : List Nat) (h : ∀ x ∈ d, x < 256) : good (text d) d.length := by
  intro j hj
  obtain ⟨x, hx⟩ : ∃ x, d[j / 2]? = some x := ⟨_, List.getElem?_eq_getElem (by omega)⟩
  obtain ⟨g0, g1⟩ := text_getD hx
  have hx8 := h x (List.mem_of_getElem? hx)
  rcases Nat.mod_two_eq_zero_or_one j with e | e
  · rw [show j = 2 * (j / 2) by omega, g0, val_dig (by omega)]; omega
  · rw [show j = 2 * (j / 2) + 1 by omega, g1, val_dig (by omega)]; omega
theorem parse_text (d : List Nat) (hl : d.length = 32) (h : ∀ x ∈ d, x < 256) : parse (text d) = (d, 0) := by
  have h1 := good_text d h
  have h2 := vals_text d h 32 (by omega)
  rw [hl] at h1
  rw [parse_ok (by rw [text_len]; omega) h1, h2, List.take_of_length_le (by omega)]
theorem text_append (a b : List Nat) : text (a ++ b) = text a ++ text b := by simp [text]
theorem text_vals {c : List Nat} : ∀ k, good c k → 2 * k ≤ c.length → text (vals c k) = c.take (2 * k)
  | 0, _, _ => rfl
  | k + 1, hg, hk => by
    have e0 := hg (2 * k) (by omega)
    have e1 := hg (2 * k + 1) (by omega)
    have i0 : c[2 * k]? = some (c.getD (2 * k) 0) := by rw [List.getD_eq_getElem?_getD, List.getElem?_eq_getElem (by omega)]; rfl
    have i1 : c[2 * k + 1]? = some (c.getD (2 * k + 1) 0) := by rw [List.getD_eq_getElem?_getD, List.getElem?_eq_getElem (by omega)]; rfl
    have l0 := val_lt e0
    have l1 := val_lt e1
    have d0 := dig_val e0
    have d1 := dig_val e1
    rw [vals_succ, text_append, text_vals k (fun j hj => hg j (by omega)) (by omega)]
    generalize c.getD (2 * k) 0 = a at *
    generalize c.getD (2 * k + 1) 0 = b at *
    rw [show 2 * (k + 1) = 2 * k + 1 + 1 by omega, List.take_add_one, List.take_add_one, i0, i1]
    have q : (16 * val a + val b) / 16 = val a := by omega
    have r : (16 * val a + val b) % 16 = val b := by omega
    simp [text, two, q, r, d0, d1]
theorem parse_lt (c : List Nat) : ∀ x ∈ (parse c).1, x < 256 := by
  by_cases h : c.length = 64 ∧ good c 32
  · rw [parse_ok h.1 h.2]
    intro x hx
    obtain ⟨i, hi, rfl⟩ := List.mem_map.1 hx
    have hi' := List.mem_range.1 hi
    have := val_lt (h.2 (2 * i) (by omega))
    have := val_lt (h.2 (2 * i + 1) (by omega))
    omega
  · rw [parse_bad h]
    intro x hx
    rw [List.eq_of_mem_replicate hx]
    decide
theorem parse_len (c : List Nat) : (parse c).1.length = 32 := by
  by_cases h : c.length = 64 ∧ good c 32
  · rw [parse_ok h.1 h.2]; exact vals_len _ _
  · rw [parse_bad h]; rfl
theorem parse_two (c : List Nat) : (parse c).2 = 0 ∧ text (parse c).1 = c ∨ (parse c).2 = 5 := by
  by_cases h : c.length = 64 ∧ good c 32
  · refine .inl ⟨by rw [parse_ok h.1 h.2], ?_⟩
    rw [parse_ok h.1 h.2, text_vals 32 h.2 (by omega), List.take_of_length_le (by omega)]
  · exact .inr (by rw [parse_bad h])
end Sh
/-- What a digest's text is read as. -/
theorem parse_told (d : List Nat) (hl : d.length = 32) (h : ∀ x ∈ d, x < 256) : Sh.parse (chars (txt (Sh.text d))) = (d, 0) := by
  rw [chars_txt _ (Sh.text_lt d h), Sh.parse_text d hl h]
/-- A text that is read is told again. -/
theorem told_parse (s : ByteArray) : (Sh.parse (chars s)).2 = 0 ∧ txt (Sh.text (Sh.parse (chars s)).1) = s ∨ (Sh.parse (chars s)).2 = 5 := by
  rcases Sh.parse_two (chars s) with ⟨h1, h2⟩ | h
  · exact .inl ⟨h1, by rw [h2, txt_chars]⟩
  · exact .inr h
end Go.Proofs.Ytejipcnihgpdhaa
