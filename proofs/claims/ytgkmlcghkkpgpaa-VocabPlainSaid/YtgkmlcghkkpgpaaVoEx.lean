/-
  The vocabulary of stooklaw08.works.
-/
import Derived.Test.YtgkmlcghkkpgpaaRVoG
import Derived.Test.YtgkmlcghkkpgpaaRVoF
namespace Go.Proofs.Ytgkmlcghkkpgpaa.Vo

theorem texts_plain (n : Nat) : texts (plain n) = (List.range n).map (fun b => [b]) := by
  induction n with
  | zero => rfl
  | succ n ih => rw [plain_succ, texts_snoc, ih, List.range_succ, List.map_append]; rfl
theorem plain_at {n k : Nat} (h : k < n) : (plain n)[k]? = some ⟨false, k, 0, 0, 0⟩ := by simp [plain, h]
theorem plain_take {n k : Nat} (h : k ≤ n) : (plain n).take k = plain k := by
  unfold plain
  rw [← List.map_take, List.take_range, Nat.min_eq_left h]
theorem good_plain (n : Nat) : Good (plain n) := by
  intro k p hk
  have hl : k < n := by have := (List.getElem?_eq_some_iff.1 hk).1; rwa [plain_len] at this
  rw [plain_at hl] at hk
  obtain rfl := Option.some.inj hk
  rw [plain_take (by omega)]
  unfold errAt
  have hb : hasByte (plain k) ⟨false, k, 0, 0, 0⟩ = false := by
    unfold hasByte
    rw [List.any_eq_false]
    intro q hq
    simp only [plain, List.mem_map, List.mem_range] at hq
    obtain ⟨b, hb, rfl⟩ := hq
    simp
    omega
  rw [if_neg (by simp), if_neg (by simp), if_neg (by rw [hb]; simp)]
theorem bytesOf_plain (n : Nat) : bytesOf (plain n) = n := by
  unfold bytesOf
  rw [List.filter_eq_self.2 (by intro q hq; simp only [plain, List.mem_map, List.mem_range] at hq; obtain ⟨b, hb, rfl⟩ := hq; rfl), plain_len]
theorem may_plain : May (plain 256) := may_iff.2 ⟨by rw [plain_len]; omega, good_plain _, by rw [bytesOf_plain]; exact Nat.le_refl _⟩
theorem no_join_plain (n : Nat) (p : Pc) : hasJoin (plain n) p = false := by
  unfold hasJoin
  rw [List.any_eq_false]
  intro q hq
  simp only [plain, List.mem_map, List.mem_range] at hq
  obtain ⟨b, hb, rfl⟩ := hq
  simp
def jA : Pc := ⟨true, 0, 97, 98, 5⟩
def jB : Pc := ⟨true, 0, 256, 99, 2⟩
def ex : List Pc := plain 256 ++ [jA] ++ [jB]
theorem good_snoc' {P : List Pc} {p : Pc} (hg : Good P) (h : errAt P p = 0) : Good (P ++ [p]) := by
  have e : (P ++ [p]).take P.length = P := List.take_left
  have := good_snoc (P := P ++ [p]) (k := P.length) (p := p) (by rw [e]; exact hg) (by simp) (by rw [e]; exact h)
  rwa [List.take_of_length_le (by simp)] at this
theorem plain_get {n k : Nat} (h : k < n) : (texts (plain n)).getD k [] = [k] := by
  rw [texts_plain, List.getD_eq_getElem?_getD, List.getElem?_map, List.getElem?_range h]; rfl
theorem text_plain {n k : Nat} (h : k < n) : text (plain n) k = [k] := plain_get h
theorem tx_A : tx (texts (plain 256)) jA = [97, 98] := by
  have h := tx_join (D := plain 256) (p := jA) rfl
  have h1 : text (plain 256) jA.left.toNat = [97] := text_plain (k := 97) (by omega)
  have h2 : text (plain 256) jA.right.toNat = [98] := text_plain (k := 98) (by omega)
  rw [h, h1, h2]; rfl
theorem err_A : errAt (plain 256) jA = 0 := by
  rw [errAt_rest rfl rfl (by rw [plain_len]; show ¬ ((97 : Int) < 0 ∨ ((256 : Nat) : Int) ≤ 97 ∨ (98 : Int) < 0 ∨ ((256 : Nat) : Int) ≤ 98); omega), tx_A, if_neg (by simp), if_neg (by rw [no_join_plain]; simp)]
theorem len_A : (plain 256 ++ [jA]).length = 257 := by rw [List.length_append, plain_len]; rfl
theorem tx_B : tx (texts (plain 256 ++ [jA])) jB = [97, 98, 99] := by
  have h := tx_join (D := plain 256 ++ [jA]) (p := jB) rfl
  have hl : (texts (plain 256)).length = 256 := by rw [texts_len, plain_len]
  have h1 : text (plain 256 ++ [jA]) jB.left.toNat = [97, 98] := by
    show text (plain 256 ++ [jA]) 256 = _
    unfold text
    rw [texts_snoc, tx_A, List.getD_eq_getElem?_getD, List.getElem?_append_right (by omega), hl]; rfl
  have h2 : text (plain 256 ++ [jA]) jB.right.toNat = [99] := by
    show text (plain 256 ++ [jA]) 99 = _
    unfold text
    rw [texts_snoc, tx_A, List.getD_eq_getElem?_getD, List.getElem?_append_left (by omega), ← List.getD_eq_getElem?_getD]
    exact plain_get (by omega)
  rw [h, h1, h2]; rfl
theorem err_B : errAt (plain 256 ++ [jA]) jB = 0 := by
  have hj : hasJoin (plain 256 ++ [jA]) jB = false := by
    unfold hasJoin
    rw [List.any_append]
    have := no_join_plain 256 jB
    unfold hasJoin at this
    rw [this]
    rfl
  rw [errAt_rest rfl rfl (by rw [len_A]; show ¬ ((256 : Int) < 0 ∨ ((257 : Nat) : Int) ≤ 256 ∨ (99 : Int) < 0 ∨ ((257 : Nat) : Int) ≤ 99); omega), tx_B, if_neg (by simp), if_neg (by rw [hj]; simp)]
theorem len_ex : ex.length = 258 := by unfold ex; rw [List.length_append, len_A]; rfl
theorem bytes_ex : bytesOf ex = 256 := by
  unfold ex
  rw [bytesOf_join rfl, bytesOf_join rfl, bytesOf_plain]
theorem may_ex : May ex := may_iff.2 ⟨by rw [len_ex]; omega, good_snoc' (good_snoc' (good_plain _) err_A) err_B, by rw [bytes_ex]; exact Nat.le_refl _⟩
theorem text_ex : text ex 257 = [97, 98, 99] := by
  unfold text ex
  rw [texts_snoc, tx_B]
  have hl : (texts (plain 256 ++ [jA])).length = 257 := by rw [texts_len, len_A]
  rw [List.getD_eq_getElem?_getD, List.getElem?_append_right (by omega), hl]; rfl
theorem expand_ex : expandE ex 257 = ([97, 98, 99], 0) := by
  unfold expandE
  rw [if_pos may_ex, if_neg (by rw [len_ex]; omega)]
  show (text ex 257, 0) = _
  rw [text_ex]
theorem check_none : check [] = (7, 0) := by decide
theorem at_A : ex[256]? = some jA := by
  unfold ex
  rw [List.getElem?_append_left (by rw [len_A]; omega), List.getElem?_append_right (by rw [plain_len]; omega), plain_len]; rfl
theorem at_B : ex[257]? = some jB := by
  unfold ex
  rw [List.getElem?_append_right (by rw [len_A]; omega), len_A]; rfl
theorem at_low {k : Nat} (h : k < 256) : ex[k]? = some ⟨false, k, 0, 0, 0⟩ := by
  unfold ex
  rw [List.getElem?_append_left (by rw [len_A]; omega), List.getElem?_append_left (by rw [plain_len]; omega), plain_at h]
theorem joins_low {k : Nat} (h : k ≤ 256) : joinsTo ex k = [] := by
  induction k with
  | zero => rfl
  | succ k ih => rw [joinsTo_byte (at_low (by omega)) rfl, ih (by omega)]
theorem joins_ex : joinsE ex = [257, 256] := by
  have h1 : joinsTo ex 257 = [256] := by
    rw [joinsTo_join at_A rfl, joins_low (Nat.le_refl _)]; rfl
  have h2 : rankAt ex 256 = 5 := rankAt_of at_A
  have h3 : place ex [256] jB.rank = 0 := by
    unfold place
    rw [List.findIdx_cons, h2]
    rfl
  unfold joinsE
  rw [if_pos may_ex, len_ex, joinsTo_join at_B rfl, h1, h3]
  rfl
theorem plain_ok (n : Nat) (h : n ≤ 256) : ∀ q ∈ plain n, q.byte < 256 := by
  intro q hq
  simp only [plain, List.mem_map, List.mem_range] at hq
  obtain ⟨b, hb, rfl⟩ := hq
  show b < 256
  omega
end Go.Proofs.Ytgkmlcghkkpgpaa.Vo
