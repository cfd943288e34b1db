/-
  VoEx: The vocabulary of stooklaw08.works.
  Ints: stookref00.Ints answers whether two slices hold the same numbers.
  TextOf: Bytes that are read as a list, as a string.
-/
import Derived.Test.YtaedhccmdbodlaaPk27
import Derived.Test.YtaedhccmdbodlaaPk05
import Derived.Test.YtaedhccmdbodlaaPk02
import Derived.Test.YtaedhccmdbodlaaPk03
import Derived.Deep.QuietTactic
import Derived.BigQuiet
import Derived.Test.YtaedhccmdbodlaaPk06
import Derived.Laws.BytesArg
namespace Go.Proofs.Ytaedhccmdbodlaa.Vo

theorem no_join_plain (n : Nat) (p : Pc) : hasJoin (plain n) p = false := by
  unfold hasJoin
  rw [List.any_eq_false]
  intro q hq
  simp only [plain, List.mem_map, List.mem_range] at hq
  obtain ⟨b, hb, rfl⟩ := hq
  simp
def jA : Pc := ⟨true, 0, 97, 98, 5⟩
def jB : Pc := ⟨true, 0, 256, 99, 2⟩
def ex : List Pc := plain 256 ++ [jA] ++ [jB]
theorem good_snoc' {P : List Pc} {p : Pc} (hg : Good P) (h : errAt P p = 0) : Good (P ++ [p]) := by
  have e : (P ++ [p]).take P.length = P := List.take_left
  have := good_snoc (P := P ++ [p]) (k := P.length) (p := p) (by rw [e]; exact hg) (by simp) (by rw [e]; exact h)
  rwa [List.take_of_length_le (by simp)] at this
theorem plain_get {n k : Nat} (h : k < n) : (texts (plain n)).getD k [] = [k] := by
  rw [texts_plain, List.getD_eq_getElem?_getD, List.getElem?_map, List.getElem?_range h]; rfl
theorem text_plain {n k : Nat} (h : k < n) : text (plain n) k = [k] := plain_get h
theorem tx_A : tx (texts (plain 256)) jA = [97, 98] := by
  have h := tx_join (D := plain 256) (p := jA) rfl
  have h1 : text (plain 256) jA.left.toNat = [97] := text_plain (k := 97) (by omega)
  have h2 : text (plain 256) jA.right.toNat = [98] := text_plain (k := 98) (by omega)
  rw [h, h1, h2]; rfl
theorem err_A : errAt (plain 256) jA = 0 := by
  rw [errAt_rest rfl rfl (by rw [plain_len]; show ¬ ((97 : Int) < 0 ∨ ((256 : Nat) : Int) ≤ 97 ∨ (98 : Int) < 0 ∨ ((256 : Nat) : Int) ≤ 98); omega), tx_A, if_neg (by simp), if_neg (by rw [no_join_plain]; simp)]
theorem len_A : (plain 256 ++ [jA]).length = 257 := by rw [List.length_append, plain_len]; rfl
theorem tx_B : tx (texts (plain 256 ++ [jA])) jB = [97, 98, 99] := by
  have h := tx_join (D := plain 256 ++ [jA]) (p := jB) rfl
  have hl : (texts (plain 256)).length = 256 := by rw [texts_len, plain_len]
  have h1 : text (plain 256 ++ [jA]) jB.left.toNat = [97, 98] := by
    show text (plain 256 ++ [jA]) 256 = _
    unfold text
    rw [texts_snoc, tx_A, List.getD_eq_getElem?_getD, List.getElem?_append_right (by omega), hl]; rfl
  have h2 : text (plain 256 ++ [jA]) jB.right.toNat = [99] := by
    show text (plain 256 ++ [jA]) 99 = _
    unfold text
    rw [texts_snoc, tx_A, List.getD_eq_getElem?_getD, List.getElem?_append_left (by omega), ← List.getD_eq_getElem?_getD]
    exact plain_get (by omega)
  rw [h, h1, h2]; rfl
theorem err_B : errAt (plain 256 ++ [jA]) jB = 0 := by
  have hj : hasJoin (plain 256 ++ [jA]) jB = false := by
    unfold hasJoin
    rw [List.any_append]
    have := no_join_plain 256 jB
    unfold hasJoin at this
    rw [this]
    rfl
  rw [errAt_rest rfl rfl (by rw [len_A]; show ¬ ((256 : Int) < 0 ∨ ((257 : Nat) : Int) ≤ 256 ∨ (99 : Int) < 0 ∨ ((257 : Nat) : Int) ≤ 99); omega), tx_B, if_neg (by simp), if_neg (by rw [hj]; simp)]
theorem len_ex : ex.length = 258 := by unfold ex; rw [List.length_append, len_A]; rfl
theorem bytes_ex : bytesOf ex = 256 := by
  unfold ex
  rw [bytesOf_join rfl, bytesOf_join rfl, bytesOf_plain]
theorem may_ex : May ex := may_iff.2 ⟨by rw [len_ex]; omega, good_snoc' (good_snoc' (good_plain _) err_A) err_B, by rw [bytes_ex]; exact Nat.le_refl _⟩
theorem text_ex : text ex 257 = [97, 98, 99] := by
  unfold text ex
  rw [texts_snoc, tx_B]
  have hl : (texts (plain 256 ++ [jA])).length = 257 := by rw [texts_len, len_A]
  rw [List.getD_eq_getElem?_getD, List.getElem?_append_right (by omega), hl]; rfl
theorem expand_ex : expandE ex 257 = ([97, 98, 99], 0) := by
  unfold expandE
  rw [if_pos may_ex, if_neg (by rw [len_ex]; omega)]
  show (text ex 257, 0) = _
  rw [text_ex]
theorem check_none : check [] = (7, 0) := by decide
theorem at_A : ex[256]? = some jA := by
  unfold ex
  rw [List.getElem?_append_left (by rw [len_A]; omega), List.getElem?_append_right (by rw [plain_len]; omega), plain_len]; rfl
theorem at_B : ex[257]? = some jB := by
  unfold ex
  rw [List.getElem?_append_right (by rw [len_A]; omega), len_A]; rfl
theorem at_low {k : Nat} (h : k < 256) : ex[k]? = some ⟨false, k, 0, 0, 0⟩ := by
  unfold ex
  rw [List.getElem?_append_left (by rw [len_A]; omega), List.getElem?_append_left (by rw [plain_len]; omega), plain_at h]
theorem joins_low {k : Nat} (h : k ≤ 256) : joinsTo ex k = [] := by
  induction k with
  | zero => rfl
  | succ k ih => rw [joinsTo_byte (at_low (by omega)) rfl, ih (by omega)]
theorem joins_ex : joinsE ex = [257, 256] := by
  have h1 : joinsTo ex 257 = [256] := by
    rw [joinsTo_join at_A rfl, joins_low (Nat.le_refl _)]; rfl
  have h2 : rankAt ex 256 = 5 := rankAt_of at_A
  have h3 : place ex [256] jB.rank = 0 := by
    unfold place
    rw [List.findIdx_cons, h2]
    rfl
  unfold joinsE
  rw [if_pos may_ex, len_ex, joinsTo_join at_B rfl, h1, h3]
  rfl
theorem plain_ok (n : Nat) (h : n ≤ 256) : ∀ q ∈ plain n, q.byte < 256 := by
  intro q hq
  simp only [plain, List.mem_map, List.mem_range] at hq
  obtain ⟨b, hb, rfl⟩ := hq
  show b < 256
  omega
end Go.Proofs.Ytaedhccmdbodlaa.Vo
namespace Go.Proofs.Ytaedhccmdbodlaa
open Go.RowKit
set_option linter.unusedVariables false

set_option maxHeartbeats 400000 in
theorem ints_ne (A A' : Option Addr) (la lb : List Int) (c c' : Nat) (w : World) (hlen : la.length ≤ maxLen) (hlen' : lb.length ≤ maxLen) (hne : la.length ≠ lb.length) :
    Calls Try.prog 17 #[.slice A la.length c, .slice A' lb.length c'] w (IsBool false w) := by
  unfold maxLen at hlen hlen'
  have hq : (((la.length : Nat) : Int) != ((lb.length : Nat) : Int)) = true := by rw [bne_iff_ne]; omega
  go_enter Try.func17, Try.ntmps17
  go_wp2
  go_ret
  exact ⟨rfl, Below.refl _ _⟩

set_option maxHeartbeats 400000 in
theorem ints_eq (A A' : Option Addr) (la lb : List Int) (c c' B B' : Nat) (w : World) (ha : Lv iK w B (.slice A la.length c) la) (hb : Lv iK w B' (.slice A' lb.length c') lb) (heq : la.length = lb.length) :
    Calls Try.prog 17 #[.slice A la.length c, .slice A' lb.length c'] w (IsBool (decide (la = lb)) w) := by
  have hlen : la.length ≤ 9223372036854775807 := by have := ha.len_; simp only [maxLen] at this; omega
  have hq : (((la.length : Nat) : Int) != ((lb.length : Nat) : Int)) = false := by rw [heq]; simp
  have HE := Lib.hid heq
  have hle : la.length ≤ lb.length := by omega
  have hge : lb.length ≤ la.length := by omega
  clear heq
  go_enter Try.func17, Try.ntmps17
  go_wp2
  go_loopw [5] (fun i wr => ∃ k : Nat, k ≤ la.length ∧ i = .int .i64 k ∧ Hid (la.take k = lb.take k) ∧ Below w.heap.size w wr ∧ Hid (Lv iK wr B (.slice A la.length c) la) ∧ Hid (Lv iK wr B' (.slice A' lb.length c') lb)) (fun i _ => la.length - (intOf i).toNat)
  case atStart => exact ⟨0, by omega, rfl, by simp [Hid], Below.refl _ _, ha, hb⟩
  case round =>
    obtain ⟨k, hk, rfl, HT, hbel, HA, HB⟩ := hrel
    by_cases hlt : k < la.length
    · obtain ⟨b1, o1, x, rfl, hb1, hx, hd, hcell⟩ := HA.out.int_ hlt
      obtain ⟨b2, o2, y, rfl, hb2, hy, hd', hcell'⟩ := HB.out.int_ (k := k) (by omega)
      have HS := Lib.hid (take_both HT.out hd hd')
      clear hd hd' ha hb hx hy
      have hlt' : k < lb.length := by omega
      by_cases hxy : x = y
      · subst hxy
        have hq2 : ((x : Int) != (x : Int)) = false := by simp
        go_wp2
        go_quiet (fail)
        go_wp2
        go_roundw
        case rel => exact ⟨k + 1, by omega, by go_num, HS.out.2 (by simp), below_drewN hbel _, HA.out, HB.out⟩
        case measure => simp [intOf]; omega
      · have hq2 : ((x : Int) != (y : Int)) = true := by rw [bne_iff_ne]; omega
        go_wp2
        go_quiet (fail)
        go_wp2
        go_ret
        have hne : la ≠ lb := take_unlike (fun e => hxy (HS.out.1 e))
        exact ⟨by simp [hne], below_drewN hbel _⟩
    · go_wp2
      go_ret
      have h1 : la = lb := take_whole HT.out (by omega) (by omega)
      exact ⟨by simp [h1], hbel⟩

theorem ints_lv (v v' : Value) (la lb : List Int) (B B' : Nat) (w : World) (h : Lv iK w B v la) (h' : Lv iK w B' v' lb) :
    Calls Try.prog 17 #[v, v'] w (IsBool (decide (la = lb)) w) := by
  have k := h
  have k' := h'
  obtain ⟨A, c, rfl, h1, h2, _⟩ := h
  obtain ⟨A', c', rfl, h1', h2', _⟩ := h'
  by_cases he : la.length = lb.length
  · exact ints_eq A A' la lb c c' B B' w k k' he
  · have hne : la ≠ lb := fun e => he (by rw [e])
    have := ints_ne A A' la lb c c' w (by omega) (by omega) he
    simpa [hne] using this
end Go.Proofs.Ytaedhccmdbodlaa
namespace Go.Proofs.Ytaedhccmdbodlaa
open Go.RowKit
set_option linter.unusedVariables false

/-- A text of bytes that are read as a list. -/
theorem text_of {w : World} {B n c : Nat} {A : Option Addr} {l : List Nat} (h : Lv yK w B (.slice A n c) l) (h0 : 0 < l.length) :
    (convert 25 9 (.slice A n c)).run Try.prog w = .ok (.string (strOfNums (l.map (fun x : Nat => (x : Int))))) w := by
  obtain ⟨hn, _, _⟩ := h.len_
  obtain ⟨b, off, x, rfl, _⟩ := h.byte_ h0
  refine run_convert_bytes_arg w _ 5 Try.underlying25 Try.underlying5 b off n c _ (by simp [hn]) (fun i hi => ?_) _ Try.underlying9
  obtain ⟨b2, off2, y, e, _, _, hy, hc⟩ := h.byte_ (k := i) (by omega)
  obtain ⟨rfl, rfl⟩ : b = b2 ∧ off = off2 := by injection e with e; injection e with e1 e2; exact ⟨e1, e2⟩
  rw [hc]
  congr 2
  simp [List.getD_eq_getElem?_getD, hy]

end Go.Proofs.Ytaedhccmdbodlaa
