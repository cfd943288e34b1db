/-
  NdMath: Plain mathematics of chapter 18 (node): nodes, where a key stands, leaves that are set and cut, parts.
  KStr: The kind of elements string: slices of strings.
  Texts: stookref00.Texts answers whether two slices hold the same texts.
-/
import Derived.Test.YtlefkaoibokjdaaPc02
import Derived.Laws.Strings
import Derived.Test.YtlefkaoibokjdaaPc10
import Derived.Test.YtlefkaoibokjdaaProg
import Derived.Test.YtlefkaoibokjdaaPc01
import Derived.Deep.QuietTactic
import Derived.BigQuiet
namespace Go.Proofs.Ytlefkaoibokjdaa.Nd
open Go.RowKit
set_option linter.unusedVariables false
/-- A node. -/
structure Node where
  kind : Nat
  keys : List ByteArray
  vals : List ByteArray
  kids : List Int
def zero : Node := ⟨0, [], [], []⟩
/-- One text is below another one. -/
def bl (a b : ByteArray) : Bool := Op.bytesLess a.toList b.toList
def KeyOk (x : ByteArray) : Prop := 1 ≤ x.size ∧ x.size ≤ 40
def KeysOk (l : List ByteArray) : Prop := (∀ x ∈ l, KeyOk x) ∧ ∀ i, i < l.length → 0 < i → bl (l.getD (i - 1) ByteArray.empty) (l.getD i ByteArray.empty) = true
def Shape (n : Node) (leaf inner : Nat) : Prop :=
  (n.kind = 1 ∧ n.keys.length ≤ leaf ∧ n.vals.length = n.keys.length ∧ n.kids.length = 0) ∨ (n.kind = 2 ∧ 1 ≤ n.keys.length ∧ n.keys.length ≤ inner ∧ n.kids.length = n.keys.length + 1 ∧ n.vals.length = 0)
/-- A node, of at most so many keys. -/
def Right (n : Node) (leaf inner : Nat) : Prop := KeysOk n.keys ∧ (∀ v ∈ n.vals, v.size ≤ 40) ∧ (∀ k ∈ n.kids, 2 ≤ k ∧ k ≤ 65535) ∧ Shape n leaf inner
instance (x : ByteArray) : Decidable (KeyOk x) := by unfold KeyOk; infer_instance
instance (l : List ByteArray) : Decidable (KeysOk l) := by unfold KeysOk; infer_instance
instance (n : Node) (a b : Nat) : Decidable (Shape n a b) := by unfold Shape; infer_instance
instance (n : Node) (a b : Nat) : Decidable (Right n a b) := by unfold Right; infer_instance
def rightB (n : Node) (a b : Nat) : Bool := decide (Right n a b)
def wide (n : Node) : Bool := rightB n 12 13
def may (n : Node) : Bool := rightB n 6 6
section
variable {l : List ByteArray} {k : Nat} {x y : ByteArray}
theorem keys_nil : KeysOk [] := ⟨by simp, by simp⟩
theorem KeysOk.at_ (h : KeysOk l) (hx : l[k]? = some x) : KeyOk x ∧ ∀ y, 0 < k → l[k - 1]? = some y → bl y x = true := by
  refine ⟨h.1 x (List.mem_of_getElem? hx), fun y hk hy => ?_⟩
  have h2 := h.2 k (List.getElem?_eq_some_iff.1 hx).1 hk
  rw [List.getD_eq_getElem?_getD, List.getD_eq_getElem?_getD, hx, hy] at h2
  exact h2
theorem keys_succ (h : KeysOk (l.take k)) (hx : l[k]? = some x) (hk : KeyOk x) (hy : ∀ y, 0 < k → l[k - 1]? = some y → bl y x = true) : KeysOk (l.take (k + 1)) := by
  have hkl : k < l.length := (List.getElem?_eq_some_iff.1 hx).1
  have et : l.take (k + 1) = l.take k ++ [x] := by rw [List.take_add_one, hx]; rfl
  refine ⟨fun z hz => ?_, fun i hi h0 => ?_⟩
  · rw [et] at hz
    rcases List.mem_append.1 hz with hz | hz
    · exact h.1 z hz
    · simp at hz; subst hz; exact hk
  · rw [List.length_take] at hi
    have e1 : ∀ j, j < k + 1 → (l.take (k + 1)).getD j ByteArray.empty = l.getD j ByteArray.empty := fun j hj => by
      rw [List.getD_eq_getElem?_getD, List.getD_eq_getElem?_getD, List.getElem?_take, if_pos hj]
    have e2 : ∀ j, j < k → (l.take k).getD j ByteArray.empty = l.getD j ByteArray.empty := fun j hj => by
      rw [List.getD_eq_getElem?_getD, List.getD_eq_getElem?_getD, List.getElem?_take, if_pos hj]
    rw [e1 _ (by omega), e1 _ (by omega)]
    by_cases hik : i = k
    · subst hik
      have hp : i - 1 < l.length := by omega
      rw [List.getD_eq_getElem?_getD, List.getD_eq_getElem?_getD, hx]
      rw [List.getElem?_eq_getElem hp]
      exact hy _ h0 (List.getElem?_eq_getElem hp)
    · have h2 := h.2 i (by rw [List.length_take]; omega) h0
      rwa [e2 _ (by omega), e2 _ (by omega)] at h2
end
theorem all_succ {α : Type} {p : α → Prop} {l : List α} {k : Nat} {x : α} (h : ∀ v ∈ l.take k, p v) (hx : l[k]? = some x) (hp : p x) : ∀ v ∈ l.take (k + 1), p v := by
  intro v hv
  rw [List.take_add_one, hx] at hv
  rcases List.mem_append.1 hv with hv | hv
  · exact h v hv
  · simp at hv; subst hv; exact hp
/-- How many keys are below one. -/
def below (l : List ByteArray) (key : ByteArray) : Nat := l.countP (fun x => bl x key)
def isAt (l : List ByteArray) (key : ByteArray) : Bool := decide (l[below l key]? = some key)
def kid (l : List ByteArray) (key : ByteArray) : Nat := l.countP (fun x => !(bl key x))
theorem count_succ {l : List ByteArray} {k : Nat} {x : ByteArray} {p : ByteArray → Bool} (h : l[k]? = some x) : (l.take (k + 1)).countP p = (l.take k).countP p + (if p x then 1 else 0) := by
  rw [List.take_add_one, h, List.countP_append]
  simp [List.countP_cons]
theorem below_le (l : List ByteArray) (key : ByteArray) : below l key ≤ l.length := List.countP_le_length
/-- A list with an element set at a place, or put in there. -/
def put1 {α : Type} (l : List α) (k : Nat) (is : Bool) (x : α) : List α := l.take k ++ x :: l.drop (if is then k + 1 else k)
def setE (n : Node) (key value : ByteArray) : Node × Nat :=
  if n.kind ≠ 1 ∨ ¬ Right n 12 13 ∨ ¬ KeyOk key ∨ 40 < value.size then (zero, 2)
  else if isAt n.keys key = false ∧ 12 ≤ n.keys.length then (zero, 3)
  else (⟨1, put1 n.keys (below n.keys key) (isAt n.keys key) key, put1 n.vals (below n.keys key) (isAt n.keys key) value, []⟩, 0)
def cutE (n : Node) (key : ByteArray) : Node × Nat :=
  if n.kind ≠ 1 ∨ ¬ Right n 12 13 then (zero, 2)
  else if isAt n.keys key = false then (zero, 7)
  else (⟨1, n.keys.take (below n.keys key) ++ n.keys.drop (below n.keys key + 1), n.vals.take (below n.keys key) ++ n.vals.drop (below n.keys key + 1), []⟩, 0)
def partE (n : Node) : Node × ByteArray × Node × Nat :=
  if ¬ Right n 12 13 ∨ n.keys.length ≤ 6 then (zero, ByteArray.empty, zero, 2)
  else if n.kind = 1 then
    (⟨1, n.keys.take (n.keys.length - n.keys.length / 2), n.vals.take (n.keys.length - n.keys.length / 2), []⟩, n.keys.getD (n.keys.length - n.keys.length / 2) ByteArray.empty, ⟨1, n.keys.drop (n.keys.length - n.keys.length / 2), n.vals.drop (n.keys.length - n.keys.length / 2), []⟩, 0)
  else
    (⟨n.kind, n.keys.take (n.keys.length / 2), [], n.kids.take (n.keys.length / 2 + 1)⟩, n.keys.getD (n.keys.length / 2) ByteArray.empty, ⟨n.kind, n.keys.drop (n.keys.length / 2 + 1), [], n.kids.drop (n.keys.length / 2 + 1)⟩, 0)
def joined (a : Node) (sep : ByteArray) (b : Node) : Node := ⟨a.kind, (if a.kind = 2 then a.keys ++ [sep] else a.keys) ++ b.keys, a.vals ++ b.vals, a.kids ++ b.kids⟩
def joinE (a : Node) (sep : ByteArray) (b : Node) : Node × Nat :=
  if ¬ Right a 12 13 ∨ ¬ Right b 12 13 ∨ a.kind ≠ b.kind ∨ ¬ KeyOk sep then (zero, 2)
  else if a.kind = 1 ∧ ((∃ x ∈ a.keys, bl x sep = false) ∨ ∃ x ∈ b.keys, bl x sep = true) then (zero, 2)
  else if ¬ Right (joined a sep b) 12 13 then (zero, 2) else (joined a sep b, 0)
end Go.Proofs.Ytlefkaoibokjdaa.Nd
namespace Go.Proofs.Ytlefkaoibokjdaa
open Go.ChangeShapes Go.WideShapes Go.RowKit
set_option linter.unusedVariables false

def sK : El Try.prog ByteArray where
  e := 9
  s := 23
  size := 1
  bytes := 16
  zero := .string ByteArray.empty
  z := ByteArray.empty
  enc := fun x => [.string x]
  ok := fun x => x.size ≤ maxLen
  len := fun _ => rfl
  one := fun x u hu => by simp at hu; subst hu; rfl
  okz := by simp [maxLen]
  encz := rfl
  pos := by decide
  under := Try.underlying23
  info := by kernel_rfl

section
variable {w : World} {base B n c : Nat} {A : Option Addr} {l : List ByteArray}
theorem Lv.str_ (h : Lv sK w B (.slice A n c) l) {k : Nat} (hk : k < l.length) :
    ∃ b off x, A = some ⟨b, off, none⟩ ∧ b < B ∧ x.size ≤ maxLen ∧ l[k]? = some x ∧ w.cell? ⟨b, off + k, none⟩ = some (.string x) := by
  obtain ⟨b, off, x, h1, h2, h3, h4, h5⟩ := h.at_ hk
  have h6 := h5 0 (.string x) rfl
  refine ⟨b, off, x, h1, h2, h3, h4, ?_⟩
  have e : off + (k * sK.size + 0) = off + k := by show off + (k * 1 + 0) = _; omega
  rw [e] at h6
  exact h6
end
theorem strs_in {H : Type} {enc : TypeId × Value → H} {w : World} {sp : Nat → Bool} {held : Bool} {fuel : Nat} {a : Option Addr} {len cap : Nat} {x : DataW H × List MemPlace} (h : DataW.trod enc Try.prog w 0 sp held fuel 23 [.slice a len cap] = some x) :
    ∃ l : List ByteArray, l.length = len ∧ Lv sK w w.heap.size (.slice a len cap) l :=
  lv_open sK (by kernel_rfl) (fun fuel cs x h => by
    obtain ⟨s, rfl, _, hs⟩ := DataW.trod_string Try.underlying9 h
    exact ⟨s, hs, rfl⟩) h
end Go.Proofs.Ytlefkaoibokjdaa
namespace Go.Proofs.Ytlefkaoibokjdaa
open Go.RowKit
set_option linter.unusedVariables false

theorem str_inj {x y : ByteArray} (h : x.toList = y.toList) : x = y := by
  rw [ByteArray.toList_eq, ByteArray.toList_eq] at h
  apply ByteArray.ext
  exact Array.toList_inj.1 h

set_option maxHeartbeats 400000 in
theorem texts_ne (A A' : Option Addr) (la lb : List ByteArray) (c c' : Nat) (w : World) (hlen : la.length ≤ maxLen) (hlen' : lb.length ≤ maxLen) (hne : la.length ≠ lb.length) :
    Calls Try.prog 47 #[.slice A la.length c, .slice A' lb.length c'] w (IsBool false w) := by
  unfold maxLen at hlen hlen'
  have hq : (((la.length : Nat) : Int) != ((lb.length : Nat) : Int)) = true := by rw [bne_iff_ne]; omega
  go_enter Try.func47, Try.ntmps47
  go_wp2
  go_ret
  exact ⟨rfl, Below.refl _ _⟩

set_option maxHeartbeats 400000 in
theorem texts_eq (A A' : Option Addr) (la lb : List ByteArray) (c c' B B' : Nat) (w : World) (ha : Lv sK w B (.slice A la.length c) la) (hb : Lv sK w B' (.slice A' lb.length c') lb) (heq : la.length = lb.length) :
    Calls Try.prog 47 #[.slice A la.length c, .slice A' lb.length c'] w (IsBool (decide (la = lb)) w) := by
  have hlen : la.length ≤ 9223372036854775807 := by have := ha.len_; simp only [maxLen] at this; omega
  have hq : (((la.length : Nat) : Int) != ((lb.length : Nat) : Int)) = false := by rw [heq]; simp
  have HE := Lib.hid heq
  have hle : la.length ≤ lb.length := by omega
  have hge : lb.length ≤ la.length := by omega
  clear heq
  go_enter Try.func47, Try.ntmps47
  go_wp2
  go_loopw [5] (fun i wr => ∃ k : Nat, k ≤ la.length ∧ i = .int .i64 k ∧ Hid (la.take k = lb.take k) ∧ Below w.heap.size w wr ∧ Hid (Lv sK wr B (.slice A la.length c) la) ∧ Hid (Lv sK wr B' (.slice A' lb.length c') lb)) (fun i _ => la.length - (intOf i).toNat)
  case atStart => exact ⟨0, by omega, rfl, by simp [Hid], Below.refl _ _, ha, hb⟩
  case round =>
    obtain ⟨k, hk, rfl, HT, hbel, HA, HB⟩ := hrel
    by_cases hlt : k < la.length
    · obtain ⟨b1, o1, x, rfl, hb1, hx, hd, hcell⟩ := HA.out.str_ hlt
      obtain ⟨b2, o2, y, rfl, hb2, hy, hd', hcell'⟩ := HB.out.str_ (k := k) (by omega)
      have HS := Lib.hid (take_both HT.out hd hd')
      clear hd hd' ha hb hx hy
      have hlt' : k < lb.length := by omega
      by_cases hxy : x = y
      · subst hxy
        have hq2 : (x.toList == x.toList) = true := by simp
        go_wp2
        go_quiet (fail)
        go_wp2
        go_roundw
        case rel => exact ⟨k + 1, by omega, by go_num, HS.out.2 (by simp), below_drewN hbel _, HA.out, HB.out⟩
        case measure => simp [intOf]; omega
      · have hq2 : (x.toList == y.toList) = false := by rw [beq_eq_false_iff_ne]; exact fun e => hxy (str_inj e)
        go_wp2
        go_quiet (fail)
        go_wp2
        go_ret
        have hne : la ≠ lb := take_unlike (fun e => hxy (HS.out.1 e))
        exact ⟨by simp [hne], below_drewN hbel _⟩
    · go_wp2
      go_ret
      have h1 : la = lb := take_whole HT.out (by omega) (by omega)
      exact ⟨by simp [h1], hbel⟩

theorem texts_lv (v v' : Value) (la lb : List ByteArray) (B B' : Nat) (w : World) (h : Lv sK w B v la) (h' : Lv sK w B' v' lb) :
    Calls Try.prog 47 #[v, v'] w (IsBool (decide (la = lb)) w) := by
  have k := h
  have k' := h'
  obtain ⟨A, c, rfl, h1, h2, _⟩ := h
  obtain ⟨A', c', rfl, h1', h2', _⟩ := h'
  by_cases he : la.length = lb.length
  · exact texts_eq A A' la lb c c' B B' w k k' he
  · have hne : la ≠ lb := fun e => he (by rw [e])
    have := texts_ne A A' la lb c c' w (by omega) (by omega) he
    simpa [hne] using this
end Go.Proofs.Ytlefkaoibokjdaa
