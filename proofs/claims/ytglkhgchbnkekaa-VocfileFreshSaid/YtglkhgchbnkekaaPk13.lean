/-
  MathC: Plain mathematics of chapter 1 (leb): what reading a number can tell.
  MathD: Plain mathematics of chapter 1 (leb): the document's own way of reading a number.
  Mp: Maps that a call makes: what stands at each key, as a function.
-/
import Derived.Test.YtglkhgchbnkekaaPk01
import Derived.Test.YtglkhgchbnkekaaPk06
import Derived.Maps.OwnSet
namespace Go.Proofs.Ytglkhgchbnkekaa.Mt
theorem rd_cases (f : Nat) : ∀ (i X : Nat) (s : List Nat), i + f = 9 → (∃ n k, rd i X s = (n, k, 0)) ∨ rd i X s = (0, 0, 4) ∨ rd i X s = (0, 0, 5) := by
  induction f with
  | zero =>
    intro i X s hi
    cases s with
    | nil => right; left; rfl
    | cons c r =>
      rw [rd]
      split
      · right; right; rfl
      · rw [if_pos (by omega)]; left; exact ⟨_, _, rfl⟩
  | succ f ih =>
    intro i X s hi
    cases s with
    | nil => right; left; rfl
    | cons c r =>
      rw [rd]
      split
      · right; right; rfl
      · by_cases h : c < 128
        · rw [if_pos h]; left; exact ⟨_, _, rfl⟩
        · rw [if_neg h]; exact ih (i + 1) _ r (by omega)

theorem get_cases {l : List Nat} (hl : ∀ x ∈ l, x < 256) (a : Int) :
    (∃ e, 2 ≤ e ∧ e ≤ 5 ∧ get l a = (0, 0, e)) ∨
    (∃ (k n : Nat) (r : List Nat), a = (k : Int) ∧ k < l.length ∧ B64 n ∧ l.drop k = put n ++ r ∧ k + (put n).length ≤ l.length ∧ get l a = (n, k + (put n).length, 0)) := by
  by_cases h : a < 0 ∨ (l.length : Int) < a
  · exact .inl ⟨2, by omega, by omega, get_arg h⟩
  · obtain ⟨k, rfl⟩ := Int.eq_ofNat_of_zero_le (show 0 ≤ a by omega)
    have hk : k ≤ l.length := by omega
    rcases rd_cases 9 0 0 (l.drop k) rfl with ⟨n, m, hr⟩ | hr | hr
    · obtain ⟨hb, hm, r, hs⟩ := rd_ok (fun x hx => hl x (List.mem_of_mem_drop hx)) hr
      have hlen := congrArg List.length hs
      have hp := put_len_pos n
      rw [List.length_drop, List.length_append] at hlen
      refine .inr ⟨k, n, r, rfl, by omega, hb, hs, by omega, ?_⟩
      rw [get_ok hk hr, hm]
    · exact .inl ⟨4, by omega, by omega, get_err hk hr (by decide)⟩
    · exact .inl ⟨5, by omega, by omega, get_err hk hr (by decide)⟩
end Go.Proofs.Ytglkhgchbnkekaa.Mt
namespace Go.Proofs.Ytglkhgchbnkekaa.Mt
theorem val_snoc (s : List Nat) (c : Nat) : val (s ++ [c]) = val s + c % 128 * 128 ^ s.length := by
  induction s with
  | nil => simp [val]
  | cons x r ih =>
    simp only [List.cons_append, val, ih, List.length_cons, Nat.pow_succ]
    rw [Nat.mul_add, ← Nat.mul_assoc, Nat.mul_comm 128 (c % 128), Nat.mul_assoc (c % 128), Nat.mul_comm 128 (128 ^ _)]
    omega
theorem val_lt (s : List Nat) : val s < 128 ^ s.length := by
  induction s with
  | nil => simp [val]
  | cons x r ih => simp only [val, List.length_cons, Nat.pow_succ]; omega
theorem val_drop (s : List Nat) : ∀ j, val (s.drop j) ≤ val s := by
  induction s with
  | nil => intro j; simp [val]
  | cons x r ih =>
    intro j
    cases j with
    | zero => simp
    | succ j => have := ih j; simp only [List.drop_succ_cons, val]; omega
theorem take_snoc {s : List Nat} {k c : Nat} {r : List Nat} (h : s.drop k = c :: r) : s.take (k + 1) = s.take k ++ [c] := by
  rw [List.take_add, h]; rfl
theorem val_take {s : List Nat} {k c : Nat} {r : List Nat} (h : s.drop k = c :: r) : val (s.take (k + 1)) = val (s.take k) + c % 128 * 128 ^ k := by
  have hk : k < s.length := by
    rcases Nat.lt_or_ge k s.length with h1 | h1
    · exact h1
    · rw [List.drop_of_length_le h1] at h; cases h
  rw [take_snoc h, val_snoc, List.length_take, Nat.min_eq_left (by omega)]
theorem val_small {s : List Nat} {k c : Nat} {r : List Nat} (h : s.drop k = c :: r) (hk : k ≤ 9) (hc : c < 128) (h9 : 8 < k → c < 2) : val (s.take (k + 1)) < 18446744073709551616 := by
  have h1 := val_lt (s.take k)
  have h2 : (s.take k).length ≤ k := List.length_take_le _ _
  have h3 : val (s.take k) < 128 ^ k := Nat.lt_of_lt_of_le h1 (Nat.pow_le_pow_right (by decide) h2)
  rw [val_take h, Nat.mod_eq_of_lt hc]
  by_cases h8 : 8 < k
  · obtain rfl : k = 9 := by omega
    have := h9 h8
    omega
  · have h4 : c * 128 ^ k ≤ 127 * 128 ^ k := Nat.mul_le_mul_right _ (by omega)
    have h5 : (128 : Nat) ^ k ≤ 128 ^ 8 := Nat.pow_le_pow_right (by decide) (by omega)
    omega
theorem drop_byte {l : List Nat} {a k c : Nat} (hd : l.drop (a + k) = c :: l.drop (a + k + 1)) : (l.drop a).drop k = c :: l.drop (a + k + 1) := by rw [List.drop_drop]; exact hd
theorem horner {s : List Nat} {p d : Nat} {r : List Nat} (h : s.drop p = d :: r) : val (s.drop p) = d % 128 + 128 * val (s.drop (p + 1)) := by
  have hr2 : s.drop (p + 1) = r := by
    have := congrArg (List.drop 1) h
    simpa [List.drop_drop] using this
  rw [hr2, h]; rfl
theorem rd_take {s : List Nat} {k c : Nat} {r : List Nat} (hr : rd 0 0 s = rd k (val (s.take k)) (s.drop k)) (h : s.drop k = c :: r) (h9 : ¬ (k = 9 ∧ 1 < c)) (hc : 128 ≤ c) : rd 0 0 s = rd (k + 1) (val (s.take (k + 1))) (s.drop (k + 1)) := by
  have hr2 : s.drop (k + 1) = r := by
    have := congrArg (List.drop 1) h
    simpa [List.drop_drop] using this
  rw [hr, h, rd_on h9 hc, val_take h, hr2]
end Go.Proofs.Ytglkhgchbnkekaa.Mt
namespace Go.Proofs.Ytglkhgchbnkekaa
open Go.RowKit Go.Maps
set_option linter.unusedVariables false

/-- A kind of maps: their type, what keys and elements are written as. -/
structure MpK (P : Program) (κ β : Type) where
  t : TypeId
  k : TypeId
  e : TypeId
  key : κ → Value
  lit : κ → Lit
  ok : κ → Prop
  val : β → Value
  z : β
  read : Value → Option (DataW Unit × List MemPlace)
  dat : β → DataW Unit
  keyed : Keyed P k
  under : P.underlying t = some (.map k e)
  law : ∀ x, ok x → keyOf P k (key x) = some (lit x)
  inj : ∀ x y, key x = key y → x = y
  zero : ∀ w, (zeroValue e).run P w = .ok (val z) w
  readVal : ∀ y, read (val y) = some (dat y, [])
  readInv : ∀ v y ps, read v = some (dat y, ps) → v = val y

section
variable {P : Program} {κ β : Type} {K : MpK P κ β} {w w' : World} {b n : Nat} {f : κ → Option β}
/-- Block b is a map of at most n entries, of which f tells what stands at each key. -/
def IsMp (K : MpK P κ β) (w : World) (b n : Nat) (f : κ → Option β) : Prop :=
  ∃ D : DataW Unit, w.ownsMap P K.k K.read b n D ∧ ∀ x, K.ok x → Maps.has D (K.lit x) = (f x).isSome ∧ ∀ d, D.atKey (K.lit x) d = (match f x with | some y => K.dat y | none => d)
theorem IsMp.made (K : MpK P κ β) (w : World) : IsMp K (w.alloc (.map #[] 0)) w.heap.size 0 (fun _ => none) :=
  ⟨_, World.ownsMap_made w P K.k K.read, fun x _ => ⟨rfl, fun d => rfl⟩⟩
theorem IsMp.of_block (h : IsMp K w b n f) (hb : w'.heap[b]? = w.heap[b]?) : IsMp K w' b n f := by
  obtain ⟨D, ⟨es, clock, h1, h2, h3, h4⟩, h5⟩ := h
  exact ⟨D, ⟨es, clock, hb.trans h1, h2, h3, h4⟩, h5⟩
theorem IsMp.lt_ (h : IsMp K w b n f) : b < w.heap.size := by
  obtain ⟨D, h, _⟩ := h
  exact h.lt
theorem IsMp.drew_ (h : IsMp K w b n f) : IsMp K w.drew b n f := h.of_block rfl
theorem IsMp.below_ (h : IsMp K w b n f) {B : Nat} (hb : Below B w w') (hB : b < B) : IsMp K w' b n f := h.of_block (hb.block b hB)
theorem IsMp.turned_ {F : Nat → Prop} (h : IsMp K w b n f) (ht : Turned F w w') (hF : ¬ F b) : IsMp K w' b n f := h.of_block (ht.block b h.lt_ hF)
theorem IsMp.congr_ {g : κ → Option β} (h : IsMp K w b n f) (hg : ∀ x, K.ok x → f x = g x) : IsMp K w b n g := by
  obtain ⟨D, h1, h2⟩ := h
  exact ⟨D, h1, fun x hx => by rw [← hg x hx]; exact h2 x hx⟩
theorem IsMp.mono_ (h : IsMp K w b n f) {m : Nat} (hm : n ≤ m) : IsMp K w b m f := by
  obtain ⟨D, h1, h2⟩ := h
  exact ⟨D, h1.mono hm, h2⟩
/-- 'm[k]'. -/
theorem IsMp.look (h : IsMp K w b n f) {x : κ} (hx : K.ok x) : (Instr.lookup K.t (.map (some b)) (K.key x) false).run P w = .ok (K.val ((f x).getD K.z)) w := by
  obtain ⟨D, h1, h2⟩ := h
  obtain ⟨v, ps, hr, hv⟩ := h1.lookup K.keyed K.under (K.zero w) (K.readVal K.z) (K.law x hx)
  rw [(h2 x hx).2] at hv
  have e : v = K.val ((f x).getD K.z) := by
    cases hf : f x with
    | none => rw [hf] at hv; exact K.readInv _ _ _ hv
    | some y => rw [hf] at hv; exact K.readInv _ _ _ hv
  rw [← e]; exact hr
/-- 'v, ok := m[k]'. -/
theorem IsMp.look_ok (h : IsMp K w b n f) {x : κ} (hx : K.ok x) : (Instr.lookup K.t (.map (some b)) (K.key x) true).run P w = .ok (.tuple #[K.val ((f x).getD K.z), .bool (f x).isSome]) w := by
  obtain ⟨D, h1, h2⟩ := h
  obtain ⟨v, ps, hr, hv⟩ := h1.look_ok K.keyed K.under (K.zero w) (K.readVal K.z) (K.law x hx)
  rw [(h2 x hx).2] at hv
  rw [(h2 x hx).1] at hr
  have e : v = K.val ((f x).getD K.z) := by
    cases hf : f x with
    | none => rw [hf] at hv; exact K.readInv _ _ _ hv
    | some y => rw [hf] at hv; exact K.readInv _ _ _ hv
  rw [← e]; exact hr
/-- 'm[k] = v'. -/
theorem IsMp.upd [DecidableEq κ] (h : IsMp K w b n f) (hn : n < maxLen) {x : κ} (hx : K.ok x) (y : β) :
    ∃ w', (Instr.mapUpdate K.t (.map (some b)) (K.key x) (K.val y)).run P w = .ok () w' ∧ IsMp K w' b (n + 1) (fun k => if k = x then some y else f k) ∧ w.grownBy w' (some b) := by
  obtain ⟨D, h1, h2⟩ := h
  obtain ⟨w', hr, h3, h4⟩ := h1.update K.keyed K.under hn (K.law x hx) (K.readVal y)
  refine ⟨w', hr, ⟨_, h3, fun k hk => ?_⟩, h4⟩
  have hkl := K.keyed.key (K.law x hx)
  show Maps.has (D.put (K.lit x) (K.dat y)) (K.lit k) = (if k = x then some y else f k).isSome ∧ ∀ d, (D.put (K.lit x) (K.dat y)).atKey (K.lit k) d = (match (if k = x then some y else f k) with | some y => K.dat y | none => d)
  by_cases e : k = x
  · subst e
    rw [if_pos rfl]
    exact ⟨has_put_same h1.isMap hkl _, fun d => atKey_put_same h1.isMap hkl _ d⟩
  · rw [if_neg e]
    have hne : K.lit k ≠ K.lit x := fun h => e (K.inj k x (K.keyed.inj (K.law k hk) (by rw [h]; exact K.law x hx)))
    exact ⟨(has_put_other hne _).trans (h2 k hk).1, fun d => (atKey_put_other hne _ d).trans ((h2 k hk).2 d)⟩
end
/-- 'm[k] = v' at the operation. -/
theorem wpList_mapUpdate_mp {P : Program} {κ β : Type} [DecidableEq κ] (w : World) {ops : Array Oper} {rest : List Oper} {o : Oper} {a : Act} {Q : Exit → Act → World → Prop} (K : MpK P κ β)
    (hg : o.guard = none) (m x v : Operand) (hop : o.op = Op.mapUpdate K.t m x v) (b n : Nat) (f : κ → Option β) (hm : a.eval m = .map (some b)) (hown : IsMp K w b n f) (hn : n < maxLen) (kx : κ) (hx : a.eval x = K.key kx) (hok : K.ok kx) (y : β) (hv : a.eval v = K.val y)
    (hK : ∀ w', IsMp K w' b (n + 1) (fun k => if k = kx then some y else f k) → w.grownBy w' (some b) → wpList P ops Q rest (a.put o.dst undef) w') :
    wpList P ops Q (o :: rest) a w := by
  refine wpList_plain hg fun K' hK' => ?_
  obtain ⟨w', hrun, r1, r2⟩ := hown.upd hn hok y
  unfold Oper.wp
  simp [execOp, hop, hm, hx, hv, hrun, Result.andThen]
  exact hK' _ _ (hK w' r1 r2)
end Go.Proofs.Ytglkhgchbnkekaa
