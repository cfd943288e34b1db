/-
  KEnt: The kind of elements stookref14.entry: directories.
  Mp: Maps that a call makes: what stands at each key, as a function.
  MpK: Kinds of maps: keys that are integers or pairs of them (an array of two), elements that are integers.
-/
import Derived.Test.YtmcbjcbnckpfkaaGreatPt01
import Derived.Test.YtmcbjcbnckpfkaaGreatProg
import Derived.Test.YtmcbjcbnckpfkaaGreatPt05
import Derived.Test.YtmcbjcbnckpfkaaGreatPt08
import Derived.Test.YtmcbjcbnckpfkaaGreatPt03
import Derived.Maps.OwnSet
import Derived.WideKeyPair
import Derived.DeepKeys4
namespace Go.Proofs.YtmcbjcbnckpfkaaGreat
open Go.RowKit
set_option linter.unusedVariables false
def EntOk (x : ByteArray × Nat) : Prop := x.1.size ≤ maxLen ∧ x.2 < 2199023255552
def eK : El Tryz.prog (ByteArray × Nat) where
  e := 98
  s := 50
  size := 2
  bytes := 24
  zero := .agg #[.string ByteArray.empty, .int .i64 0]
  z := (ByteArray.empty, 0)
  enc := fun x => [.string x.1, .int .i64 (x.2 : Nat)]
  ok := EntOk
  len := fun _ => rfl
  one := fun x u hu => by simp at hu; rcases hu with rfl | rfl <;> rfl
  okz := by simp [EntOk, maxLen]
  encz := rfl
  pos := by decide
  under := Tryz.underlying50
  info := by kernel_rfl
section
variable {w : World} {base B n c : Nat} {A : Option Addr} {l : Sf.Dir}
theorem Lv.ent_ (h : Lv eK w B (.slice A n c) l) {k : Nat} (hk : k < l.length) :
    ∃ b off x, A = some ⟨b, off, none⟩ ∧ b < B ∧ EntOk x ∧ l[k]? = some x ∧ w.cell? ⟨b, off + k * 2, none⟩ = some (.string x.1) ∧ w.cell? ⟨b, off + k * 2 + 1, none⟩ = some (.int .i64 (x.2 : Nat)) := by
  obtain ⟨b, off, x, h1, h2, h3, h4, h5⟩ := h.at_ hk
  exact ⟨b, off, x, h1, h2, h3, h4, h5 0 _ rfl, h5 1 _ rfl⟩
end
theorem name_eq (x y : ByteArray) : (x.toList == y.toList) = decide (x = y) := by
  rw [Bool.eq_iff_iff, beq_iff_eq, decide_eq_true_eq]
  exact ⟨fun h => str_inj h, fun h => by rw [h]⟩
namespace Sf
/-- The place of a name. -/
def place (d : Dir) (s : ByteArray) : Option Nat := d.findIdx? (fun e => decide (e.1 = s))
theorem find_place (d : Dir) (s : ByteArray) : find d s = (place d s).bind fun i => (d[i]?).map (·.2) := by
  unfold find place
  induction d with
  | nil => rfl
  | cons x d ih =>
    by_cases hx : x.1 = s
    · rw [List.find?_cons_of_pos (by simpa using hx), List.findIdx?_cons, if_pos (by simpa using hx)]
      rfl
    · rw [List.find?_cons_of_neg (by simpa using hx), List.findIdx?_cons, if_neg (by simpa using hx), ih]
      cases h : d.findIdx? (fun e => decide (e.1 = s)) <;> rfl
theorem place_at {d : Dir} {s : ByteArray} {k : Nat} {x : ByteArray × Nat} (h0 : ∀ e ∈ d.take k, e.1 ≠ s) (hx : d[k]? = some x) (hs : x.1 = s) : place d s = some k := by
  unfold place
  rw [List.findIdx?_eq_some_iff_getElem]
  have hk := (List.getElem?_eq_some_iff.1 hx).1
  refine ⟨hk, ?_, fun j hj => ?_⟩
  · rw [List.getElem?_eq_getElem hk] at hx
    rw [Option.some.inj hx]
    simpa using hs
  · have := h0 d[j] (List.mem_take_iff_getElem.2 ⟨j, by omega, rfl⟩)
    simpa using this
theorem place_none {d : Dir} {s : ByteArray} (h : ∀ e ∈ d, e.1 ≠ s) : place d s = none := by
  unfold place
  rw [List.findIdx?_eq_none_iff]
  intro x hx
  simpa using h x hx
end Sf
end Go.Proofs.YtmcbjcbnckpfkaaGreat
namespace Go.Proofs.YtmcbjcbnckpfkaaGreat
open Go.RowKit Go.Maps
set_option linter.unusedVariables false

/-- A kind of maps: their type, what keys and elements are written as. -/
structure MpK (P : Program) (κ β : Type) where
  t : TypeId
  k : TypeId
  e : TypeId
  key : κ → Value
  lit : κ → Lit
  ok : κ → Prop
  val : β → Value
  z : β
  read : Value → Option (DataW Unit × List MemPlace)
  dat : β → DataW Unit
  keyed : Keyed P k
  under : P.underlying t = some (.map k e)
  law : ∀ x, ok x → keyOf P k (key x) = some (lit x)
  inj : ∀ x y, key x = key y → x = y
  zero : ∀ w, (zeroValue e).run P w = .ok (val z) w
  readVal : ∀ y, read (val y) = some (dat y, [])
  readInv : ∀ v y ps, read v = some (dat y, ps) → v = val y

section
variable {P : Program} {κ β : Type} {K : MpK P κ β} {w w' : World} {b n : Nat} {f : κ → Option β}
/-- Block b is a map of at most n entries, of which f tells what stands at each key. -/
def IsMp (K : MpK P κ β) (w : World) (b n : Nat) (f : κ → Option β) : Prop :=
  ∃ D : DataW Unit, w.ownsMap P K.k K.read b n D ∧ ∀ x, K.ok x → Maps.has D (K.lit x) = (f x).isSome ∧ ∀ d, D.atKey (K.lit x) d = (match f x with | some y => K.dat y | none => d)
theorem IsMp.made (K : MpK P κ β) (w : World) : IsMp K (w.alloc (.map #[] 0)) w.heap.size 0 (fun _ => none) :=
  ⟨_, World.ownsMap_made w P K.k K.read, fun x _ => ⟨rfl, fun d => rfl⟩⟩
theorem IsMp.of_block (h : IsMp K w b n f) (hb : w'.heap[b]? = w.heap[b]?) : IsMp K w' b n f := by
  obtain ⟨D, ⟨es, clock, h1, h2, h3, h4⟩, h5⟩ := h
  exact ⟨D, ⟨es, clock, hb.trans h1, h2, h3, h4⟩, h5⟩
theorem IsMp.lt_ (h : IsMp K w b n f) : b < w.heap.size := by
  obtain ⟨D, h, _⟩ := h
  exact h.lt
theorem IsMp.drew_ (h : IsMp K w b n f) : IsMp K w.drew b n f := h.of_block rfl
theorem IsMp.below_ (h : IsMp K w b n f) {B : Nat} (hb : Below B w w') (hB : b < B) : IsMp K w' b n f := h.of_block (hb.block b hB)
theorem IsMp.turned_ {F : Nat → Prop} (h : IsMp K w b n f) (ht : Turned F w w') (hF : ¬ F b) : IsMp K w' b n f := h.of_block (ht.block b h.lt_ hF)
theorem IsMp.congr_ {g : κ → Option β} (h : IsMp K w b n f) (hg : ∀ x, K.ok x → f x = g x) : IsMp K w b n g := by
  obtain ⟨D, h1, h2⟩ := h
  exact ⟨D, h1, fun x hx => by rw [← hg x hx]; exact h2 x hx⟩
theorem IsMp.mono_ (h : IsMp K w b n f) {m : Nat} (hm : n ≤ m) : IsMp K w b m f := by
  obtain ⟨D, h1, h2⟩ := h
  exact ⟨D, h1.mono hm, h2⟩
/-- 'm[k]'. -/
theorem IsMp.look (h : IsMp K w b n f) {x : κ} (hx : K.ok x) : (Instr.lookup K.t (.map (some b)) (K.key x) false).run P w = .ok (K.val ((f x).getD K.z)) w := by
  obtain ⟨D, h1, h2⟩ := h
  obtain ⟨v, ps, hr, hv⟩ := h1.lookup K.keyed K.under (K.zero w) (K.readVal K.z) (K.law x hx)
  rw [(h2 x hx).2] at hv
  have e : v = K.val ((f x).getD K.z) := by
    cases hf : f x with
    | none => rw [hf] at hv; exact K.readInv _ _ _ hv
    | some y => rw [hf] at hv; exact K.readInv _ _ _ hv
  rw [← e]; exact hr
/-- 'v, ok := m[k]'. -/
theorem IsMp.look_ok (h : IsMp K w b n f) {x : κ} (hx : K.ok x) : (Instr.lookup K.t (.map (some b)) (K.key x) true).run P w = .ok (.tuple #[K.val ((f x).getD K.z), .bool (f x).isSome]) w := by
  obtain ⟨D, h1, h2⟩ := h
  obtain ⟨v, ps, hr, hv⟩ := h1.look_ok K.keyed K.under (K.zero w) (K.readVal K.z) (K.law x hx)
  rw [(h2 x hx).2] at hv
  rw [(h2 x hx).1] at hr
  have e : v = K.val ((f x).getD K.z) := by
    cases hf : f x with
    | none => rw [hf] at hv; exact K.readInv _ _ _ hv
    | some y => rw [hf] at hv; exact K.readInv _ _ _ hv
  rw [← e]; exact hr
/-- 'm[k] = v'. -/
theorem IsMp.upd [DecidableEq κ] (h : IsMp K w b n f) (hn : n < maxLen) {x : κ} (hx : K.ok x) (y : β) :
    ∃ w', (Instr.mapUpdate K.t (.map (some b)) (K.key x) (K.val y)).run P w = .ok () w' ∧ IsMp K w' b (n + 1) (fun k => if k = x then some y else f k) ∧ w.grownBy w' (some b) := by
  obtain ⟨D, h1, h2⟩ := h
  obtain ⟨w', hr, h3, h4⟩ := h1.update K.keyed K.under hn (K.law x hx) (K.readVal y)
  refine ⟨w', hr, ⟨_, h3, fun k hk => ?_⟩, h4⟩
  have hkl := K.keyed.key (K.law x hx)
  show Maps.has (D.put (K.lit x) (K.dat y)) (K.lit k) = (if k = x then some y else f k).isSome ∧ ∀ d, (D.put (K.lit x) (K.dat y)).atKey (K.lit k) d = (match (if k = x then some y else f k) with | some y => K.dat y | none => d)
  by_cases e : k = x
  · subst e
    rw [if_pos rfl]
    exact ⟨has_put_same h1.isMap hkl _, fun d => atKey_put_same h1.isMap hkl _ d⟩
  · rw [if_neg e]
    have hne : K.lit k ≠ K.lit x := fun h => e (K.inj k x (K.keyed.inj (K.law k hk) (by rw [h]; exact K.law x hx)))
    exact ⟨(has_put_other hne _).trans (h2 k hk).1, fun d => (atKey_put_other hne _ d).trans ((h2 k hk).2 d)⟩
end
/-- 'm[k] = v' at the operation. -/
theorem wpList_mapUpdate_mp {P : Program} {κ β : Type} [DecidableEq κ] (w : World) {ops : Array Oper} {rest : List Oper} {o : Oper} {a : Act} {Q : Exit → Act → World → Prop} (K : MpK P κ β)
    (hg : o.guard = none) (m x v : Operand) (hop : o.op = Op.mapUpdate K.t m x v) (b n : Nat) (f : κ → Option β) (hm : a.eval m = .map (some b)) (hown : IsMp K w b n f) (hn : n < maxLen) (kx : κ) (hx : a.eval x = K.key kx) (hok : K.ok kx) (y : β) (hv : a.eval v = K.val y)
    (hK : ∀ w', IsMp K w' b (n + 1) (fun k => if k = kx then some y else f k) → w.grownBy w' (some b) → wpList P ops Q rest (a.put o.dst undef) w') :
    wpList P ops Q (o :: rest) a w := by
  refine wpList_plain hg fun K' hK' => ?_
  obtain ⟨w', hrun, r1, r2⟩ := hown.upd hn hok y
  unfold Oper.wp
  simp [execOp, hop, hm, hx, hv, hrun, Result.andThen]
  exact hK' _ _ (hK w' r1 r2)
end Go.Proofs.YtmcbjcbnckpfkaaGreat
namespace Go.Proofs.YtmcbjcbnckpfkaaGreat
open Go.RowKit Go.Maps
set_option linter.unusedVariables false

/-- What an integer reads as. -/
def readInt (q : IntKind) : Value → Option (DataW Unit × List MemPlace)
  | .int q' a => if q' = q then some (.lit (.int q a), []) else none
  | _ => none
theorem readInt_val (q : IntKind) (a : Int) : readInt q (.int q a) = some (.lit (.int q a), []) := by simp [readInt]
theorem readInt_inv (q : IntKind) (v : Value) (a : Int) (ps : List MemPlace) (h : readInt q v = some (.lit (.int q a), ps)) : v = .int q a := by
  cases v with
  | int q' b =>
    simp only [readInt] at h
    split at h
    · rename_i e
      subst e
      simp at h
      rw [h.1]
    · cases h
  | _ => simp [readInt] at h
section
variable {P : Program}
/-- map[int kind]int kind. -/
def mpInt (t k e : TypeId) (qk qe : IntKind) (ht : P.underlying t = some (.map k e)) (hk : P.underlying k = some (.int qk)) (hz : ∀ w, (zeroValue e).run P w = .ok (.int qe 0) w) : MpK P Int Int where
  t := t
  k := k
  e := e
  key := fun x => .int qk x
  lit := fun x => .int qk x
  ok := fun x => (Lit.int qk x).wf = true
  val := fun y => .int qe y
  z := 0
  read := readInt qe
  dat := fun y => .lit (.int qe y)
  keyed := int_keyed hk
  under := ht
  law := fun x hx => keyOf_int_mk hk hx
  inj := fun x y h => by injection h
  zero := hz
  readVal := readInt_val qe
  readInv := readInt_inv qe
/-- map[[2]int kind]int kind. -/
def mpPair (t k ek e : TypeId) (qk qe : IntKind) (ht : P.underlying t = some (.map k e)) (A : WideMaps.ArrKey P k ek 2) (hek : P.underlying ek = some (.int qk)) (hsz : ∃ m, P.types.size = m + 1) (hlaw : WideMaps.KeyLaw P k) (hz : ∀ w, (zeroValue e).run P w = .ok (.int qe 0) w) : MpK P (Int × Int) Int where
  t := t
  k := k
  e := e
  key := fun x => .agg #[.int qk x.1, .int qk x.2]
  lit := fun x => .string (keyBytes [.int qk x.1, .int qk x.2])
  ok := fun x => (Lit.int qk x.1).wf = true ∧ (Lit.int qk x.2).wf = true
  val := fun y => .int qe y
  z := 0
  read := readInt qe
  dat := fun y => .lit (.int qe y)
  keyed := Keyed.of_law hlaw
  under := ht
  law := fun x hx => WideMaps.keyOf_pair A hek hsz hx.1 hx.2
  inj := fun x y h => by
    injection h with h
    simp at h
    exact Prod.ext h.1 h.2
  zero := hz
  readVal := readInt_val qe
  readInv := readInt_inv qe
end
end Go.Proofs.YtmcbjcbnckpfkaaGreat
