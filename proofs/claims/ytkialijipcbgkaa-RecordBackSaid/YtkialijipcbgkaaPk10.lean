/-
  MpK: Kinds of maps: keys that are integers or pairs of them (an array of two), elements that are integers.
  MpE: Maps that a call makes: the entry of a key is had first, its element is stored then; sets: elements that have no cells.
  PcEq: Two pieces are compared.
  FrameN: From what a row says of its arguments to the words of this text: numbers alone (a program that has no slices of bytes).
-/
import Derived.Test.YtkialijipcbgkaaPk09
import Derived.WideKeyPair
import Derived.DeepKeys4
import Derived.WideKeyEntry
import Derived.MapKept
import Derived.Test.YtkialijipcbgkaaPk03
import Derived.Laws.StructEq
import Derived.Test.YtkialijipcbgkaaRows
import Derived.Test.YtkialijipcbgkaaPk01
import Derived.ProofKit
import Derived.OpenShut
import Derived.ShutString
import Derived.ChangeOld
import Derived.Below
namespace Go.Proofs.Ytkialijipcbgkaa
open Go.RowKit Go.Maps
set_option linter.unusedVariables false

/-- What an integer reads as. -/
def readInt (q : IntKind) : Value → Option (DataW Unit × List MemPlace)
  | .int q' a => if q' = q then some (.lit (.int q a), []) else none
  | _ => none
theorem readInt_val (q : IntKind) (a : Int) : readInt q (.int q a) = some (.lit (.int q a), []) := by simp [readInt]
theorem readInt_inv (q : IntKind) (v : Value) (a : Int) (ps : List MemPlace) (h : readInt q v = some (.lit (.int q a), ps)) : v = .int q a := by
  cases v with
  | int q' b =>
    simp only [readInt] at h
    split at h
    · rename_i e
      subst e
      simp at h
      rw [h.1]
    · cases h
  | _ => simp [readInt] at h
section
variable {P : Program}
/-- map[int kind]int kind. -/
def mpInt (t k e : TypeId) (qk qe : IntKind) (ht : P.underlying t = some (.map k e)) (hk : P.underlying k = some (.int qk)) (hz : ∀ w, (zeroValue e).run P w = .ok (.int qe 0) w) : MpK P Int Int where
  t := t
  k := k
  e := e
  key := fun x => .int qk x
  lit := fun x => .int qk x
  ok := fun x => (Lit.int qk x).wf = true
  val := fun y => .int qe y
  z := 0
  read := readInt qe
  dat := fun y => .lit (.int qe y)
  keyed := int_keyed hk
  under := ht
  law := fun x hx => keyOf_int_mk hk hx
  inj := fun x y h => by injection h
  zero := hz
  readVal := readInt_val qe
  readInv := readInt_inv qe
/-- map[[2]int kind]int kind. -/
def mpPair (t k ek e : TypeId) (qk qe : IntKind) (ht : P.underlying t = some (.map k e)) (A : WideMaps.ArrKey P k ek 2) (hek : P.underlying ek = some (.int qk)) (hsz : ∃ m, P.types.size = m + 1) (hlaw : WideMaps.KeyLaw P k) (hz : ∀ w, (zeroValue e).run P w = .ok (.int qe 0) w) : MpK P (Int × Int) Int where
  t := t
  k := k
  e := e
  key := fun x => .agg #[.int qk x.1, .int qk x.2]
  lit := fun x => .string (keyBytes [.int qk x.1, .int qk x.2])
  ok := fun x => (Lit.int qk x.1).wf = true ∧ (Lit.int qk x.2).wf = true
  val := fun y => .int qe y
  z := 0
  read := readInt qe
  dat := fun y => .lit (.int qe y)
  keyed := Keyed.of_law hlaw
  under := ht
  law := fun x hx => WideMaps.keyOf_pair A hek hsz hx.1 hx.2
  inj := fun x y h => by
    injection h with h
    simp at h
    exact Prod.ext h.1 h.2
  zero := hz
  readVal := readInt_val qe
  readInv := readInt_inv qe
end
end Go.Proofs.Ytkialijipcbgkaa
namespace Go.Proofs.Ytkialijipcbgkaa
open Go.RowKit Go.Maps
set_option linter.unusedVariables false

section
variable {P : Program} {κ β : Type} {K : MpK P κ β} {w w' : World} {b n : Nat} {f : κ → Option β}
/-- What stands at block b between the two halves of 'm[k] = v': the stamp st finds the entry. -/
def Entered (K : MpK P κ β) (b n : Nat) (f : κ → Option β) (st : Nat) (o : Obj) : Prop :=
  ∀ (w2 : World) (y : β), w2.heap[b]? = some o → ∃ o' : Obj, (Instr.entryStore K.t (.map (some b)) (goInt st) (K.val y)).run P w2 = .ok () { w2 with heap := w2.heap.setIfInBounds b o' } ∧
    (∀ w3 : World, w3.heap[b]? = some o' → IsMp K w3 b n (fun k => f k))
theorem heap_set_same {w : World} {b : Nat} (o : Obj) (h : b < w.heap.size) : ({ w with heap := w.heap.setIfInBounds b o } : World).heap[b]? = some o := by simp [h]
theorem heap_set_other {w : World} {b k : Nat} (o : Obj) (h : k ≠ b) : ({ w with heap := w.heap.setIfInBounds b o } : World).heap[k]? = w.heap[k]? := by
  simp [Ne.symm h]
theorem grown_set (w : World) (b : Nat) (o : Obj) : w.grownBy { w with heap := w.heap.setIfInBounds b o } (some b) :=
  ⟨rfl, rfl, rfl, by simp, fun k _ hk => heap_set_other o (fun e => hk (by rw [e]))⟩
/-- The entry of a key. -/
theorem IsMp.entry [DecidableEq κ] (h : IsMp K w b n f) (hn : n < maxLen) {x : κ} (hx : K.ok x) (y0 : β) (hy0 : ∀ y, y = y0) :
    ∃ (v0 : Value) (st : Nat) (o : Obj), (Instr.mapEntry K.t (.map (some b)) (K.key x)).run P w = .ok (.tuple #[v0, goInt st]) { w with heap := w.heap.setIfInBounds b o } ∧ Entered K b (n + 1) (fun k => if k = x then some y0 else f k) st o := by
  have hup := fun y => h.upd hn hx y
  obtain ⟨D, ⟨es, clock, hb, F, hsz, _⟩, _⟩ := h
  have hkey := K.law x hx
  obtain ⟨s1, s2, _⟩ := F.stamped
  rcases K.keyed.find w hkey es.toList F.keys with ⟨h1, h2⟩ | ⟨j, e0, h1, h2, h3⟩
  · refine ⟨K.val K.z, clock, .map (es.push ⟨K.key x, K.val K.z, clock⟩) (clock + 1), ?_, fun w2 y hw2 => ⟨.map (es.push ⟨K.key x, K.val y, clock⟩) (clock + 1), ?_, fun w3 hw3 => ?_⟩⟩
    · simp [Instr.mapEntry, run_underlying K.under, MapKept.run_getObj_map hb, K.keyed.check w false hkey, h1, K.zero, MapKept.run_setObj_map _ hb, Result.andThen]
    · have hidx : (es.push ⟨K.key x, K.val K.z, clock⟩).findIdx? (fun e => ((e.born : Nat) : Int) == ((clock : Nat) : Int)) = some es.size := by
        rw [WideElems.findIdx_arr]
        exact WideElems.findIdx_born (l := (es.push ⟨K.key x, K.val K.z, clock⟩).toList) (j := es.size) (e0 := ⟨K.key x, K.val K.z, clock⟩) (by
          simp only [Array.toList_push, List.map_append, List.map_cons, List.map_nil]
          refine List.nodup_append.2 ⟨s2, by simp, fun a ha c hc e1 => ?_⟩
          simp only [List.mem_singleton] at hc
          obtain ⟨z, hz, rfl⟩ := List.mem_map.1 ha
          have := s1 z hz
          omega) (by simp)
      have hmod : (es.push ⟨K.key x, K.val K.z, clock⟩).modify es.size (fun e => { e with val := K.val y }) = es.push ⟨K.key x, K.val y, clock⟩ := by
        apply Array.ext'
        rw [Array.toList_modify, Array.toList_push, Array.toList_push, ← Array.length_toList, WideElems.modify_last]
      simp [Instr.entryStore, MapKept.run_getObj_map hw2, asInt, asIntOf, goInt, hidx, hmod, MapKept.run_setObj_map _ hw2, Result.andThen]
    · obtain ⟨w', hr, hm, _⟩ := hup y
      have hr2 : (Instr.mapUpdate K.t (.map (some b)) (K.key x) (K.val y)).run P w = .ok () { w with heap := w.heap.setIfInBounds b (.map (es.push ⟨K.key x, K.val y, clock⟩) (clock + 1)) } := by
        simp [Instr.mapUpdate, run_underlying K.under, MapKept.run_getObj_map hb, K.keyed.check w false hkey, h1, MapKept.run_setObj_map _ hb, Result.andThen]
      rw [hr] at hr2
      have e := (Result.ok.inj hr2).2
      rw [hy0 y] at hm
      exact hm.of_block (by rw [hw3, e, heap_set_same _ ((Array.getElem?_eq_some_iff.1 hb).1), hy0 y])
  · have hj : es[j]? = some e0 := by simpa using h2
    have hsame : es.modify j (fun e => { e with key := K.key x }) = es := by
      apply Array.ext'
      rw [Array.toList_modify, ChangeMaps.modify_eq_set _ _ _ _ h2]
      have : ({ e0 with key := K.key x } : MapEntry) = e0 := by rw [← h3]
      rw [this]
      exact WideElems.set_self _ _ _ h2
    refine ⟨e0.val, e0.born, .map es clock, ?_, fun w2 y hw2 => ⟨.map (es.modify j (fun e' => { e' with key := K.key x, val := K.val y })) clock, ?_, fun w3 hw3 => ?_⟩⟩
    · simp [Instr.mapEntry, run_underlying K.under, MapKept.run_getObj_map hb, K.keyed.check w false hkey, h1, hj, h3, K.keyed.stays w hkey, hsame, MapKept.run_setObj_map _ hb, Result.andThen]
    · have hidx : es.findIdx? (fun e => ((e.born : Nat) : Int) == ((e0.born : Nat) : Int)) = some j := by
        rw [WideElems.findIdx_arr]
        exact WideElems.findIdx_born s2 h2
      have hmod : es.modify j (fun e => { e with val := K.val y }) = es.modify j (fun e' => { e' with key := K.key x, val := K.val y }) := by
        apply Array.ext'
        rw [Array.toList_modify, Array.toList_modify, ChangeMaps.modify_eq_set _ _ _ _ h2, ChangeMaps.modify_eq_set _ _ _ _ h2, ← h3]
      simp [Instr.entryStore, MapKept.run_getObj_map hw2, asInt, asIntOf, goInt, hidx, hmod, MapKept.run_setObj_map _ hw2, Result.andThen]
    · obtain ⟨w', hr, hm, _⟩ := hup y
      have hr2 : (Instr.mapUpdate K.t (.map (some b)) (K.key x) (K.val y)).run P w = .ok () { w with heap := w.heap.setIfInBounds b (.map (es.modify j (fun e' => { e' with key := K.key x, val := K.val y })) clock) } := by
        simp [Instr.mapUpdate, run_underlying K.under, MapKept.run_getObj_map hb, K.keyed.check w false hkey, h1, hj, h3, K.keyed.stays w hkey, MapKept.run_setObj_map _ hb, Result.andThen]
      rw [hr] at hr2
      have e := (Result.ok.inj hr2).2
      rw [hy0 y] at hm
      exact hm.of_block (by rw [hw3, e, heap_set_same _ ((Array.getElem?_eq_some_iff.1 hb).1), hy0 y])
end
/-- What an element of no cells reads as. -/
def readUnit : Value → Option (DataW Unit × List MemPlace)
  | .agg cs => if cs.size = 0 then some (.agg [], []) else none
  | _ => none
theorem readUnit_inv (v : Value) (ps : List MemPlace) (h : readUnit v = some (.agg [], ps)) : v = .agg #[] := by
  cases v with
  | agg cs =>
    simp only [readUnit] at h
    split at h
    · rename_i e
      rw [Array.eq_empty_of_size_eq_zero e]
    · cases h
  | _ => simp [readUnit] at h
section
variable {P : Program}
/-- map[int kind]struct{}. -/
def mpSet (t k e : TypeId) (qk : IntKind) (ht : P.underlying t = some (.map k e)) (hk : P.underlying k = some (.int qk)) (hz : ∀ w, (zeroValue e).run P w = .ok (.agg #[]) w) : MpK P Int Unit where
  t := t
  k := k
  e := e
  key := fun x => .int qk x
  lit := fun x => .int qk x
  ok := fun x => (Lit.int qk x).wf = true
  val := fun _ => .agg #[]
  z := ()
  read := readUnit
  dat := fun _ => .agg []
  keyed := int_keyed hk
  under := ht
  law := fun x hx => keyOf_int_mk hk hx
  inj := fun x y h => by injection h
  zero := hz
  readVal := fun _ => by simp [readUnit]
  readInv := fun v _ ps h => readUnit_inv v ps h
/-- map[[2]int kind]struct{}. -/
def mpPairs (t k ek e : TypeId) (qk : IntKind) (ht : P.underlying t = some (.map k e)) (A : WideMaps.ArrKey P k ek 2) (hek : P.underlying ek = some (.int qk)) (hsz : ∃ m, P.types.size = m + 1) (hlaw : WideMaps.KeyLaw P k) (hz : ∀ w, (zeroValue e).run P w = .ok (.agg #[]) w) : MpK P (Int × Int) Unit where
  t := t
  k := k
  e := e
  key := fun x => .agg #[.int qk x.1, .int qk x.2]
  lit := fun x => .string (keyBytes [.int qk x.1, .int qk x.2])
  ok := fun x => (Lit.int qk x.1).wf = true ∧ (Lit.int qk x.2).wf = true
  val := fun _ => .agg #[]
  z := ()
  read := readUnit
  dat := fun _ => .agg []
  keyed := Keyed.of_law hlaw
  under := ht
  law := fun x hx => WideMaps.keyOf_pair A hek hsz hx.1 hx.2
  inj := fun x y h => by
    injection h with h
    simp at h
    exact Prod.ext h.1 h.2
  zero := hz
  readVal := fun _ => by simp [readUnit]
  readInv := fun v _ ps h => readUnit_inv v ps h
end
end Go.Proofs.Ytkialijipcbgkaa
namespace Go.Proofs.Ytkialijipcbgkaa
open Go.RowKit
set_option linter.unusedVariables false

namespace Vo
def eqB (p q : Pc) : Bool := p.join == q.join && (p.byte : Int) == (q.byte : Int) && p.left == q.left && p.right == q.right && (p.rank : Int) == (q.rank : Int)
theorem eqB_iff {p q : Pc} : eqB p q = true ↔ p = q := by
  obtain ⟨a, b, c, d, e⟩ := p
  obtain ⟨a', b', c', d', e'⟩ := q
  simp [eqB, and_assoc]
  omega
instance : DecidableEq Pc := fun p q => decidable_of_iff (eqB p q = true) eqB_iff
end Vo
theorem pc_equalIn (p q : Vo.Pc) (w : World) : (Op.equalIn 10000 85 (pcV p) (pcV q)).run Try.prog w = .ok (Vo.eqB p q) w := by
  have hS : Try.prog.underlying 85 = some (.struct (Try.prog.fieldsOf 85)) := by kernel_rfl
  obtain ⟨a, b, c, d, e⟩ := p
  obtain ⟨a', b', c', d', e'⟩ := q
  unfold pcV Vo.eqB
  rw [show (10000 : Nat) = 9999 + 1 from rfl, run_equalIn_agg w 9999 _ _ _ hS (by kernel_rfl)]
  simp only [Program.fieldsOf, Try.underlying85]
  go_simp
  by_cases h1 : a = a' <;> by_cases h2 : (b : Int) = b' <;> by_cases h3 : c = c' <;> by_cases h4 : d = d' <;> by_cases h5 : (e : Int) = e' <;> simp [h1, h2, h3, h4, h5]
theorem pc_guard : Try.prog.eqGuardType Try.prog.depth 85 = false := by kernel_rfl
theorem pc_neq (p q : Vo.Pc) (w : World) : (binOp .neq 85 (pcV p) (pcV q)).run Try.prog w = .ok (.bool (!Vo.eqB p q)) w := by
  have h := pc_equalIn p q w
  unfold pcV at h ⊢
  rw [run_neq_struct, h]
  rfl
end Go.Proofs.Ytkialijipcbgkaa
namespace Go.Proofs.Ytkialijipcbgkaa
open Go.ChangeShapes Go.WideShapes Go.ChangeAt Go.RowKit
open Go.ChangeMaps (open_string shut_string)
set_option linter.unusedVariables false

theorem own : ownKnob Try.prog.godebug = none := by kernel_rfl
theorem laidOut : laidOutB Try.prog = true := by kernel_rfl

theorem u64_nat {a : Int} (h : (Lit.int .u64 a).wf = true) : ∃ n : Nat, a = (n : Int) ∧ Mt.B64 n := by
  have hb := bounds_u64 h
  obtain ⟨n, rfl⟩ := Int.eq_ofNat_of_zero_le hb.1
  exact ⟨n, rfl, by unfold Mt.B64; omega⟩
theorem u8_nat {a : Int} (h : (Lit.int .u8 a).wf = true) : ∃ n : Nat, a = (n : Int) ∧ n < 256 := by
  have hb := bounds_u8 h
  obtain ⟨n, rfl⟩ := Int.eq_ofNat_of_zero_le hb.1
  exact ⟨n, rfl, by omega⟩
end Go.Proofs.Ytkialijipcbgkaa
