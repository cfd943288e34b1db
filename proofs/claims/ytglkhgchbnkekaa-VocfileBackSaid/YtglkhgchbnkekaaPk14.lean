/-
  MpK: Kinds of maps: keys that are integers or pairs of them (an array of two), elements that are integers.
  MpE: Maps that a call makes: the entry of a key is had first, its element is stored then; sets: elements that have no cells.
  Octs: stookref00.Same answers whether two slices hold the same numbers.
-/
import Derived.Test.YtglkhgchbnkekaaPk13
import Derived.WideKeyPair
import Derived.DeepKeys4
import Derived.WideKeyEntry
import Derived.MapKept
import Derived.Test.YtglkhgchbnkekaaPk05
import Derived.Test.YtglkhgchbnkekaaPk01
import Derived.Deep.QuietTactic
import Derived.BigQuiet
namespace Go.Proofs.Ytglkhgchbnkekaa
open Go.RowKit Go.Maps
set_option linter.unusedVariables false

/-- What an integer reads as. -/
def readInt (q : IntKind) : Value → Option (DataW Unit × List MemPlace)
  | .int q' a => if q' = q then some (.lit (.int q a), []) else none
  | _ => none
theorem readInt_val (q : IntKind) (a : Int) : readInt q (.int q a) = some (.lit (.int q a), []) := by simp [readInt]
theorem readInt_inv (q : IntKind) (v : Value) (a : Int) (ps : List MemPlace) (h : readInt q v = some (.lit (.int q a), ps)) : v = .int q a := by
  cases v with
  | int q' b =>
    simp only [readInt] at h
    split at h
    · rename_i e
      subst e
      simp at h
      rw [h.1]
    · cases h
  | _ => simp [readInt] at h
section
variable {P : Program}
/-- map[int kind]int kind. -/
def mpInt (t k e : TypeId) (qk qe : IntKind) (ht : P.underlying t = some (.map k e)) (hk : P.underlying k = some (.int qk)) (hz : ∀ w, (zeroValue e).run P w = .ok (.int qe 0) w) : MpK P Int Int where
  t := t
  k := k
  e := e
  key := fun x => .int qk x
  lit := fun x => .int qk x
  ok := fun x => (Lit.int qk x).wf = true
  val := fun y => .int qe y
  z := 0
  read := readInt qe
  dat := fun y => .lit (.int qe y)
  keyed := int_keyed hk
  under := ht
  law := fun x hx => keyOf_int_mk hk hx
  inj := fun x y h => by injection h
  zero := hz
  readVal := readInt_val qe
  readInv := readInt_inv qe
/-- map[[2]int kind]int kind. -/
def mpPair (t k ek e : TypeId) (qk qe : IntKind) (ht : P.underlying t = some (.map k e)) (A : WideMaps.ArrKey P k ek 2) (hek : P.underlying ek = some (.int qk)) (hsz : ∃ m, P.types.size = m + 1) (hlaw : WideMaps.KeyLaw P k) (hz : ∀ w, (zeroValue e).run P w = .ok (.int qe 0) w) : MpK P (Int × Int) Int where
  t := t
  k := k
  e := e
  key := fun x => .agg #[.int qk x.1, .int qk x.2]
  lit := fun x => .string (keyBytes [.int qk x.1, .int qk x.2])
  ok := fun x => (Lit.int qk x.1).wf = true ∧ (Lit.int qk x.2).wf = true
  val := fun y => .int qe y
  z := 0
  read := readInt qe
  dat := fun y => .lit (.int qe y)
  keyed := Keyed.of_law hlaw
  under := ht
  law := fun x hx => WideMaps.keyOf_pair A hek hsz hx.1 hx.2
  inj := fun x y h => by
    injection h with h
    simp at h
    exact Prod.ext h.1 h.2
  zero := hz
  readVal := readInt_val qe
  readInv := readInt_inv qe
end
end Go.Proofs.Ytglkhgchbnkekaa
namespace Go.Proofs.Ytglkhgchbnkekaa
open Go.RowKit Go.Maps
set_option linter.unusedVariables false

section
variable {P : Program} {κ β : Type} {K : MpK P κ β} {w w' : World} {b n : Nat} {f : κ → Option β}
/-- What stands at block b between the two halves of 'm[k] = v': the stamp st finds the entry. -/
def Entered (K : MpK P κ β) (b n : Nat) (f : κ → Option β) (st : Nat) (o : Obj) : Prop :=
  ∀ (w2 : World) (y : β), w2.heap[b]? = some o → ∃ o' : Obj, (Instr.entryStore K.t (.map (some b)) (goInt st) (K.val y)).run P w2 = .ok () { w2 with heap := w2.heap.setIfInBounds b o' } ∧
    (∀ w3 : World, w3.heap[b]? = some o' → IsMp K w3 b n (fun k => f k))
theorem heap_set_same {w : World} {b : Nat} (o : Obj) (h : b < w.heap.size) : ({ w with heap := w.heap.setIfInBounds b o } : World).heap[b]? = some o := by simp [h]
theorem heap_set_other {w : World} {b k : Nat} (o : Obj) (h : k ≠ b) : ({ w with heap := w.heap.setIfInBounds b o } : World).heap[k]? = w.heap[k]? := by
  simp [Ne.symm h]
theorem grown_set (w : World) (b : Nat) (o : Obj) : w.grownBy { w with heap := w.heap.setIfInBounds b o } (some b) :=
  ⟨rfl, rfl, rfl, by simp, fun k _ hk => heap_set_other o (fun e => hk (by rw [e]))⟩
/-- The entry of a key. -/
theorem IsMp.entry [DecidableEq κ] (h : IsMp K w b n f) (hn : n < maxLen) {x : κ} (hx : K.ok x) (y0 : β) (hy0 : ∀ y, y = y0) :
    ∃ (v0 : Value) (st : Nat) (o : Obj), (Instr.mapEntry K.t (.map (some b)) (K.key x)).run P w = .ok (.tuple #[v0, goInt st]) { w with heap := w.heap.setIfInBounds b o } ∧ Entered K b (n + 1) (fun k => if k = x then some y0 else f k) st o := by
  have hup := fun y => h.upd hn hx y
  obtain ⟨D, ⟨es, clock, hb, F, hsz, _⟩, _⟩ := h
  have hkey := K.law x hx
  obtain ⟨s1, s2, _⟩ := F.stamped
  rcases K.keyed.find w hkey es.toList F.keys with ⟨h1, h2⟩ | ⟨j, e0, h1, h2, h3⟩
  · refine ⟨K.val K.z, clock, .map (es.push ⟨K.key x, K.val K.z, clock⟩) (clock + 1), ?_, fun w2 y hw2 => ⟨.map (es.push ⟨K.key x, K.val y, clock⟩) (clock + 1), ?_, fun w3 hw3 => ?_⟩⟩
    · simp [Instr.mapEntry, run_underlying K.under, MapKept.run_getObj_map hb, K.keyed.check w false hkey, h1, K.zero, MapKept.run_setObj_map _ hb, Result.andThen]
    · have hidx : (es.push ⟨K.key x, K.val K.z, clock⟩).findIdx? (fun e => ((e.born : Nat) : Int) == ((clock : Nat) : Int)) = some es.size := by
        rw [WideElems.findIdx_arr]
        exact WideElems.findIdx_born (l := (es.push ⟨K.key x, K.val K.z, clock⟩).toList) (j := es.size) (e0 := ⟨K.key x, K.val K.z, clock⟩) (by
          simp only [Array.toList_push, List.map_append, List.map_cons, List.map_nil]
          refine List.nodup_append.2 ⟨s2, by simp, fun a ha c hc e1 => ?_⟩
          simp only [List.mem_singleton] at hc
          obtain ⟨z, hz, rfl⟩ := List.mem_map.1 ha
          have := s1 z hz
          omega) (by simp)
      have hmod : (es.push ⟨K.key x, K.val K.z, clock⟩).modify es.size (fun e => { e with val := K.val y }) = es.push ⟨K.key x, K.val y, clock⟩ := by
        apply Array.ext'
        rw [Array.toList_modify, Array.toList_push, Array.toList_push, ← Array.length_toList, WideElems.modify_last]
      simp [Instr.entryStore, MapKept.run_getObj_map hw2, asInt, asIntOf, goInt, hidx, hmod, MapKept.run_setObj_map _ hw2, Result.andThen]
    · obtain ⟨w', hr, hm, _⟩ := hup y
      have hr2 : (Instr.mapUpdate K.t (.map (some b)) (K.key x) (K.val y)).run P w = .ok () { w with heap := w.heap.setIfInBounds b (.map (es.push ⟨K.key x, K.val y, clock⟩) (clock + 1)) } := by
        simp [Instr.mapUpdate, run_underlying K.under, MapKept.run_getObj_map hb, K.keyed.check w false hkey, h1, MapKept.run_setObj_map _ hb, Result.andThen]
      rw [hr] at hr2
      have e := (Result.ok.inj hr2).2
      rw [hy0 y] at hm
      exact hm.of_block (by rw [hw3, e, heap_set_same _ ((Array.getElem?_eq_some_iff.1 hb).1), hy0 y])
  · have hj : es[j]? = some e0 := by simpa using h2
    have hsame : es.modify j (fun e => { e with key := K.key x }) = es := by
      apply Array.ext'
      rw [Array.toList_modify, ChangeMaps.modify_eq_set _ _ _ _ h2]
      have : ({ e0 with key := K.key x } : MapEntry) = e0 := by rw [← h3]
      rw [this]
      exact WideElems.set_self _ _ _ h2
    refine ⟨e0.val, e0.born, .map es clock, ?_, fun w2 y hw2 => ⟨.map (es.modify j (fun e' => { e' with key := K.key x, val := K.val y })) clock, ?_, fun w3 hw3 => ?_⟩⟩
    · simp [Instr.mapEntry, run_underlying K.under, MapKept.run_getObj_map hb, K.keyed.check w false hkey, h1, hj, h3, K.keyed.stays w hkey, hsame, MapKept.run_setObj_map _ hb, Result.andThen]
    · have hidx : es.findIdx? (fun e => ((e.born : Nat) : Int) == ((e0.born : Nat) : Int)) = some j := by
        rw [WideElems.findIdx_arr]
        exact WideElems.findIdx_born s2 h2
      have hmod : es.modify j (fun e => { e with val := K.val y }) = es.modify j (fun e' => { e' with key := K.key x, val := K.val y }) := by
        apply Array.ext'
        rw [Array.toList_modify, Array.toList_modify, ChangeMaps.modify_eq_set _ _ _ _ h2, ChangeMaps.modify_eq_set _ _ _ _ h2, ← h3]
      simp [Instr.entryStore, MapKept.run_getObj_map hw2, asInt, asIntOf, goInt, hidx, hmod, MapKept.run_setObj_map _ hw2, Result.andThen]
    · obtain ⟨w', hr, hm, _⟩ := hup y
      have hr2 : (Instr.mapUpdate K.t (.map (some b)) (K.key x) (K.val y)).run P w = .ok () { w with heap := w.heap.setIfInBounds b (.map (es.modify j (fun e' => { e' with key := K.key x, val := K.val y })) clock) } := by
        simp [Instr.mapUpdate, run_underlying K.under, MapKept.run_getObj_map hb, K.keyed.check w false hkey, h1, hj, h3, K.keyed.stays w hkey, MapKept.run_setObj_map _ hb, Result.andThen]
      rw [hr] at hr2
      have e := (Result.ok.inj hr2).2
      rw [hy0 y] at hm
      exact hm.of_block (by rw [hw3, e, heap_set_same _ ((Array.getElem?_eq_some_iff.1 hb).1), hy0 y])
end
/-- What an element of no cells reads as. -/
def readUnit : Value → Option (DataW Unit × List MemPlace)
  | .agg cs => if cs.size = 0 then some (.agg [], []) else none
  | _ => none
theorem readUnit_inv (v : Value) (ps : List MemPlace) (h : readUnit v = some (.agg [], ps)) : v = .agg #[] := by
  cases v with
  | agg cs =>
    simp only [readUnit] at h
    split at h
    · rename_i e
      rw [Array.eq_empty_of_size_eq_zero e]
    · cases h
  | _ => simp [readUnit] at h
section
variable {P : Program}
/-- map[int kind]struct{}. -/
def mpSet (t k e : TypeId) (qk : IntKind) (ht : P.underlying t = some (.map k e)) (hk : P.underlying k = some (.int qk)) (hz : ∀ w, (zeroValue e).run P w = .ok (.agg #[]) w) : MpK P Int Unit where
  t := t
  k := k
  e := e
  key := fun x => .int qk x
  lit := fun x => .int qk x
  ok := fun x => (Lit.int qk x).wf = true
  val := fun _ => .agg #[]
  z := ()
  read := readUnit
  dat := fun _ => .agg []
  keyed := int_keyed hk
  under := ht
  law := fun x hx => keyOf_int_mk hk hx
  inj := fun x y h => by injection h
  zero := hz
  readVal := fun _ => by simp [readUnit]
  readInv := fun v _ ps h => readUnit_inv v ps h
/-- map[[2]int kind]struct{}. -/
def mpPairs (t k ek e : TypeId) (qk : IntKind) (ht : P.underlying t = some (.map k e)) (A : WideMaps.ArrKey P k ek 2) (hek : P.underlying ek = some (.int qk)) (hsz : ∃ m, P.types.size = m + 1) (hlaw : WideMaps.KeyLaw P k) (hz : ∀ w, (zeroValue e).run P w = .ok (.agg #[]) w) : MpK P (Int × Int) Unit where
  t := t
  k := k
  e := e
  key := fun x => .agg #[.int qk x.1, .int qk x.2]
  lit := fun x => .string (keyBytes [.int qk x.1, .int qk x.2])
  ok := fun x => (Lit.int qk x.1).wf = true ∧ (Lit.int qk x.2).wf = true
  val := fun _ => .agg #[]
  z := ()
  read := readUnit
  dat := fun _ => .agg []
  keyed := Keyed.of_law hlaw
  under := ht
  law := fun x hx => WideMaps.keyOf_pair A hek hsz hx.1 hx.2
  inj := fun x y h => by
    injection h with h
    simp at h
    exact Prod.ext h.1 h.2
  zero := hz
  readVal := fun _ => by simp [readUnit]
  readInv := fun v _ ps h => readUnit_inv v ps h
end
end Go.Proofs.Ytglkhgchbnkekaa
namespace Go.Proofs.Ytglkhgchbnkekaa
open Go.RowKit
set_option linter.unusedVariables false

set_option maxHeartbeats 400000 in
theorem octs_ne (A A' : Option Addr) (la lb : List Nat) (c c' : Nat) (w : World) (hlen : la.length ≤ maxLen) (hlen' : lb.length ≤ maxLen) (hne : la.length ≠ lb.length) :
    Calls Try.prog 14 #[.slice A la.length c, .slice A' lb.length c'] w (IsBool false w) := by
  unfold maxLen at hlen hlen'
  have hq : (((la.length : Nat) : Int) != ((lb.length : Nat) : Int)) = true := by rw [bne_iff_ne]; omega
  go_enter Try.func14, Try.ntmps14
  go_wp2
  go_ret
  exact ⟨rfl, Below.refl _ _⟩

set_option maxHeartbeats 400000 in
theorem octs_eq (A A' : Option Addr) (la lb : List Nat) (c c' B B' : Nat) (w : World) (ha : Lv yK w B (.slice A la.length c) la) (hb : Lv yK w B' (.slice A' lb.length c') lb) (heq : la.length = lb.length) :
    Calls Try.prog 14 #[.slice A la.length c, .slice A' lb.length c'] w (IsBool (decide (la = lb)) w) := by
  have hlen : la.length ≤ 9223372036854775807 := by have := ha.len_; simp only [maxLen] at this; omega
  have hq : (((la.length : Nat) : Int) != ((lb.length : Nat) : Int)) = false := by rw [heq]; simp
  have HE := Lib.hid heq
  have hle : la.length ≤ lb.length := by omega
  have hge : lb.length ≤ la.length := by omega
  clear heq
  go_enter Try.func14, Try.ntmps14
  go_wp2
  go_loopw [5] (fun i wr => ∃ k : Nat, k ≤ la.length ∧ i = .int .i64 k ∧ Hid (la.take k = lb.take k) ∧ Below w.heap.size w wr ∧ Hid (Lv yK wr B (.slice A la.length c) la) ∧ Hid (Lv yK wr B' (.slice A' lb.length c') lb)) (fun i _ => la.length - (intOf i).toNat)
  case atStart => exact ⟨0, by omega, rfl, by simp [Hid], Below.refl _ _, ha, hb⟩
  case round =>
    obtain ⟨k, hk, rfl, HT, hbel, HA, HB⟩ := hrel
    by_cases hlt : k < la.length
    · obtain ⟨b1, o1, x, rfl, hb1, hx, hd, hcell⟩ := HA.out.byte_ hlt
      obtain ⟨b2, o2, y, rfl, hb2, hy, hd', hcell'⟩ := HB.out.byte_ (k := k) (by omega)
      have HS := Lib.hid (take_both HT.out hd hd')
      clear hd hd' ha hb hx hy
      have hlt' : k < lb.length := by omega
      by_cases hxy : x = y
      · subst hxy
        have hq2 : (((x : Nat) : Int) != ((x : Nat) : Int)) = false := by simp
        go_wp2
        go_quiet (fail)
        go_wp2
        go_roundw
        case rel => exact ⟨k + 1, by omega, by go_num, HS.out.2 (by simp), below_drewN hbel _, HA.out, HB.out⟩
        case measure => simp [intOf]; omega
      · have hq2 : (((x : Nat) : Int) != ((y : Nat) : Int)) = true := by rw [bne_iff_ne]; omega
        go_wp2
        go_quiet (fail)
        go_wp2
        go_ret
        have hne : la ≠ lb := take_unlike (fun e => hxy (HS.out.1 e))
        exact ⟨by simp [hne], below_drewN hbel _⟩
    · go_wp2
      go_ret
      have h1 : la = lb := take_whole HT.out (by omega) (by omega)
      exact ⟨by simp [h1], hbel⟩

theorem octs_lv (v v' : Value) (la lb : List Nat) (B B' : Nat) (w : World) (h : Lv yK w B v la) (h' : Lv yK w B' v' lb) :
    Calls Try.prog 14 #[v, v'] w (IsBool (decide (la = lb)) w) := by
  have k := h
  have k' := h'
  obtain ⟨A, c, rfl, h1, h2, _⟩ := h
  obtain ⟨A', c', rfl, h1', h2', _⟩ := h'
  by_cases he : la.length = lb.length
  · exact octs_eq A A' la lb c c' B B' w k k' he
  · have hne : la ≠ lb := fun e => he (by rw [e])
    have := octs_ne A A' la lb c c' w (by omega) (by omega) he
    simpa [hne] using this
end Go.Proofs.Ytglkhgchbnkekaa
