/-
  Set: One byte of a slice of the call's own: read, and set.
  FreshA: Words for a slice that is known to its room's end; stookref00.Wide.
  Gate: Gates for a walk's arms: a goal that is a load, a store, a build of this type, and nothing else (to be used with_reducible, so that an arm that does not fit falls at once).
-/
import Derived.Test.YtlefkaoibokjdaaPc01
import Derived.Test.YtlefkaoibokjdaaPc09
import Derived.Test.YtlefkaoibokjdaaPc12
import Derived.Laws.CopyOwn
import Derived.Test.YtlefkaoibokjdaaProg
import Derived.WalkKit
namespace Go.Proofs.Ytlefkaoibokjdaa
open Go.RowKit
set_option linter.unusedVariables false

theorem OwnB.set_ {w : World} {base g c : Nat} {l : List Nat} (h : OwnB w base (.slice (some ⟨g, 0, none⟩) l.length c) l) (j : Nat) {x : Nat} (hx : x < 256) :
    OwnB (w.setCell ⟨g, j, none⟩ (.int .u8 (x : Nat))) base (.slice (some ⟨g, 0, none⟩) (l.set j x).length c) (l.set j x) ∧ w.grownBy (w.setCell ⟨g, j, none⟩ (.int .u8 (x : Nat))) (some g) := by
  obtain ⟨h1, h2⟩ := h.2.stored j (.int .u8 (x : Nat))
  refine ⟨⟨fun y hy => ?_, ?_⟩, h2⟩
  · rcases List.mem_or_eq_of_mem_set hy with h3 | rfl
    · exact h.1 y h3
    · exact hx
  · rw [List.length_set]
    have e : (l.set j x).map u8 = (l.map u8).set j (.int .u8 (x : Nat)) := by rw [List.map_set]; rfl
    rw [e]
    exact h1

theorem xor_u8_nat (a b : Nat) (ha : a < 256) (hb : b < 256) : bits .xor .u8 (a : Int) (b : Int) = ((a ^^^ b : Nat) : Int) := by
  have hx : a ^^^ b < 2 ^ 8 := Nat.xor_lt_two_pow (by omega) (by omega)
  have h1 : (BitVec.ofInt 8 (a : Int)).toNat = a := by
    rw [BitVec.ofInt_natCast, BitVec.toNat_ofNat]; exact Nat.mod_eq_of_lt (by omega)
  have h2 : (BitVec.ofInt 8 (b : Int)).toNat = b := by
    rw [BitVec.ofInt_natCast, BitVec.toNat_ofNat]; exact Nat.mod_eq_of_lt (by omega)
  show IntKind.u8.wrap ((BitVec.ofInt 8 (a : Int) ^^^ BitVec.ofInt 8 (b : Int)).toNat : Int) = _
  rw [BitVec.toNat_xor, h1, h2, IntKind.wrap_u8]
  omega
theorem OwnB.at_ {w : World} {base c n : Nat} {A : Option Addr} {l : List Nat} (h : OwnB w base (.slice A n c) l) {k : Nat} (hk : k < l.length) :
    ∃ g x, A = some ⟨g, 0, none⟩ ∧ base ≤ g ∧ l.getD k 0 = x ∧ x < 256 ∧ w.cell? ⟨g, k, none⟩ = some (.int .u8 (x : Nat)) ∧ w.frozen? ⟨g, k, none⟩ = false := by
  rcases h.2.2 with ⟨e, h0⟩ | ⟨g, cap, cur, e, hb, _⟩
  · omega
  · injection e with e1 e2 e3
    subst e1 e2
    refine ⟨g, l[k], rfl, hb, by rw [List.getD_eq_getElem?_getD, List.getElem?_eq_getElem hk]; rfl, h.1 _ (List.getElem_mem hk), ?_, h.2.frozenAt k⟩
    rw [h.2.cellAt k (by omega), List.getElem?_map, List.getElem?_eq_getElem hk]; rfl
end Go.Proofs.Ytlefkaoibokjdaa
namespace Go.Proofs.Ytlefkaoibokjdaa
open Go.RowKit
set_option linter.unusedVariables false

/-- A call that answers these bytes in new memory with three bytes 7 behind them, and turns nothing that was there. -/
def IsWide (l : List Nat) (w : World) (e : Ending) (w' : World) : Prop :=
  ∃ g, e = .returned (.slice (some ⟨g, 0, none⟩) l.length (l.length + 3)) ∧ OwnB w' w.heap.size (.slice (some ⟨g, 0, none⟩) (l.length + 3) (l.length + 3)) (l ++ [7, 7, 7]) ∧ Below w.heap.size w w'

/-- The bytes of what Wide makes, k of the three behind the end written. -/
def wideTo (l : List Nat) (k : Nat) : List Nat := l ++ (List.replicate k 7 ++ List.replicate (3 - k) 0)
theorem wideTo_len (l : List Nat) (k : Nat) (hk : k ≤ 3) : (wideTo l k).length = l.length + 3 := by simp [wideTo]; omega
theorem wideTo_set (l : List Nat) (k : Nat) (hk : k < 3) : (wideTo l k).set (l.length + k) 7 = wideTo l (k + 1) := by
  unfold wideTo
  rw [List.set_append_right _ _ (by omega)]
  congr 1
  have e : l.length + k - l.length = k := by omega
  rw [e]
  match k, hk with
  | 0, _ => rfl
  | 1, _ => rfl
  | 2, _ => rfl

theorem copy_src {w w1 : World} {B : Nat} {A : Option Addr} {l : List Nat} (h : Bts w B A l) (hb : Below w.heap.size w w1) (hB : B ≤ w.heap.size) :
    0 < l.length → ∃ ad, A = some ad ∧ ∀ j v, (l.map u8)[j]? = some v → w1.cell? (ad.add j) = some v := by
  intro hp
  obtain ⟨b, off, rfl, hlt, hc⟩ := (h.below hb hB).2 hp
  refine ⟨_, rfl, fun j v hv => ?_⟩
  rw [List.getElem?_map] at hv
  cases hj : l[j]? with
  | none => rw [hj] at hv; cases hv
  | some x =>
    rw [hj] at hv
    have ea : (⟨b, off, none⟩ : Addr).add j = ⟨b, off + j, none⟩ := by unfold Addr.add; split <;> simp_all
    rw [ea, hc j x hj]
    simpa [u8] using hv

theorem wideTo_zero (l : List Nat) : (wideTo l 0).map u8 = l.map u8 ++ List.replicate 3 (Value.int .u8 0) := by
  unfold wideTo
  simp [u8]
set_option maxRecDepth 100000 in
theorem copy_run {w1 : World} {g c : Nat} {A : Option Addr} {l : List Nat} (hg : w1.heap[g]? = some (.cells (List.replicate (l.length + 3) (Value.int .u8 0)).toArray 5 (0, 0)))
    (hs : 0 < l.length → ∃ ad, A = some ad ∧ ∀ j v, (l.map u8)[j]? = some v → w1.cell? (ad.add j) = some v) (hsz : (Try.prog.info? 5).map (·.size) = some 1) :
    ∃ w2, (Builtin.copy_ #[27, 27] 3 #[.slice (some ⟨g, 0, none⟩) (l.length + 3) (l.length + 3), .slice A l.length c]).run Try.prog w1 = .ok (.int .i64 (l.length : Nat)) w2 ∧
      w2.heap[g]? = some (.cells ((wideTo l 0).map u8).toArray 5 (0, 0)) ∧ ∀ B w0, Below B w0 w1 → B ≤ g → Below B w0 w2 := by
  by_cases h0 : 0 < l.length
  · obtain ⟨ad, rfl, hc⟩ := hs h0
    have hrun := run_copy_row (P := Try.prog) w1 27 27 3 5 g 0 (l.length + 3) (l.length + 3) ad l.length c _ 5 (l.map u8) Try.underlying27 hsz hg
      (by rw [List.length_map]; exact (Nat.min_eq_left (by omega)).symm) hc (by simp) (by intro u hu; obtain ⟨_, _, rfl⟩ := List.mem_map.1 hu; rfl)
    refine ⟨_, by simpa [goInt] using hrun, ?_, fun B w0 hb hB => below_setRow hb hB _⟩
    have h2 := setRow_heap w1 g _ ((wideTo l 0).map u8).toArray _ _ hg
    rw [← h2]
    congr 3
    rw [wideTo_zero]
    simp
  · obtain rfl : l = [] := List.eq_nil_of_length_eq_zero (by omega)
    have hrun := run_copy_none (P := Try.prog) w1 27 27 3 5 (some ⟨g, 0, none⟩) A 3 3 0 c Try.underlying27 hsz (by rfl)
    exact ⟨w1, by simpa [goInt] using hrun, by simpa [wideTo, u8] using hg, fun B w0 hb _ => hb⟩

set_option maxHeartbeats 2000000 in
set_option maxRecDepth 100000 in
theorem wide_far (v : Value) (l : List Nat) (B : Nat) (w : World) (hB : B ≤ w.heap.size) (h : Bv w B v l) (hsz : l.length ≤ 140737488351232) :
    Calls Try.prog 16 #[v] w (IsWide l w) := by
  have H0 := Lib.hid h
  obtain ⟨A, c, rfl, hc1, hc2, hc3, hts⟩ := h
  have HTS := Lib.hid hts
  obtain ⟨i0, hi, hz0, hz1, hz2⟩ := info_parts info5
  have hby : i0.bytes * (l.length + 3) ≤ 281474976710656 := by rw [hz2]; omega
  have hml : l.length + 3 ≤ maxLen := by simp only [maxLen]; omega
  unfold maxLen at hc2
  have HC3 := Lib.hid hc3
  have hisz : (Try.prog.info? 5).map (·.size) = some 1 := by rw [hi]; simp [hz1]
  have HI := Lib.hid hisz
  clear hts hc3 hisz
  go_enter Try.func16, Try.ntmps16
  go_wp2_with (at_make; go_must (refine wpList_make_full _ rfl _ _ 27 rfl w.heap.size 5 i0 (.int .u8 0) 1 Try.underlying27 hi hz0 hz1 .i64 .i64 _ _ (l.length + 3) rfl rfl (by simp) (by simp) hby hml (Nat.le_refl _) ?_; intro w1 hown hgrow); have hb1 : Below w.heap.size w w1 := (Below.refl _ _).grown hgrow (Nat.le_refl _) (by intro k hk; cases hk); obtain ⟨w2, hcp, hh2, hbb⟩ := copy_run (c := c) (zeros_heap hown) (copy_src HTS.out hb1 hB) HI.out; have HH := Lib.hid hh2; have HB2 := Lib.hid (hbb _ _ hb1 (Nat.le_refl _)); clear hown hgrow hb1 hh2 hbb)
  clear hcp
  have hO0 : Hid (OwnB w2 w.heap.size (.slice (some ⟨w.heap.size, 0, none⟩) (l.length + 3) (l.length + 3)) (wideTo l 0)) := by
    have h1 := wideTo_len l 0 (by omega)
    have h2 := OwnB.of_heap (w := w2) (base := w.heap.size) (Nat.le_refl _) (l := wideTo l 0) (by
      intro x hx
      rcases List.mem_append.1 hx with h | h
      · exact HTS.out.1 x h
      · simp at h; omega) (by rw [h1]; exact hml) HH.out
    rw [h1] at h2
    exact h2
  clear HH HTS HI hi hz0 hz1 hz2 hby hml H0
  go_loopw [5] (fun i wr => ∃ k : Nat, k ≤ 3 ∧ i = .int .i64 (l.length + k : Nat) ∧ Hid (OwnB wr w.heap.size (.slice (some ⟨w.heap.size, 0, none⟩) (l.length + 3) (l.length + 3)) (wideTo l k)) ∧ Below w.heap.size w wr) (fun i _ => l.length + 3 - (intOf i).toNat)
  case atStart => exact ⟨0, by omega, rfl, hO0.out, HB2.out⟩
  case round =>
    obtain ⟨k, hk, rfl, HO, hbr⟩ := hrel
    clear hO0 HB2
    by_cases hlt : k < 3
    · have hwl := wideTo_len l k hk
      have ho := HO.out
      rw [← hwl] at ho
      have hj : l.length + k < (wideTo l k).length := by omega
      obtain ⟨A', c', e', _, _, _, hts⟩ := ho.form_
      injection e' with e1 e2 e3
      subst e1
      obtain ⟨b, off, x, e4, hb, hx, hd, hcell⟩ := hts.at_ hj
      injection e4 with e4
      injection e4 with e5 e6
      subst e5 e6
      rw [Nat.zero_add] at hcell
      obtain ⟨hs1, hs2⟩ := ho.set_ (l.length + k) (x := 7) (by omega)
      have hfr : wr.frozen? ⟨w.heap.size, l.length + k, none⟩ = false := ho.2.frozenAt _
      rw [wideTo_set l k hlt] at hs1
      have HS := Lib.hid hs1
      have HL1 := Lib.hid (wideTo_len l (k + 1) (by omega))
      have HL2 := Lib.hid hwl
      clear hts hd e3 e2 hs1 hs2 ho hwl HO hj hx
      go_wp2
      have hs := HS.out
      rw [HL1.out, HL2.out] at hs
      exact ⟨⟨k + 1, by omega, congrArg (Value.int IntKind.i64) (by omega), hs, hbr.setCell (Nat.le_refl _) _⟩, by simp [intOf]; omega⟩
    · have hk3 : k = 3 := by omega
      subst hk3
      go_wp2
      go_ret
      exact ⟨w.heap.size, rfl, (by simpa [wideTo] using HO.out), hbr⟩
theorem wide_any (v : Value) (l : List Nat) (B : Nat) (w : World) (hB : B ≤ w.heap.size) (h : Bv w B v l) (hsz : l.length ≤ 1073741824) :
    Calls Try.prog 16 #[v] w (IsWide l w) := wide_far v l B w hB h (Nat.le_trans hsz (by decide))
end Go.Proofs.Ytlefkaoibokjdaa
namespace Go.Proofs.Ytlefkaoibokjdaa
section
variable {P : Program} {ops : Array Oper} {rest : List Oper} {d : Option Tmp} {ty : TypeId} {pos : String} {aft : Array Edge} {a : Act} {w : World} {Q : Exit → Act → World → Prop}
theorem gate_load (t : TypeId) {x : Operand} (h : wpList P ops Q ({ dst := d, op := .load t x, type := ty, pos := pos, after := aft, guard := none } :: rest) a w) : wpList P ops Q ({ dst := d, op := .load t x, type := ty, pos := pos, after := aft, guard := none } :: rest) a w := h
theorem gate_loadG (t : TypeId) {x : Operand} {g : Nat × Bool} (h : wpList P ops Q ({ dst := d, op := .load t x, type := ty, pos := pos, after := aft, guard := some g } :: rest) a w) : wpList P ops Q ({ dst := d, op := .load t x, type := ty, pos := pos, after := aft, guard := some g } :: rest) a w := h
theorem gate_store (t : TypeId) {x y : Operand} (h : wpList P ops Q ({ dst := d, op := .store t x y, type := ty, pos := pos, after := aft, guard := none } :: rest) a w) : wpList P ops Q ({ dst := d, op := .store t x y, type := ty, pos := pos, after := aft, guard := none } :: rest) a w := h
theorem gate_build (t : TypeId) {x : Array (Nat × Operand)} (h : wpList P ops Q ({ dst := d, op := .build t x, type := ty, pos := pos, after := aft, guard := none } :: rest) a w) : wpList P ops Q ({ dst := d, op := .build t x, type := ty, pos := pos, after := aft, guard := none } :: rest) a w := h
end
end Go.Proofs.Ytlefkaoibokjdaa
