/-
  KByte: The kind of elements uint8: slices of bytes.
  RVoMay: stookref08.May; boxes.
  RBpA: stookref08.Tokens; stookref00.Long.
  Row: A block that holds an array, whole: what reads and stores make of it.
-/
import Derived.Test.YtkialijipcbgkaaPk02
import Derived.Test.YtkialijipcbgkaaProg
import Derived.Test.YtkialijipcbgkaaPk04
import Derived.Test.YtkialijipcbgkaaPk05
import Derived.Test.YtkialijipcbgkaaPk03
import Derived.WalkKit
import Derived.Below
import Derived.Laws.CopyOwn
import Derived.Lib.Hide
namespace Go.Proofs.Ytkialijipcbgkaa
open Go.RowKit
set_option linter.unusedVariables false

/-- What fits into a byte. -/
def U8 (x : Nat) : Prop := x < 256
def yK : El Try.prog Nat where
  e := 5
  s := 28
  size := 1
  bytes := 1
  zero := .int .u8 0
  z := 0
  enc := fun x => [.int .u8 (x : Nat)]
  ok := U8
  len := fun _ => rfl
  one := fun x u hu => by simp at hu; subst hu; rfl
  okz := by unfold U8; omega
  encz := rfl
  pos := by decide
  under := Try.underlying28
  info := by kernel_rfl

section
variable {w : World} {base B n c : Nat} {A : Option Addr} {l : List Nat}
theorem Lv.byte_ (h : Lv yK w B (.slice A n c) l) {k : Nat} (hk : k < l.length) :
    ∃ b off x, A = some ⟨b, off, none⟩ ∧ b < B ∧ U8 x ∧ l[k]? = some x ∧ w.cell? ⟨b, off + k, none⟩ = some (.int .u8 (x : Nat)) := by
  obtain ⟨b, off, x, h1, h2, h3, h4, h5⟩ := h.at_ hk
  have h6 := h5 0 (.int .u8 (x : Nat)) rfl
  refine ⟨b, off, x, h1, h2, h3, h4, ?_⟩
  have e : off + (k * yK.size + 0) = off + k := by show off + (k * 1 + 0) = _; omega
  rw [e] at h6
  exact h6
theorem OwnL.byte_ (h : OwnL yK w base (.slice A n c) l) {k : Nat} (hk : k < l.length) :
    ∃ g x, A = some ⟨g, 0, none⟩ ∧ n = l.length ∧ base ≤ g ∧ U8 x ∧ l[k]? = some x ∧ w.cell? ⟨g, k, none⟩ = some (.int .u8 (x : Nat)) ∧ w.frozen? ⟨g, k, none⟩ = false := by
  obtain ⟨g, x, h1, h2, h3, h4, h5, h6, h7⟩ := h.at_ hk
  have h8 := h6 0 (.int .u8 (x : Nat)) rfl
  refine ⟨g, x, h1, h2, h3, h4, h5, ?_, h7 k⟩
  have e : k * yK.size + 0 = k := by show k * 1 + 0 = _; omega
  rw [e] at h8
  exact h8
theorem OwnL.setByte_ {g : Nat} (h : OwnL yK w base (.slice (some ⟨g, 0, none⟩) n c) l) {j : Nat} (hj : j < l.length) {x : Nat} (hx : U8 x) :
    OwnL yK (w.setCell ⟨g, j, none⟩ (.int .u8 (x : Nat))) base (.slice (some ⟨g, 0, none⟩) n c) (l.set j x) ∧ w.grownBy (w.setCell ⟨g, j, none⟩ (.int .u8 (x : Nat))) (some g) := h.set_ rfl hj hx rfl
end
end Go.Proofs.Ytkialijipcbgkaa
namespace Go.Proofs.Ytkialijipcbgkaa
open Go.RowKit
set_option linter.unusedVariables false

/-- A vocabulary's box: what stands in it, and what it leaves. -/
theorem boxed {w W : World} {u : Value} {t : TypeId} (hW : w.alloc (.cells #[u] t) = W) : W.cell? ⟨w.heap.size, 0, none⟩ = some u ∧ W.heap.size = w.heap.size + 1 ∧ Below w.heap.size w W := by
  subst hW
  refine ⟨?_, by simp, (Below.refl _ _).alloc (Nat.le_refl _) _⟩
  rw [cell_of_row _ w.heap.size 0 _ _ _ (heap_alloc_new w _)]; rfl

/-- A box below B, and what stands in it. -/
def BoxAt (w : World) (B a : Nat) (u : Value) : Prop := a < B ∧ w.cell? ⟨a, 0, none⟩ = some u
theorem BoxAt.below_ {w w' : World} {B a : Nat} {u : Value} (h : BoxAt w B a u) {B' : Nat} (hb : Below B' w w') (hB : B ≤ B') : BoxAt w' B a u :=
  ⟨h.1, (hb.cell (p := ⟨a, 0, none⟩) (Nat.lt_of_lt_of_le h.1 hB)).trans h.2⟩
theorem BoxAt.drew_ {w : World} {B a : Nat} {u : Value} (h : BoxAt w B a u) : BoxAt w.drew B a u := h
theorem BoxAt.mono_ {w : World} {B a : Nat} {u : Value} (h : BoxAt w B a u) {B' : Nat} (hB : B ≤ B') : BoxAt w B' a u := ⟨Nat.lt_of_lt_of_le h.1 hB, h.2⟩
/-- A box below B in which a piece stands. -/
def PBoxAt (w : World) (B a : Nat) (p : Vo.Pc) : Prop := a < B ∧ ∀ (i : Nat) (u : Value), #[.bool p.join, .int .u8 (p.byte : Nat), .int .i64 p.left, .int .i64 p.right, .int .u32 (p.rank : Nat)][i]? = some u → w.cell? ⟨a, i, none⟩ = some u
theorem PBoxAt.below_ {w w' : World} {B a : Nat} {p : Vo.Pc} (h : PBoxAt w B a p) {B' : Nat} (hb : Below B' w w') (hB : B ≤ B') : PBoxAt w' B a p :=
  ⟨h.1, fun i u hi => (hb.cell (p := ⟨a, i, none⟩) (Nat.lt_of_lt_of_le h.1 hB)).trans (h.2 i u hi)⟩
theorem PBoxAt.drew_ {w : World} {B a : Nat} {p : Vo.Pc} (h : PBoxAt w B a p) : PBoxAt w.drew B a p := h
theorem PBoxAt.mono_ {w : World} {B a : Nat} {p : Vo.Pc} (h : PBoxAt w B a p) {B' : Nat} (hB : B ≤ B') : PBoxAt w B' a p := ⟨Nat.lt_of_lt_of_le h.1 hB, h.2⟩
theorem pboxed {w W : World} {p : Vo.Pc} {t : TypeId} (hW : w.alloc (.cells #[.bool p.join, .int .u8 (p.byte : Nat), .int .i64 p.left, .int .i64 p.right, .int .u32 (p.rank : Nat)] t) = W) : PBoxAt W W.heap.size w.heap.size p ∧ Below w.heap.size w W := by
  subst hW
  refine ⟨⟨by simp, fun i u hi => ?_⟩, (Below.refl _ _).alloc (Nat.le_refl _) _⟩
  rw [cell_of_row _ w.heap.size i _ _ _ (heap_alloc_new w _)]
  exact hi
/-- A call that answers an error and a place, or a bool, and turns nothing that was there. -/
def IsCheck (r : Nat × Nat) (w : World) (e : Ending) (w' : World) : Prop := e = .returned (.tuple #[.int .i64 (r.1 : Nat), .int .i64 (r.2 : Nat)]) ∧ Below w.heap.size w w'

set_option maxHeartbeats 1000000 in
theorem rmay_voc (P : List Vo.Pc) (v : Value) (B : Nat) (w : World) (hv : Lv pK w B v P) (hB : B ≤ w.heap.size) :
    Calls Try.prog 46 #[.agg #[v]] w (IsBool (decide (Vo.May P)) w) := by
  obtain ⟨W, hW⟩ : ∃ W, w.alloc (.cells #[v] 41) = W := ⟨_, rfl⟩
  obtain ⟨d0, hsz, hb⟩ := boxed hW
  have HC := Lib.hid (rsizes_any P v B W (hv.below_ hb hB) (Nat.le_trans hB hb.size))
  have HB := Lib.hid hb
  obtain ⟨A, c, rfl, _, _, _, _⟩ := hv
  obtain ⟨E, hE⟩ : ∃ E, (Vo.check P).1 = E := ⟨_, rfl⟩
  have HX : Hid (decide (Vo.May P) = ((E : Int) == 0)) := by
    unfold Hid
    rw [Bool.eq_iff_iff, decide_eq_true_eq, beq_iff_eq]
    unfold Vo.May
    rw [hE]
    omega
  unfold IsSizes at HC
  rw [hE] at HC
  clear hsz hb hE
  go_enter Try.func46, Try.ntmps46
  go_wp2_with (fail)
  refine (HC.out).mono ?_
  rintro e w1 ⟨u, rfl, hb⟩
  have HB2 := Lib.hid (HB.out.trans (hb.mono HB.out.size))
  clear hb HC
  go_wp2
  go_ret
  exact ⟨by rw [HX.out]; rfl, HB2.out⟩

end Go.Proofs.Ytkialijipcbgkaa
namespace Go.Proofs.Ytkialijipcbgkaa
open Go.RowKit
set_option linter.unusedVariables false

namespace Bp
open Vo (Pc May tokenOf)
/-- The tokens of all bytes, as far as the first k pieces tell. -/
def toksTo (P : List Pc) : Nat → List Int
  | 0 => List.replicate 256 0
  | k + 1 => match P[k]? with | some q => if q.join then toksTo P k else (toksTo P k).set q.byte (k : Int) | none => toksTo P k
theorem toksTo_len (P : List Pc) : ∀ k, (toksTo P k).length = 256 := by
  intro k
  induction k with
  | zero => exact List.length_replicate
  | succ k ih =>
    rw [toksTo]
    cases P[k]? with
    | none => exact ih
    | some q =>
      simp only
      split
      · exact ih
      · rw [List.length_set]; exact ih
theorem toksTo_at {P : List Pc} (hg : Vo.Good P) {c : Nat} : ∀ k, k ≤ P.length → tokenOf P c < k → (toksTo P k)[c]? = if c < 256 then some ((tokenOf P c : Nat) : Int) else none := by
  intro k
  induction k with
  | zero => intro _ h; omega
  | succ k ih =>
    intro hk h
    obtain ⟨q, hq⟩ : ∃ q, P[k]? = some q := ⟨_, List.getElem?_eq_getElem (by omega)⟩
    have hl := toksTo_len P k
    rw [toksTo, hq]
    simp only
    by_cases hj : q.join = true
    · rw [if_pos hj]
      refine ih (by omega) ?_
      rcases Nat.lt_or_eq_of_le (Nat.le_of_lt_succ h) with h2 | h2
      · exact h2
      · rw [← h2] at hq
        have := Vo.first_is (f := fun q => !q.join && q.byte == c) hq
        rw [hj] at this; simp at this
    · rw [if_neg hj]
      have hj' : q.join = false := by simpa using hj
      have ht := Vo.tokenOf_self hg hq hj'
      by_cases hc : q.byte = c
      · rw [hc] at ht
        rw [hc, List.getElem?_set, if_pos rfl, hl, ht]
      · rw [List.getElem?_set, if_neg hc]
        refine ih (by omega) ?_
        rcases Nat.lt_or_eq_of_le (Nat.le_of_lt_succ h) with h2 | h2
        · exact h2
        · have e : P[tokenOf P c]? = some q := by rw [h2]; exact hq
          have := Vo.first_is (f := fun q => !q.join && q.byte == c) e
          simp only [Bool.and_eq_true, beq_iff_eq] at this
          exact absurd this.2 hc
/-- The tokens of all bytes. -/
def toks (P : List Pc) : List Int := toksTo P P.length
theorem toks_at {P : List Pc} (hm : May P) (hok : ∀ q ∈ P, q.byte < 256) {c : Nat} (hc : c < 256) : (toks P)[c]? = some ((tokenOf P c : Nat) : Int) := by
  unfold toks
  rw [toksTo_at (Vo.may_iff.1 hm).2.1 _ (Nat.le_refl _) (Vo.tokenOf_lt hm hok hc), if_pos hc]
theorem toks_len (P : List Pc) : (toks P).length = 256 := toksTo_len P _
end Bp

set_option maxHeartbeats 2000000 in
theorem rtokens_any (P : List Vo.Pc) (v : Value) (B : Nat) (w : World) (hv : Lv pK w B v P) (hB : B ≤ w.heap.size) (hP : P.length ≤ 4096) :
    Calls Try.prog 94 #[.agg #[v]] w (IsL1 iK (Bp.toks P) w) := by
  obtain ⟨W, hW⟩ : ∃ W, w.alloc (.cells #[v] 41) = W := ⟨_, rfl⟩
  obtain ⟨d0, hsz, hb⟩ := boxed hW
  obtain ⟨g, hg⟩ : ∃ g, W.heap.size = g := ⟨_, rfl⟩
  have hgs : w.heap.size + 1 = g := by omega
  have HV := Lib.hid (hv.below_ hb hB)
  have HB0 := Lib.hid hb
  have HBB := Lib.hid hB
  have HSZ := Lib.hid hgs
  have HG := Lib.hid hg
  obtain ⟨A, c, rfl, -, -, -, -, -⟩ := hv
  clear hb hsz hB hgs
  go_enter Try.func94, Try.ntmps94
  go_wp2_with (at_make; go_must (refine wpList_make_l _ iK rfl _ _ rfl W.heap.size .i64 .i64 _ _ 256 256 rfl rfl rfl rfl (Nat.le_refl _) (by show 8 * _ ≤ _; omega) (by simp only [maxLen]; omega) (Nat.le_refl _) ?_; intro w1 hO hG1))
  rw [hg] at hO
  have HO : Hid (OwnL iK w1 g (.slice (some ⟨g, 0, none⟩) 256 256) (Bp.toksTo P 0)) := hO
  have HB1 := Lib.hid ((Below.refl g W).grown hG1 (by omega) (by intro k hk; cases hk))
  clear hO hG1 hg
  go_loopw [4] (fun i wr => ∃ k : Nat, k ≤ P.length ∧ i = .int .i64 k ∧ Hid (OwnL iK wr g (.slice (some ⟨g, 0, none⟩) 256 256) (Bp.toksTo P k)) ∧ Hid (Below g W wr)) (fun i _ => P.length - (intOf i).toNat)
  case atStart => exact ⟨0, Nat.zero_le _, rfl, HO.out, HB1.out⟩
  case round =>
    obtain ⟨k, hk, rfl, HT, hbr⟩ := hrel
    have e0 : wr.cell? ⟨w.heap.size, 0, none⟩ = some (.slice A P.length c) := (hbr.out.cell (p := ⟨w.heap.size, 0, none⟩) (by show w.heap.size < g; have := HSZ.out; omega)).trans d0
    have HBw : Hid (Below w.heap.size w wr) := HB0.out.trans (hbr.out.mono (by have := HSZ.out; omega))
    clear HO HB1 d0
    by_cases hlt : k < P.length
    · obtain ⟨b, off, p, rfl, hbB, hpok, hq, q0, q1, q2, q3, q4⟩ := (HV.out.below_ (hbr.out.mono (show B ≤ g by have := HSZ.out; have := HBB.out; omega)) (Nat.le_refl _)).piece_ hlt
      have hki : (k : Int) < (P.length : Int) := by omega
      have hkI : I64 (k : Int) := i64_nat (by omega)
      have wk : IntKind.i64.wrap ((k : Int) + 1) = (k : Int) + 1 := by rw [IntKind.wrap_i64]; omega
      cases hj : p.join with
      | true =>
        rw [hj] at q0
        have HX : Hid (Bp.toksTo P (k + 1) = Bp.toksTo P k) := by unfold Hid; rw [Bp.toksTo, hq]; simp [hj]
        clear hq hpok hj
        go_wp2
        go_roundw
        case rel => exact ⟨k + 1, hlt, by go_num, by unfold Hid; rw [HX.out]; exact HT.out, hbr.out⟩
        case measure => simp [intOf]; omega
      | false =>
        rw [hj] at q0
        have HX : Hid (Bp.toksTo P (k + 1) = (Bp.toksTo P k).set p.byte (k : Int)) := by unfold Hid; rw [Bp.toksTo, hq]; simp [hj]
        have hp8 : p.byte < 256 := hpok.1
        have hkl : p.byte < (Bp.toksTo P k).length := by rw [Bp.toksTo_len]; exact hp8
        obtain ⟨y, _, hc2⟩ := HT.out.was_ hkl
        have hfr := HT.out.cool_ p.byte
        obtain ⟨hs1, hg1⟩ := HT.out.setInt_ hkl hkI
        have HS := Lib.hid hs1
        have HB2 : Hid (Below g W (wr.setCell ⟨g, p.byte, none⟩ (.int .i64 (k : Int)))) := hbr.out.setCell (p := ⟨g, p.byte, none⟩) (Nat.le_refl _) (.int .i64 (k : Int))
        obtain ⟨pj, pb, pl, pr, pk⟩ := p
        simp only at q0 q1 hc2 hfr HS HX HB2 hp8
        have hpi : (pb : Int) < 256 := by omega
        clear hq hpok hj hs1 hg1 hkl q2 q3 q4
        go_wp2
        go_roundw
        case rel => exact ⟨k + 1, hlt, by go_num, by unfold Hid; rw [HX.out]; exact HS.out, HB2.out⟩
        case measure => simp [intOf]; omega
    · have hkn : k = P.length := by omega
      have hki : ¬ (k : Int) < (P.length : Int) := by omega
      subst hkn
      have HL := Lib.hid (Bp.toks_len P)
      clear hlt hk
      go_wp2
      go_ret
      exact ⟨some ⟨g, 0, none⟩, 256, by rw [HL.out]; rfl, by rw [HL.out]; exact HT.out.mono_ (by have := HSZ.out; omega), HBw.out⟩

set_option maxHeartbeats 1000000 in
theorem rlong_any (P : List Vo.Pc) (v : Value) (n : Int) (hn : I64 n) (B : Nat) (w : World) (hv : Lv pK w B v P) :
    Calls Try.prog 18 #[.agg #[v], .int .i64 n] w (IsBool (decide (500 < P.length ∨ (300 < n ∧ n ≤ 4096))) w) := by
  obtain ⟨A, c, rfl, h1, h2, _, _⟩ := hv
  have hl : P.length ≤ 9223372036854775807 := by simp only [maxLen] at h2; omega
  obtain ⟨q, hq⟩ : ∃ q, decide (500 < P.length ∨ (300 < n ∧ n ≤ 4096)) = q := ⟨_, rfl⟩
  rw [hq]
  have HQ := Lib.hid hq
  clear h1 h2 hq
  by_cases h : 500 < P.length
  · have hd : (500 : Int) < (P.length : Int) := by omega
    have HX : Hid (q = true) := by unfold Hid; rw [← HQ.out]; simp [h]
    clear h
    go_enter Try.func18, Try.ntmps18
    go_wp2
    go_ret
    exact ⟨by rw [HX.out]; rfl, (Below.refl _ _).alloc (Nat.le_refl _) _⟩
  · have hd : ¬ (500 : Int) < (P.length : Int) := by omega
    by_cases h3 : 300 < n
    · by_cases h4 : n ≤ 4096
      · have HX : Hid (q = true) := by unfold Hid; rw [← HQ.out]; simp [h3, h4]
        clear h
        go_enter Try.func18, Try.ntmps18
        go_wp2
        go_ret
        exact ⟨by rw [HX.out]; rfl, (Below.refl _ _).alloc (Nat.le_refl _) _⟩
      · have HX : Hid (q = false) := by unfold Hid; rw [← HQ.out]; simp [h4]; omega
        clear h
        go_enter Try.func18, Try.ntmps18
        go_wp2
        go_ret
        exact ⟨by rw [HX.out]; rfl, (Below.refl _ _).alloc (Nat.le_refl _) _⟩
    · have HX : Hid (q = false) := by unfold Hid; rw [← HQ.out]; simp [h3]; omega
      clear h
      go_enter Try.func18, Try.ntmps18
      go_wp2
      go_ret
      exact ⟨by rw [HX.out]; rfl, (Below.refl _ _).alloc (Nat.le_refl _) _⟩
end Go.Proofs.Ytkialijipcbgkaa
namespace Go.Proofs.Ytkialijipcbgkaa
open Go.RowKit
set_option linter.unusedVariables false

/-- Block g holds these cells, of this type. -/
def Rw (w : World) (g : Nat) (t : TypeId) (c : Array Value) : Prop := w.heap[g]? = some (.cells c t (0, 0))
section
variable {w w' : World} {g k : Nat} {t : TypeId} {c : Array Value} {v : Value}
theorem Rw.lt (h : Rw w g t c) : g < w.heap.size := (Array.getElem?_eq_some_iff.1 h).1
theorem Rw.cell (h : Rw w g t c) (k : Nat) : w.cell? ⟨g, k, none⟩ = c[k]? := cell_of_row w g k c t (0, 0) h
theorem Rw.frozen (h : Rw w g t c) (k : Nat) : w.frozen? ⟨g, k, none⟩ = false := by
  have h' : w.heap[g]? = some (.cells c t (0, 0)) := h
  simp [World.frozen?, h']
theorem Rw.below (h : Rw w g t c) {B : Nat} (hb : Below B w w') (hB : g < B) : Rw w' g t c := (hb.block g hB).trans h
theorem Rw.drew (h : Rw w g t c) : Rw w.drew g t c := h
theorem Rw.new (w : World) (t : TypeId) (c : Array Value) : Rw (w.alloc (.cells c t)) w.heap.size t c := heap_alloc_new w _
theorem Rw.at_ {n : Nat} (h : n = w.heap.size) (t : TypeId) (c : Array Value) : Rw (w.alloc (.cells c t)) n t c := by subst h; exact Rw.new w t c
theorem Rw.old (h : Rw w g t c) (o : Obj) : Rw (w.alloc o) g t c := by
  show (w.heap.push o)[g]? = _
  have := h.lt
  rw [Array.getElem?_push, if_neg (by omega)]
  exact h
theorem Rw.set (h : Rw w g t c) (k : Nat) (v : Value) : Rw (w.setCell ⟨g, k, none⟩ v) g t (c.setIfInBounds k v) := by
  unfold Rw
  rw [setCell_eq_setRow w g k c t (0, 0) v h]
  exact setRow_heap w g c _ t (0, 0) h
theorem Rw.setOther (h : Rw w g t c) {g' : Nat} (hg : g ≠ g') (k : Nat) (v : Value) : Rw (w.setCell ⟨g', k, none⟩ v) g t c := by
  unfold Rw World.setCell at *
  simp only [Array.getElem?_modify, Ne.symm hg, if_false]
  exact h
theorem Rw.row (h : Rw w g t c) (c' : Array Value) : Rw (w.setRow g c') g t c' := setRow_heap w g c c' t (0, 0) h
theorem Rw.rowOther (h : Rw w g t c) {g' : Nat} (hg : g ≠ g') (c' : Array Value) : Rw (w.setRow g' c') g t c := (setRow_other w g' g c' hg).trans h
end
end Go.Proofs.Ytkialijipcbgkaa
