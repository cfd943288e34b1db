/-
  CopyI: stookref00.CopyInts.
  Ints: stookref00.Ints answers whether two slices hold the same numbers.
  BoxT: A struct's or an array's cells, whole, in a box of a law (of any type).
-/
import Derived.Test.YtmcbjcbnckpfkaaGreatPk04
import Derived.Test.YtmcbjcbnckpfkaaGreatPk02
import Derived.Test.YtmcbjcbnckpfkaaGreatPk05
import Derived.Deep.QuietTactic
import Derived.BigQuiet
import Derived.Test.YtmcbjcbnckpfkaaGreatPk14
import Derived.Deep.RegionHeld
import Derived.Deep.WholeRow
namespace Go.Proofs.YtmcbjcbnckpfkaaGreat
open Go.RowKit
set_option linter.unusedVariables false

set_option maxHeartbeats 1000000 in
set_option maxRecDepth 100000 in
theorem copyInts_any (v : Value) (l : List Int) (B : Nat) (w : World) (h : Lv iK w B v l) (hsz : l.length ≤ 17592186044416) :
    Calls Tryz.prog 13 #[v] w (IsL1 iK l w) := by
  have H0 := Lib.hid h
  obtain ⟨A, c, rfl, _⟩ := h
  have hnil := Lib.hid (OwnL.nil_ iK w w.heap.size)
  go_enter Tryz.func13, Tryz.ntmps13
  go_wp2_with (at_builtin; go_must (refine wpList_append_l _ iK rfl _ _ rfl w.heap.size _ rfl [] hnil.out _ rfl _ l H0.out (by show _ * 8 ≤ _; simp; omega) (by simp [maxLen]; omega) (Nat.le_refl _) ?_; intro A3 c3 w1 hA hG))
  go_ret
  simp only [List.nil_append] at hA
  exact ⟨A3, c3, by simp, hA, (Below.refl w.heap.size w).grown hG (Nat.le_refl _) (by intro k hk; cases hk)⟩
end Go.Proofs.YtmcbjcbnckpfkaaGreat
namespace Go.Proofs.YtmcbjcbnckpfkaaGreat
open Go.RowKit
set_option linter.unusedVariables false

set_option maxHeartbeats 400000 in
theorem ints_ne (A A' : Option Addr) (la lb : List Int) (c c' : Nat) (w : World) (hlen : la.length ≤ maxLen) (hlen' : lb.length ≤ maxLen) (hne : la.length ≠ lb.length) :
    Calls Tryz.prog 16 #[.slice A la.length c, .slice A' lb.length c'] w (IsBool false w) := by
  unfold maxLen at hlen hlen'
  have hq : (((la.length : Nat) : Int) != ((lb.length : Nat) : Int)) = true := by rw [bne_iff_ne]; omega
  go_enter Tryz.func16, Tryz.ntmps16
  go_wp2
  go_ret
  exact ⟨rfl, Below.refl _ _⟩

set_option maxHeartbeats 400000 in
theorem ints_eq (A A' : Option Addr) (la lb : List Int) (c c' B B' : Nat) (w : World) (ha : Lv iK w B (.slice A la.length c) la) (hb : Lv iK w B' (.slice A' lb.length c') lb) (heq : la.length = lb.length) :
    Calls Tryz.prog 16 #[.slice A la.length c, .slice A' lb.length c'] w (IsBool (decide (la = lb)) w) := by
  have hlen : la.length ≤ 9223372036854775807 := by have := ha.len_; simp only [maxLen] at this; omega
  have hq : (((la.length : Nat) : Int) != ((lb.length : Nat) : Int)) = false := by rw [heq]; simp
  have HE := Lib.hid heq
  have hle : la.length ≤ lb.length := by omega
  have hge : lb.length ≤ la.length := by omega
  clear heq
  go_enter Tryz.func16, Tryz.ntmps16
  go_wp2
  go_loopw [5] (fun i wr => ∃ k : Nat, k ≤ la.length ∧ i = .int .i64 k ∧ Hid (la.take k = lb.take k) ∧ Below w.heap.size w wr ∧ Hid (Lv iK wr B (.slice A la.length c) la) ∧ Hid (Lv iK wr B' (.slice A' lb.length c') lb)) (fun i _ => la.length - (intOf i).toNat)
  case atStart => exact ⟨0, by omega, rfl, by simp [Hid], Below.refl _ _, ha, hb⟩
  case round =>
    obtain ⟨k, hk, rfl, HT, hbel, HA, HB⟩ := hrel
    by_cases hlt : k < la.length
    · obtain ⟨b1, o1, x, rfl, hb1, hx, hd, hcell⟩ := HA.out.int_ hlt
      obtain ⟨b2, o2, y, rfl, hb2, hy, hd', hcell'⟩ := HB.out.int_ (k := k) (by omega)
      have HS := Lib.hid (take_both HT.out hd hd')
      clear hd hd' ha hb hx hy
      have hlt' : k < lb.length := by omega
      by_cases hxy : x = y
      · subst hxy
        have hq2 : ((x : Int) != (x : Int)) = false := by simp
        go_wp2
        go_quiet (fail)
        go_wp2
        go_roundw
        case rel => exact ⟨k + 1, by omega, by go_num, HS.out.2 (by simp), below_drewN hbel _, HA.out, HB.out⟩
        case measure => simp [intOf]; omega
      · have hq2 : ((x : Int) != (y : Int)) = true := by rw [bne_iff_ne]; omega
        go_wp2
        go_quiet (fail)
        go_wp2
        go_ret
        have hne : la ≠ lb := take_unlike (fun e => hxy (HS.out.1 e))
        exact ⟨by simp [hne], below_drewN hbel _⟩
    · go_wp2
      go_ret
      have h1 : la = lb := take_whole HT.out (by omega) (by omega)
      exact ⟨by simp [h1], hbel⟩

theorem ints_lv (v v' : Value) (la lb : List Int) (B B' : Nat) (w : World) (h : Lv iK w B v la) (h' : Lv iK w B' v' lb) :
    Calls Tryz.prog 16 #[v, v'] w (IsBool (decide (la = lb)) w) := by
  have k := h
  have k' := h'
  obtain ⟨A, c, rfl, h1, h2, _⟩ := h
  obtain ⟨A', c', rfl, h1', h2', _⟩ := h'
  by_cases he : la.length = lb.length
  · exact ints_eq A A' la lb c c' B B' w k k' he
  · have hne : la ≠ lb := fun e => he (by rw [e])
    have := ints_ne A A' la lb c c' w (by omega) (by omega) he
    simpa [hne] using this
end Go.Proofs.YtmcbjcbnckpfkaaGreat
namespace Go.Proofs.YtmcbjcbnckpfkaaGreat
open Go.RowKit
set_option linter.unusedVariables false
/-- Cells of type T in a box below B. -/
def BxT (T : TypeId) (w : World) (B g : Nat) (C : Array Value) : Prop := g < B ∧ Rw w g T C
section
variable {T : TypeId} {w w' W : World} {B B' g : Nat} {C N : Array Value}
theorem BxT.below_ (h : BxT T w B g C) (hb : Below B' w w') (hB : B ≤ B') : BxT T w' B g C := ⟨h.1, h.2.below hb (Nat.lt_of_lt_of_le h.1 hB)⟩
theorem BxT.mono_ (h : BxT T w B g C) (hB : B ≤ B') : BxT T w B' g C := ⟨Nat.lt_of_lt_of_le h.1 hB, h.2⟩
theorem bxt_stored (hX : (w.alloc (.cells N T)).setRow w.heap.size C = W) : BxT T W W.heap.size w.heap.size C ∧ Below w.heap.size w W := by
  subst hX
  have h1 : Rw (w.alloc (.cells N T)) w.heap.size T N := Rw.new w _ _
  exact ⟨⟨(h1.row C).lt, h1.row C⟩, below_setRow ((Below.refl _ _).alloc (Nat.le_refl _) _) (Nat.le_refl _) _⟩
theorem bxt_new (hW : w.alloc (.cells C T) = W) : BxT T W W.heap.size w.heap.size C ∧ Below w.heap.size w W := by
  subst hW
  exact ⟨⟨by simp, Rw.new w _ _⟩, (Below.refl _ _).alloc (Nat.le_refl _) _⟩
end
/-- A load of a whole row that is guarded, where the guard lets it. -/
theorem wpList_load_row_onT {P : Program} {ops : Array Oper} {rest : List Oper} {o : Oper} {a : Act} {w : World} {Q : Exit → Act → World → Prop} (hw : Region.wanted o (yielded ops a.tmps) = true) (ty : TypeId) (x : Operand) (ho : o.op = .load ty x)
    (g : Nat) (hx : a.eval x = .pointer (some ⟨g, 0, none⟩)) (t : TypeId) (cs : Array Value) (fr : Nat × Nat) (d : TypeDesc)
    (hg : w.heap[g]? = some (.cells cs t fr)) (hu : P.underlying ty = some d) (hd : (match d with | .struct _ | .array _ _ => true | _ => false) = true) (hi : (P.info? ty).map (·.size) = some cs.size)
    (h : wpList P ops Q rest (a.put o.dst (.agg cs)) w) : wpList P ops Q (o :: rest) a w :=
  wpList_step fun K hK => by
    rw [if_pos hw]
    exact wp_load_row ty x ho g hx t cs fr d hg hu hd hi (hK _ _ h)
theorem wpList_build_atT {P : Program} {ops : Array Oper} {rest : List Oper} {o : Oper} {a : Act} {w : World} {Q : Exit → Act → World → Prop} (hg : o.guard = none) (t : TypeId) (parts : Array (Nat × Operand)) (ho : o.op = .build t parts) (c : Array Value)
    (hf : P.built t (parts.map fun (i, x) => (i, a.eval x)).toList = some c)
    (h : wpList P ops Q rest (a.put o.dst (.agg c)) w) : wpList P ops Q (o :: rest) a w :=
  wpList_build hg t parts ho (by rw [hf]; rfl) (by rw [hf]; exact h)
/-- A struct that is built, as an operation of a region that draws. -/
theorem exec_build {P : Program} {a : Act} {o : Oper} (t : TypeId) (parts : Array (Nat × Operand)) (ho : o.op = .build t parts) (c : Array Value) (w : World)
    (hf : P.built t (parts.map fun (i, x) => (i, a.eval x)).toList = some c) : (execOp a.eval o).run P w = .ok (.value (.agg c)) w := by
  unfold execOp
  simp only [ho, Sem.run_bind, run_build w t _ c hf, Result.andThen_ok]
  rfl
end Go.Proofs.YtmcbjcbnckpfkaaGreat
