/-
  slices.Clone of bytes; page.Get.
-/
import Derived.Test.YtdmomnpmicagcaaPgD
import Derived.Test.YtdmomnpmicagcaaEqlNil
import Derived.Test.YtdmomnpmicagcaaRPgB
import Derived.Test.YtdmomnpmicagcaaEq4
namespace Go.Proofs.Ytdmomnpmicagcaa
open Go.RowKit
set_option linter.unusedVariables false
set_option maxHeartbeats 1000000 in
set_option maxRecDepth 100000 in
theorem psclone_any (v : Value) (l : List Nat) (B : Nat) (w : World) (h : Lv yK w B v l) (hB : B ≤ w.heap.size) (hsz : l.length ≤ 140737488355328) :
    Calls Try.prog 22 #[v] w (IsL1 yK l w) := by
  have H0 := Lib.hid h
  obtain ⟨A, c, rfl, h1, h2, h3, _⟩ := h
  cases A with
  | none =>
    have hc := h3 rfl
    have hl : l = [] := List.eq_nil_of_length_eq_zero (by omega)
    subst hl hc
    have hq := fun w => eql_nil_slice w none 0 0
    clear h1 h2 h3 hsz hB
    go_enter Try.func22, Try.ntmps22
    go_wp2
    go_ret
    exact ⟨none, 0, rfl, OwnL.nil_ _ _ _, Below.refl _ _⟩
  | some a =>
    have HN : Hid (OwnL yK (w.alloc (.cells #[] 5)) w.heap.size (.slice (some ⟨w.heap.size, 0, none⟩) 0 0) []) := ⟨by simp, .inr ⟨w.heap.size, [], rfl, Nat.le_refl _, by simp, by simp [maxLen], heap_alloc_new w _⟩⟩
    have H1 := Lib.hid (H0.out.below_ ((Below.refl w.heap.size w).alloc (Nat.le_refl _) (.cells #[] 5)) hB)
    have hb : Below w.heap.size w (w.alloc (.cells #[] 5)) := (Below.refl _ _).alloc (Nat.le_refl _) _
    have HB := Lib.hid hb
    clear hb
    have hq := fun w => eql_nil_slice w (some a) l.length c
    go_enter Try.func22, Try.ntmps22
    go_wp2_with (at_builtin; go_must (refine wpList_append_l _ yK rfl _ _ rfl w.heap.size _ rfl [] HN.out _ rfl B l H1.out (by show _ * 1 ≤ _; simp; omega) (by simp only [maxLen, List.length_nil]; omega) (by simp) ?_; intro A3 c3 w1 hA hG))
    go_ret
    simp only [List.nil_append] at hA
    exact ⟨A3, c3, by simp, hA, HB.out.grown hG HB.out.size (fun k hk => by have e : w.heap.size = k := Option.some.inj hk; omega)⟩
set_option maxRecDepth 100000 in
theorem arr4c_at (a : Addr) (c : Nat) (w : World) : (Instr.arrayAt 34 (.slice (some a) 4 c)).run Try.prog w = .ok (.pointer (some a)) w := by
  simp [Instr.arrayAt, run_underlying Try.underlying34]
set_option maxRecDepth 100000 in
theorem arr512_at (a : Addr) (c : Nat) (w : World) : (Instr.arrayAt 38 (.slice (some a) 512 c)).run Try.prog w = .ok (.pointer (some a)) w := by
  simp [Instr.arrayAt, run_underlying Try.underlying38]
theorem equal4b {s t : List Nat} (hs : s.length = 4) (ht : t.length = 4) (hs8 : ∀ x ∈ s, x < 256) (ht8 : ∀ x ∈ t, x < 256) (w : World) :
    (Op.equalIn 10000 34 (.agg (bvs s)) (.agg (bvs t))).run Try.prog w = .ok (decide (s = t)) w := equal4 hs ht hs8 ht8 w
theorem equal512 {s t : List Nat} (hs : s.length = 512) (ht : t.length = 512) (hs8 : ∀ x ∈ s, x < 256) (ht8 : ∀ x ∈ t, x < 256) (w : World) :
    (Op.equalIn 10000 38 (.agg (bvs s)) (.agg (bvs t))).run Try.prog w = .ok (decide (s = t)) w := by
  have h := run_equalIn_bytes (P := Try.prog) w 9998 38 5 512 Try.underlying38 Try.underlying5 size_of5 (s.map UInt8.ofNat) (t.map UInt8.ofNat) (by simpa using hs) (by simpa using ht)
  rw [cells_u8 hs8, cells_u8 ht8, u8_inj hs8 ht8] at h
  exact h
theorem bv_range {w : World} {B b off n c : Nat} {l : List Nat} (h : Bv w B (.slice (some ⟨b, off, none⟩) n c) l) (h0 : 0 < l.length) : w.rangeAt b off (bvs l).toList := by
  obtain ⟨A, c', e, h1, h2, h3, hb⟩ := h
  injection e with e1 e2 e3
  subst e1
  obtain ⟨b', o', e, hlt, hc⟩ := hb.2 h0
  injection e with e
  injection e with e4 e5
  subst e4 e5
  intro j v hv
  have hv' : (l.map u8)[j]? = some v := hv
  rw [List.getElem?_map] at hv'
  cases hx : l[j]? with
  | none => rw [hx] at hv'; cases hv'
  | some x => rw [hx] at hv'; injection hv' with hv'; subst hv'; exact hc j x hx
theorem wpList_load_midA {P : Program} {ops : Array Oper} {rest : List Oper} {op : Oper} {a : Act} {w : World} {Q : Exit → Act → World → Prop} (hgd : op.guard = none) (ty : TypeId) (x : Operand) (ho : op.op = .load ty x)
    (b o : Nat) (hx : a.eval x = .pointer (some ⟨b, o, none⟩)) (cs : Array Value) (d : TypeDesc) (hc : w.rangeAt b o cs.toList)
    (hu : P.underlying ty = some d) (hd : d.isRow = true) (hi : (P.info? ty).map (·.size) = some cs.size)
    (h : wpList P ops Q rest (a.put op.dst (.agg cs)) w) : wpList P ops Q (op :: rest) a w :=
  wpList_load_mid hgd ty x ho b o hx cs.toList d hc hu hd (by simpa using hi) (by simpa using h)
theorem Pg.page_iff {n k : Nat} {b c S : List Nat} (hS : b.take 4 = S) (hC : S = four (Cr.of (b.drop 4))) : (b = S ++ Pg.rest n k c) ↔ Pg.page n k c = b := by
  have hl : S.length = 4 := by rw [hC]; rfl
  constructor
  · intro h
    have hd : b.drop 4 = Pg.rest n k c := by rw [h]; exact List.drop_left' hl
    rw [Pg.page, ← hd, ← hC, ← hS, List.take_append_drop]
  · intro h
    have hd : b.drop 4 = Pg.rest n k c := by rw [← h, Pg.page_drop]
    rw [← hd, ← hS, List.take_append_drop]
end Go.Proofs.Ytdmomnpmicagcaa

