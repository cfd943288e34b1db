/-
  RVfC: stookref09's reader: what it holds; wrong, byte, number.
  RVfD: stookref09's reader: piece.
  RVfE: stookref09: what the reader's pieces are; begins.
-/
import Derived.Test.YtglkhgchbnkekaaPk18
import Derived.Test.YtglkhgchbnkekaaPk15
import Derived.BigQuiet
import Derived.Deep.RegionHeld3
namespace Go.Proofs.Ytglkhgchbnkekaa
open Go.RowKit
set_option linter.unusedVariables false

/-- Where a reader stands, and what was wrong, and where. -/
structure Vf.Rd where
  a : Nat
  e : Nat
  x : Nat
namespace Vf
def wrongR (s : Rd) (e x : Nat) : Rd := if s.e = 0 then ⟨s.a, e, x⟩ else s
def byteR (l : List Nat) (s : Rd) : Nat × Rd := if s.e = 0 then (match l[s.a]? with | none => (0, ⟨s.a, 4, l.length⟩) | some c => (c, ⟨s.a + 1, 0, s.x⟩)) else (0, s)
def numR (l : List Nat) (most : Nat) (s : Rd) : Nat × Rd := if s.e = 0 then (match num l s.a most with | .bad e w => (0, ⟨s.a, e, w⟩) | .got n k => (n, ⟨k, 0, s.x⟩)) else (0, s)
end Vf
open Vf (Rd)
/-- The reader's own block. -/
def Rdr (w : World) (g : Nat) (v : Value) (s : Rd) : Prop := w.heap[g]? = some (.cells #[v, .int .i64 (s.a : Nat), .int .i64 (s.e : Nat), .int .i64 (s.x : Nat)] 66 (0, 0))
section
variable {w w' : World} {g : Nat} {v : Value} {s : Rd}
theorem Rdr.lt_ (h : Rdr w g v s) : g < w.heap.size := (Array.getElem?_eq_some_iff.1 h).1
theorem Rdr.b (h : Rdr w g v s) : w.cell? ⟨g, 0, none⟩ = some v := by rw [cell_of_row _ g 0 _ _ _ h]; rfl
theorem Rdr.at_ (h : Rdr w g v s) : w.cell? ⟨g, 1, none⟩ = some (.int .i64 (s.a : Nat)) := by rw [cell_of_row _ g 1 _ _ _ h]; rfl
theorem Rdr.e_ (h : Rdr w g v s) : w.cell? ⟨g, 2, none⟩ = some (.int .i64 (s.e : Nat)) := by rw [cell_of_row _ g 2 _ _ _ h]; rfl
theorem Rdr.x_ (h : Rdr w g v s) : w.cell? ⟨g, 3, none⟩ = some (.int .i64 (s.x : Nat)) := by rw [cell_of_row _ g 3 _ _ _ h]; rfl
theorem Rdr.cool (h : Rdr w g v s) (j : Nat) : w.frozen? ⟨g, j, none⟩ = false := frozen_of_row w g j _ _ h
theorem Rdr.block_ (h : Rdr w g v s) (hb : w'.heap[g]? = w.heap[g]?) : Rdr w' g v s := hb.trans h
theorem Rdr.below_ (h : Rdr w g v s) {B : Nat} (hb : Below B w w') (hB : g < B) : Rdr w' g v s := (hb.block g hB).trans h
theorem Rdr.setA (h : Rdr w g v s) (k : Nat) : Rdr (w.setCell ⟨g, 1, none⟩ (.int .i64 (k : Nat))) g v ⟨k, s.e, s.x⟩ := by unfold Rdr; rw [heap_setCell_same w g 1 _ _ _ h]; rfl
theorem Rdr.setE (h : Rdr w g v s) (k : Nat) : Rdr (w.setCell ⟨g, 2, none⟩ (.int .i64 (k : Nat))) g v ⟨s.a, k, s.x⟩ := by unfold Rdr; rw [heap_setCell_same w g 2 _ _ _ h]; rfl
theorem Rdr.setX (h : Rdr w g v s) (k : Nat) : Rdr (w.setCell ⟨g, 3, none⟩ (.int .i64 (k : Nat))) g v ⟨s.a, s.e, k⟩ := by unfold Rdr; rw [heap_setCell_same w g 3 _ _ _ h]; rfl
theorem Rdr.drewN_ (h : Rdr w g v s) (n : Nat) : Rdr (w.drewN n) g v s := h
end

set_option maxHeartbeats 1000000 in
theorem rwrong_any (g : Nat) (v : Value) (s : Rd) (e x : Nat) (w : World) (h : Rdr w g v s) :
    Calls Try.prog 58 #[.pointer (some ⟨g, 0, none⟩), .int .i64 (e : Nat), .int .i64 (x : Nat)] w (fun en w' => (∃ y, en = .returned y) ∧ Rdr w' g v (Vf.wrongR s e x) ∧ Turned (fun k => k = g) w w') := by
  obtain ⟨a, er, x0⟩ := s
  have c2 := h.e_
  have f2 := h.cool 2
  by_cases he : er = 0
  · subst he
    have h1 := h.setE e
    obtain ⟨W1, hW1⟩ : ∃ W, w.setCell ⟨g, 2, none⟩ (.int .i64 (e : Nat)) = W := ⟨_, rfl⟩
    rw [hW1] at h1
    have h2 := h1.setX x
    have c3 := h1.x_
    have f3 := h1.cool 3
    have t1 : Turned (fun k => k = g) w W1 := by rw [← hW1]; exact (Turned.refl (fun k => k = g) w).setCell (p := ⟨g, 2, none⟩) (fun _ => rfl) _
    have HT : Hid (Turned (fun k => k = g) w (W1.setCell ⟨g, 3, none⟩ (.int .i64 (x : Nat)))) := t1.setCell (p := ⟨g, 3, none⟩) (fun _ => rfl) _
    have HR := Lib.hid h2
    simp only [Int.natCast_zero] at c2
    simp only at c3
    clear h h1 h2 t1
    go_enter Try.func58, Try.ntmps58
    go_wp2
    refine bodyPost_end (results_none rfl _ _ _) rfl ?_
    exact ⟨⟨_, rfl⟩, HR.out, HT.out⟩
  · have hne : ¬ ((er : Int) = 0) := by omega
    have HR : Hid (Vf.wrongR ⟨a, er, x0⟩ e x = ⟨a, er, x0⟩) := if_neg he
    have HH := Lib.hid h
    simp only at c2
    clear h
    go_enter Try.func58, Try.ntmps58
    go_wp2
    refine bodyPost_end (results_none rfl _ _ _) rfl ?_
    exact ⟨⟨_, rfl⟩, by rw [HR.out]; exact HH.out, Turned.refl _ _⟩
set_option maxHeartbeats 2000000 in
theorem rvbyte_any (g : Nat) (v : Value) (s : Rd) (l : List Nat) (w : World) (h : Rdr w g v s) (hv : Lv yK w g v l) (ha : s.a ≤ l.length) :
    Calls Try.prog 59 #[.pointer (some ⟨g, 0, none⟩)] w (fun en w' => en = .returned (.int .u8 ((Vf.byteR l s).1 : Nat)) ∧ Rdr w' g v (Vf.byteR l s).2 ∧ Turned (fun k => k = g) w w') := by
  obtain ⟨a, er, x0⟩ := s
  have c0 := h.b
  have c1 := h.at_
  have c2 := h.e_
  simp only at c1 c2 ha
  by_cases he : er = 0
  · subst he
    simp only [Int.natCast_zero] at c2
    obtain ⟨A, c, rfl, h1, h2, -, -, -⟩ := id hv
    have hm : l.length ≤ 9223372036854775807 := by simp only [maxLen] at h2; omega
    clear h1 h2
    by_cases hal : a = l.length
    · have HX : Hid (Vf.byteR l ⟨a, 0, x0⟩ = (0, ⟨a, 4, l.length⟩)) := by
        unfold Hid Vf.byteR
        rw [if_pos rfl]
        simp only
        rw [List.getElem?_eq_none (by omega)]
      have HW : Hid (∀ w', Rdr w' g (.slice A l.length c) ⟨a, 0, x0⟩ → Calls Try.prog 58 #[.pointer (some ⟨g, 0, none⟩), .int .i64 (4 : Nat), .int .i64 (l.length : Nat)] w' (fun en w2 => (∃ y, en = .returned y) ∧ Rdr w2 g (.slice A l.length c) ⟨a, 4, l.length⟩ ∧ Turned (fun k => k = g) w' w2)) := fun w' h => rwrong_any g _ ⟨a, 0, x0⟩ 4 l.length w' h
      have HH := Lib.hid h
      have hal2 : (a : Int) = (l.length : Int) := by omega
      clear h hv hal ha
      go_enter Try.func59, Try.ntmps59
      go_wp2
      go_quiet (fail)
      generalize hW9 : w.drewN _ = w9
      have HH9 : Hid (Rdr w9 g (.slice A l.length c) ⟨a, 0, x0⟩) := by unfold Hid; rw [← hW9]; exact HH.out.drewN_ _
      have HT9 : Hid (Turned (fun k => k = g) w w9) := by unfold Hid; rw [← hW9]; exact (Turned.refl _ w).drewN _
      have d0 := HH9.out.b
      clear hW9 c0 c1 c2
      go_wp2_with (fail)
      refine (HW.out w9 HH9.out).mono ?_
      rintro e w2 ⟨⟨y, rfl⟩, hr, ht⟩
      have HR := Lib.hid hr
      have HT := Lib.hid (HT9.out.trans ht (fun _ _ h => h))
      clear hr ht d0
      go_wp2
      go_ret
      exact ⟨by rw [HX.out]; rfl, by rw [HX.out]; exact HR.out, HT.out⟩
    · have hlt : a < l.length := by omega
      obtain ⟨b, off, y, rfl, hbg, hy, hq, hc0⟩ := hv.at_ hlt
      have hyv := hc0 0 _ rfl
      have hX0 : Vf.byteR l ⟨a, 0, x0⟩ = (y, ⟨a + 1, 0, x0⟩) := by
        unfold Vf.byteR
        rw [if_pos rfl]
        simp only
        rw [hq]
      have HX := Lib.hid hX0
      have HH := Lib.hid h
      have g1 : ¬ ((a : Int) = (l.length : Int)) := by omega
      have g2 : (a : Int) < (l.length : Int) := by omega
      have wk : IntKind.i64.wrap ((a : Int) + 1) = (a : Int) + 1 := by rw [IntKind.wrap_i64]; omega
      have wk2 : IntKind.i64.wrap ((a : Int) + 1 - 1) = (a : Int) := by rw [IntKind.wrap_i64]; omega
      have HQ : Hid (b ≠ g) := Nat.ne_of_lt hbg
      clear h hv hal ha hX0 hc0 hq
      go_enter Try.func59, Try.ntmps59
      go_wp2
      go_quiet (fail)
      generalize hW9 : w.drewN _ = w9
      have HH9 : Hid (Rdr w9 g (.slice (some ⟨b, off, none⟩) l.length c) ⟨a, 0, x0⟩) := by unfold Hid; rw [← hW9]; exact HH.out.drewN_ _
      have HT9 : Hid (Turned (fun k => k = g) w w9) := by unfold Hid; rw [← hW9]; exact (Turned.refl _ w).drewN _
      have hy9 := (HT9.out.cell hyv HQ.out)
      have d1 := HH9.out.at_
      have f1 := HH9.out.cool 1
      simp only at d1
      obtain ⟨W1, hW1⟩ : ∃ W1, w9.setCell ⟨g, 1, none⟩ (.int .i64 ((a : Int) + 1)) = W1 := ⟨_, rfl⟩
      have HT1 : Hid (Turned (fun k => k = g) w W1) := by unfold Hid; rw [← hW1]; exact HT9.out.setCell (p := ⟨g, 1, none⟩) (fun _ => rfl) _
      have HR1 : Hid (Rdr W1 g (.slice (some ⟨b, off, none⟩) l.length c) ⟨a + 1, 0, x0⟩) := by unfold Hid; rw [← hW1]; exact HH9.out.setA (a + 1)
      have hy1 := HT1.out.cell hyv HQ.out
      have i0 := HR1.out.b
      have i1 : W1.cell? ⟨g, 1, none⟩ = some (.int .i64 ((a : Int) + 1)) := HR1.out.at_
      rw [show off + (a * yK.size + 0) = off + a from by show off + (a * 1 + 0) = _; omega] at hy1
      clear hW9 c0 c1 c2 hyv hy9
      go_wp2
      have g3 : (0 : Int) ≤ (a : Int) := by omega
      clear d1 f1 hW1 hbg hy hlt
      go_quiet (fail)
      go_wp2
      go_ret
      exact ⟨by rw [HX.out]; rfl, by rw [HX.out]; exact HR1.out.drewN_ _, HT1.out.drewN _⟩
  · have hne : ¬ ((er : Int) = 0) := by omega
    have HX : Hid (Vf.byteR l ⟨a, er, x0⟩ = (0, ⟨a, er, x0⟩)) := if_neg he
    have HH := Lib.hid h
    clear h hv
    go_enter Try.func59, Try.ntmps59
    go_wp2
    go_ret
    exact ⟨by rw [HX.out]; rfl, by rw [HX.out]; exact HH.out, Turned.refl _ _⟩

set_option maxHeartbeats 4000000 in
theorem rvnum_any (g : Nat) (v : Value) (s : Rd) (most : Nat) (l : List Nat) (w : World) (h : Rdr w g v s) (hv : Lv yK w g v l) :
    Calls Try.prog 35 #[.pointer (some ⟨g, 0, none⟩), .int .u64 (most : Nat)] w (fun en w' => en = .returned (.int .u64 ((Vf.numR l most s).1 : Nat)) ∧ Rdr w' g v (Vf.numR l most s).2 ∧ Turned (fun k => k = g) w w') := by
  obtain ⟨a, er, x0⟩ := s
  have c0 := h.b
  have c1 := h.at_
  have c2 := h.e_
  simp only at c1 c2
  by_cases he : er = 0
  · subst he
    simp only [Int.natCast_zero] at c2
    obtain ⟨A, c, rfl, -, -, -, -, -⟩ := id hv
    have HC := Lib.hid (rget_any _ l g (a : Nat) w.drew (hv.bv_))
    have HN : Hid (Vf.numR l most ⟨a, 0, x0⟩ = match Vf.num l a most with | .bad e w => (0, ⟨a, e, w⟩) | .got n k => (n, ⟨k, 0, x0⟩)) := if_pos rfl
    unfold Vf.num at HN
    obtain ⟨r, hr⟩ : ∃ r, Mt.get l (a : Nat) = r := ⟨_, rfl⟩
    rw [hr] at HC HN
    obtain ⟨n, k, e⟩ := r
    simp only at HN
    have HW : Hid (∀ (er : Nat) w', Rdr w' g (.slice A l.length c) ⟨a, 0, x0⟩ → Calls Try.prog 58 #[.pointer (some ⟨g, 0, none⟩), .int .i64 (er : Nat), .int .i64 (a : Nat)] w' (fun en w2 => (∃ y, en = .returned y) ∧ Rdr w2 g (.slice A l.length c) ⟨a, er, a⟩ ∧ Turned (fun k => k = g) w' w2)) := fun er w' h => rwrong_any g _ ⟨a, 0, x0⟩ er a w' h
    have HH := Lib.hid h
    have HD : Hid (Rdr w.drew g (.slice A l.length c) ⟨a, 0, x0⟩) := h.drewN_ 1
    have s0 : w.drew.cell? ⟨g, 0, none⟩ = some (.slice A l.length c) ∧ w.drew.cell? ⟨g, 1, none⟩ = some (.int .i64 (a : Nat)) := ⟨c0, c1⟩
    clear h hv hr
    go_enter Try.func35, Try.ntmps35
    go_wp2
    go_region_held3 (fun w' => w'.cell? ⟨g, 0, none⟩ = some (.slice A l.length c) ∧ w'.cell? ⟨g, 1, none⟩ = some (.int .i64 (a : Nat)))
      (first | exact s0 | exact s1)
      (first | (go_at_call 57; (with_reducible refine HC.out.mono ?_); rintro en w1 ⟨rfl, hb1⟩; have HR1 : Hid (Rdr w1 g (.slice A l.length c) ⟨a, 0, x0⟩) := HD.out.below_ hb1 HD.out.lt_; have HB1 : Hid (Turned (fun k => k = g) w w1) := (((Turned.refl (fun k => k = g) w).drew).trans (Turned.of_below hb1) (fun k hk h => absurd h (Nat.not_le.2 hk))); have s1 := (⟨HR1.out.b, HR1.out.at_⟩ : w1.cell? ⟨g, 0, none⟩ = some (.slice A l.length c) ∧ w1.cell? ⟨g, 1, none⟩ = some (.int .i64 (a : Nat))); clear hb1))
    all_goals (
      have k1 := s1.2
      have kf := HR1.out.cool 1
      clear s0 s1 c0 c1 c2 HC HH HD
      by_cases he : e = 0
      · subst he
        simp only [Int.natCast_zero]
        by_cases hm : most < n
        · have g1 : (most : Int) < (n : Int) := by omega
          have HX : Hid (Vf.numR l most ⟨a, 0, x0⟩ = (0, ⟨a, 3, a⟩)) := by unfold Hid; rw [HN.out, if_neg (by simp), if_pos hm]
          have HW3 := Lib.hid (HW.out 3 w1 HR1.out)
          clear HN HW hm
          go_wp2_with (fail)
          refine (HW3.out).mono ?_
          rintro en w2 ⟨⟨y, rfl⟩, hr, ht⟩
          have HR := Lib.hid hr
          have HT := Lib.hid (HB1.out.trans ht (fun _ _ h => h))
          clear hr ht k1 kf
          go_wp2
          go_ret
          exact ⟨by rw [HX.out]; rfl, by rw [HX.out]; exact HR.out, HT.out⟩
        · have g1 : ¬ (most : Int) < (n : Int) := by omega
          have HX : Hid (Vf.numR l most ⟨a, 0, x0⟩ = (n, ⟨k, 0, x0⟩)) := by unfold Hid; rw [HN.out, if_neg (by simp), if_neg hm]
          have HR := Lib.hid (HR1.out.setA k)
          have HT := Lib.hid (HB1.out.setCell (p := ⟨g, 1, none⟩) (fun _ => rfl) (.int .i64 (k : Nat)))
          clear HN HW hm
          go_wp2
          go_ret
          exact ⟨by rw [HX.out]; rfl, by rw [HX.out]; exact HR.out, HT.out⟩
      · have g1 : ¬ ((e : Int) = 0) := by omega
        have HX : Hid (Vf.numR l most ⟨a, 0, x0⟩ = (0, ⟨a, e, a⟩)) := by unfold Hid; rw [HN.out, if_pos he]
        have HW3 := Lib.hid (HW.out e w1 HR1.out)
        clear HN HW he
        go_wp2_with (fail)
        refine (HW3.out).mono ?_
        rintro en w2 ⟨⟨y, rfl⟩, hr, ht⟩
        have HR := Lib.hid hr
        have HT := Lib.hid (HB1.out.trans ht (fun _ _ h => h))
        clear hr ht k1 kf
        go_wp2
        go_ret
        exact ⟨by rw [HX.out]; rfl, by rw [HX.out]; exact HR.out, HT.out⟩)
  · have hne : ¬ ((er : Int) = 0) := by omega
    have HX : Hid (Vf.numR l most ⟨a, er, x0⟩ = (0, ⟨a, er, x0⟩)) := if_neg he
    have HH := Lib.hid h
    clear h hv
    go_enter Try.func35, Try.ntmps35
    go_wp2
    go_ret
    exact ⟨by rw [HX.out]; rfl, by rw [HX.out]; exact HH.out, Turned.refl _ _⟩
end Go.Proofs.Ytglkhgchbnkekaa
namespace Go.Proofs.Ytglkhgchbnkekaa
open Go.RowKit
set_option linter.unusedVariables false
open Vf (Rd)

namespace Vf
def joinR (l : List Nat) (s : Rd) : Vo.Pc × Rd :=
  (⟨true, 0, ((numR l 4095 s).1 : Nat), ((numR l 4095 (numR l 4095 s).2).1 : Nat), (numR l 4294967295 (numR l 4095 (numR l 4095 s).2).2).1⟩, (numR l 4294967295 (numR l 4095 (numR l 4095 s).2).2).2)
def pieceR (l : List Nat) (s : Rd) : Vo.Pc × Rd :=
  if (byteR l s).1 = 0 then (⟨false, (byteR l (byteR l s).2).1, 0, 0, 0⟩, (byteR l (byteR l s).2).2)
  else joinR l (if 1 < (byteR l s).1 then wrongR (byteR l s).2 5 s.a else (byteR l s).2)
theorem numR_le (l : List Nat) (most : Nat) (s : Rd) : (numR l most s).1 ≤ most := by
  unfold numR
  split
  · unfold num
    by_cases h1 : (Mt.get l (s.a : Nat)).2.2 ≠ 0
    · rw [if_pos h1]; exact Nat.zero_le _
    · rw [if_neg h1]
      by_cases h2 : most < (Mt.get l (s.a : Nat)).1
      · rw [if_pos h2]; exact Nat.zero_le _
      · rw [if_neg h2]; show (Mt.get l (s.a : Nat)).1 ≤ most; omega
  · exact Nat.zero_le _
theorem byteR_a {l : List Nat} {s : Rd} (h : s.a ≤ l.length) : (byteR l s).2.a ≤ l.length := by
  unfold byteR
  split
  · cases hq : l[s.a]? with
    | none => exact h
    | some c => have := (List.getElem?_eq_some_iff.1 hq).1; show s.a + 1 ≤ l.length; omega
  · exact h
end Vf

theorem pc_size : (Try.prog.info? 45).map (·.size) = some 5 := by kernel_rfl
theorem results_pc {fn : Func} {p : Tmp} (h : fn.results = #[.cell p 45]) (tmps : Array Value) (w : World) (g : Nat) (u0 u1 u2 u3 u4 : Value) (t : TypeId)
    (hp : tmps.getD p undef = .pointer (some ⟨g, 0, none⟩)) (hg : w.heap[g]? = some (.cells #[u0, u1, u2, u3, u4] t (0, 0))) :
    (results fn tmps).run Try.prog w = .ok (.agg #[u0, u1, u2, u3, u4]) w := by
  have hp' : tmps[p]?.getD undef = .pointer (some ⟨g, 0, none⟩) := by simpa using hp
  simp [results, h, hp', asAddr, run_loadVar_row w g t _ _ (0, 0) _ hg Try.underlying45 rfl pc_size]
/-- A box of a piece, set. -/
theorem pbox_set {w : World} {s : Nat} {t : TypeId} {u0 u1 u2 u3 u4 : Value} (h : w.heap[s]? = some (.cells #[u0, u1, u2, u3, u4] t (0, 0))) (v0 v1 v2 v3 v4 : Value) :
    (((((w.setCell ⟨s, 0, none⟩ v0).setCell ⟨s, 1, none⟩ v1).setCell ⟨s, 2, none⟩ v2).setCell ⟨s, 3, none⟩ v3).setCell ⟨s, 4, none⟩ v4).heap[s]? = some (.cells #[v0, v1, v2, v3, v4] t (0, 0)) := by
  rw [heap_setCell_same _ s 4 _ _ _ (heap_setCell_same _ s 3 _ _ _ (heap_setCell_same _ s 2 _ _ _ (heap_setCell_same _ s 1 _ _ _ (heap_setCell_same w s 0 _ _ _ h))))]; rfl
theorem pbox_cells {w : World} {s : Nat} {t : TypeId} {u0 u1 u2 u3 u4 : Value} (h : w.heap[s]? = some (.cells #[u0, u1, u2, u3, u4] t (0, 0))) :
    w.cell? ⟨s, 0, none⟩ = some u0 ∧ w.cell? ⟨s, 1, none⟩ = some u1 ∧ w.cell? ⟨s, 2, none⟩ = some u2 ∧ w.cell? ⟨s, 3, none⟩ = some u3 ∧ w.cell? ⟨s, 4, none⟩ = some u4 :=
  ⟨by rw [cell_of_row _ _ 0 _ _ _ h]; rfl, by rw [cell_of_row _ _ 1 _ _ _ h]; rfl, by rw [cell_of_row _ _ 2 _ _ _ h]; rfl, by rw [cell_of_row _ _ 3 _ _ _ h]; rfl, by rw [cell_of_row _ _ 4 _ _ _ h]; rfl⟩
theorem pbox_cool {w : World} {s : Nat} {t : TypeId} {cs : Array Value} (h : w.heap[s]? = some (.cells cs t (0, 0))) :
    w.frozen? ⟨s, 0, none⟩ = false ∧ w.frozen? ⟨s, 1, none⟩ = false ∧ w.frozen? ⟨s, 2, none⟩ = false ∧ w.frozen? ⟨s, 3, none⟩ = false ∧ w.frozen? ⟨s, 4, none⟩ = false :=
  ⟨frozen_of_row w s 0 _ _ h, frozen_of_row w s 1 _ _ h, frozen_of_row w s 2 _ _ h, frozen_of_row w s 3 _ _ h, frozen_of_row w s 4 _ _ h⟩
theorem pbox_turned {w w0 : World} {F : Nat → Prop} {s : Nat} (h : Turned F w0 w) (hs : s < w0.heap.size → F s) (v0 v1 v2 v3 v4 : Value) :
    Turned F w0 (((((w.setCell ⟨s, 0, none⟩ v0).setCell ⟨s, 1, none⟩ v1).setCell ⟨s, 2, none⟩ v2).setCell ⟨s, 3, none⟩ v3).setCell ⟨s, 4, none⟩ v4) :=
  ((((h.setCell (p := ⟨s, 0, none⟩) hs v0).setCell (p := ⟨s, 1, none⟩) hs v1).setCell (p := ⟨s, 2, none⟩) hs v2).setCell (p := ⟨s, 3, none⟩) hs v3).setCell (p := ⟨s, 4, none⟩) hs v4

set_option maxHeartbeats 8000000 in
set_option maxRecDepth 100000 in
theorem rvpiece_any (g : Nat) (v : Value) (s : Rd) (l : List Nat) (w : World) (h : Rdr w g v s) (hv : Lv yK w g v l) (ha : s.a ≤ l.length) :
    Calls Try.prog 36 #[.pointer (some ⟨g, 0, none⟩)] w (fun en w' => en = .returned (pcV (Vf.pieceR l s).1) ∧ Rdr w' g v (Vf.pieceR l s).2 ∧ Turned (fun k => k = g) w w') := by
  obtain ⟨z, hz⟩ : ∃ z, w.heap.size = z := ⟨_, rfl⟩
  have hgz : g < z := by rw [← hz]; exact h.lt_
  obtain ⟨W1, hW1⟩ : ∃ W, w.alloc (.cells #[.bool false, .int .u8 0, .int .i64 0, .int .i64 0, .int .u32 0] 45) = W := ⟨_, rfl⟩
  have b1 : W1.heap[z]? = some (.cells #[.bool false, .int .u8 0, .int .i64 0, .int .i64 0, .int .u32 0] 45 (0, 0)) := by rw [← hW1, ← hz]; exact heap_alloc_new w _
  have t1 : Turned (fun k => k = g) w W1 := by rw [← hW1]; exact (Turned.refl _ w).alloc _
  have HV : Hid (∀ w', Turned (fun k => k = g) w w' → Lv yK w' g v l) := fun w' ht => hv.turned_ ht (fun k hk e => by omega)
  have r1 : Rdr W1 g v s := h.block_ (by rw [← hW1]; exact heap_alloc_old w _ h.lt_)
  have a1 := r1.at_
  have HB := Lib.hid (rvbyte_any g v s l W1 r1 (HV.out W1 t1) ha)
  have HN : Hid (Vf.pieceR l s = if (Vf.byteR l s).1 = 0 then (⟨false, (Vf.byteR l (Vf.byteR l s).2).1, 0, 0, 0⟩, (Vf.byteR l (Vf.byteR l s).2).2) else Vf.joinR l (if 1 < (Vf.byteR l s).1 then Vf.wrongR (Vf.byteR l s).2 5 s.a else (Vf.byteR l s).2)) := rfl
  have HA : Hid ((Vf.byteR l s).2.a ≤ l.length) := Vf.byteR_a ha
  obtain ⟨t, s1, hr⟩ : ∃ t s1, Vf.byteR l s = (t, s1) := ⟨_, _, rfl⟩
  rw [hr] at HB HN HA
  simp only at HN HA
  have HT1 := Lib.hid t1
  have HS1 := Lib.hid b1
  have HGZ := Lib.hid hgz
  have HZ : Hid (∀ k, z ≤ k → k < w.heap.size → k = g) := fun k h1 h2 => by omega
  have HZ0 := Lib.hid hz
  clear h hv t1 r1 b1 hr hgz
  go_enter Try.func36, Try.ntmps36
  go_wp2_with (fail)
  refine (HB.out).mono ?_
  rintro e w2 ⟨rfl, hr2, ht2⟩
  have HR2 := Lib.hid hr2
  have HT2 := Lib.hid (HT1.out.trans ht2 (fun _ _ h => h))
  have HS2 : Hid (w2.heap[z]? = some (.cells #[.bool false, .int .u8 0, .int .i64 0, .int .i64 0, .int .u32 0] 45 (0, 0))) := (ht2.block z (Array.getElem?_eq_some_iff.1 HS1.out).1 (fun e => by have := HGZ.out; omega)).trans HS1.out
  clear hr2 ht2 a1 HB HS1 HT1 hW1
  by_cases h0 : t = 0
  · subst h0
    simp only [Int.natCast_zero]
    have HB2 := Lib.hid (rvbyte_any g v s1 l w2 HR2.out (HV.out w2 HT2.out) HA.out)
    obtain ⟨c, s2, hr⟩ : ∃ c s2, Vf.byteR l s1 = (c, s2) := ⟨_, _, rfl⟩
    have HX : Hid (Vf.pieceR l s = (⟨false, c, 0, 0, 0⟩, s2)) := by unfold Hid; rw [HN.out, if_pos rfl, hr]
    rw [hr] at HB2
    clear hr HN
    go_wp2_with (fail)
    refine (HB2.out).mono ?_
    rintro e w3 ⟨rfl, hr3, ht3⟩
    have HR3 := Lib.hid hr3
    have HT3 := Lib.hid (HT2.out.trans ht3 (fun _ _ h => h))
    have hs3 : w3.heap[z]? = some (.cells #[.bool false, .int .u8 0, .int .i64 0, .int .i64 0, .int .u32 0] 45 (0, 0)) := (ht3.block z (Array.getElem?_eq_some_iff.1 HS2.out).1 (fun e => by have := HGZ.out; omega)).trans HS2.out
    obtain ⟨x0, x1, x2, x3, x4⟩ := pbox_cells hs3
    obtain ⟨f0, f1, f2, f3, f4⟩ := pbox_cool hs3
    obtain ⟨W4, hW4⟩ : ∃ W, ((((w3.setCell ⟨z, 0, none⟩ (.bool false)).setCell ⟨z, 1, none⟩ (.int .u8 (c : Nat))).setCell ⟨z, 2, none⟩ (.int .i64 0)).setCell ⟨z, 3, none⟩ (.int .i64 0)).setCell ⟨z, 4, none⟩ (.int .u32 0) = W := ⟨_, rfl⟩
    have HS4 : Hid (W4.heap[z]? = some (.cells #[.bool false, .int .u8 (c : Nat), .int .i64 0, .int .i64 0, .int .u32 0] 45 (0, 0))) := by unfold Hid; rw [← hW4]; exact pbox_set hs3 _ _ _ _ _
    have HT4 : Hid (Turned (fun k => k = g) w W4) := by unfold Hid; rw [← hW4]; exact pbox_turned HT3.out (HZ.out z (Nat.le_refl _)) _ _ _ _ _
    have HR4 : Hid (Rdr W4 g v s2) := by unfold Hid; rw [← hW4]; exact HR3.out.block_ ((pbox_turned (F := fun k => k = z) (Turned.refl _ w3) (fun _ => rfl) _ _ _ _ _).block g HR3.out.lt_ (fun e => by have := HGZ.out; omega))
    clear hr3 ht3 hs3 HB2 HS2 HT3 HR3
    go_wp2
    refine bodyPost_ret (results_pc rfl _ _ z _ _ _ _ _ _ rfl HS4.out) rfl ⟨by rw [HX.out]; rfl, by rw [HX.out]; exact HR4.out, HT4.out⟩
  · have g0 : ¬ ((t : Int) = 0) := by omega
    by_cases h1 : 1 < t
    · have g1 : (1 : Int) < (t : Int) := by omega
      have HW := Lib.hid (rwrong_any g v s1 5 s.a w2 HR2.out)
      have HX : Hid (Vf.pieceR l s = Vf.joinR l (Vf.wrongR s1 5 s.a)) := by unfold Hid; rw [HN.out, if_neg h0, if_pos h1]
      clear HN h0 h1
      go_wp2_with (fail)
      refine (HW.out).mono ?_
      rintro e wA ⟨⟨y, rfl⟩, hrA, htA⟩
      obtain ⟨sA, hsA⟩ : ∃ sA, Vf.wrongR s1 5 s.a = sA := ⟨_, rfl⟩
      rw [hsA] at hrA HX
      have HRA := Lib.hid hrA
      have HTA := Lib.hid (HT2.out.trans htA (fun _ _ h => h))
      have HSA : Hid (wA.heap[z]? = some (.cells #[.bool false, .int .u8 0, .int .i64 0, .int .i64 0, .int .u32 0] 45 (0, 0))) := (htA.block z (Array.getElem?_eq_some_iff.1 HS2.out).1 (fun e => by have := HGZ.out; omega)).trans HS2.out
      clear hrA htA hsA HW HR2 HT2 HS2
      obtain ⟨q, hq⟩ : ∃ q, wA.heap.size = q := ⟨_, rfl⟩
      have hzq : z < q := by rw [← hq]; exact (Array.getElem?_eq_some_iff.1 HSA.out).1
      have HGQ : Hid (g < z ∧ z < q ∧ w.heap.size ≤ q) := ⟨HGZ.out, hzq, by have := HTA.out.size; omega⟩
      obtain ⟨W3, hW3⟩ : ∃ W, wA.alloc (.cells #[.bool false, .int .u8 0, .int .i64 0, .int .i64 0, .int .u32 0] 45) = W := ⟨_, rfl⟩
      have b3 : W3.heap[q]? = some (.cells #[.bool false, .int .u8 0, .int .i64 0, .int .i64 0, .int .u32 0] 45 (0, 0)) := by rw [← hW3, ← hq]; exact heap_alloc_new wA _
      obtain ⟨x0, x1, x2, x3, x4⟩ := pbox_cells b3
      obtain ⟨f0, f1, f2, f3, f4⟩ := pbox_cool b3
      obtain ⟨W4, hW4⟩ : ∃ W, ((((W3.setCell ⟨q, 0, none⟩ (.bool true)).setCell ⟨q, 1, none⟩ (.int .u8 0)).setCell ⟨q, 2, none⟩ (.int .i64 0)).setCell ⟨q, 3, none⟩ (.int .i64 0)).setCell ⟨q, 4, none⟩ (.int .u32 0) = W := ⟨_, rfl⟩
      have HQ4 : Hid (W4.heap[q]? = some (.cells #[.bool true, .int .u8 0, .int .i64 0, .int .i64 0, .int .u32 0] 45 (0, 0))) := by unfold Hid; rw [← hW4]; exact pbox_set b3 _ _ _ _ _
      have t4 : Turned (fun _ => False) wA W4 := by rw [← hW4, ← hW3]; exact pbox_turned ((Turned.refl _ wA).alloc _) (fun h => by omega) _ _ _ _ _
      have HR4 : Hid (Rdr W4 g v sA) := HRA.out.block_ (t4.block g HRA.out.lt_ (fun h => h))
      have HS4 : Hid (W4.heap[z]? = some (.cells #[.bool false, .int .u8 0, .int .i64 0, .int .i64 0, .int .u32 0] 45 (0, 0))) := (t4.block z (by omega) (fun h => h)).trans HSA.out
      have HT4 : Hid (Turned (fun k => k = g) w W4) := HTA.out.trans t4 (fun _ _ h => h.elim)
      unfold Vf.joinR at HX
      clear t4 HSA HTA HRA hzq b3
      have HNa := Lib.hid (rvnum_any g v sA 4095 l W4 HR4.out (HV.out _ HT4.out))
      have hlea := Vf.numR_le l 4095 sA
      obtain ⟨na, sa, hra⟩ : ∃ tt ss, Vf.numR l 4095 sA = (tt, ss) := ⟨_, _, rfl⟩
      rw [hra] at HNa hlea HX
      simp only at hlea
      simp only at HX
      have wa : IntKind.i64.wrap (na : Int) = (na : Int) := by rw [IntKind.wrap_i64]; omega
      clear hra
      go_wp2_with (fail)
      refine (HNa.out).mono ?_
      rintro e w5a ⟨rfl, hr5, ht5⟩
      have hq5 : w5a.heap[q]? = some (.cells #[.bool true, .int .u8 0, .int .i64 0, .int .i64 0, .int .u32 0] 45 (0, 0)) := (ht5.block q (Array.getElem?_eq_some_iff.1 HQ4.out).1 (fun e => by have := HGQ.out; omega)).trans HQ4.out
      have hs5 : w5a.heap[z]? = some (.cells #[.bool false, .int .u8 0, .int .i64 0, .int .i64 0, .int .u32 0] 45 (0, 0)) := (ht5.block z (Array.getElem?_eq_some_iff.1 HS4.out).1 (fun e => by have := HGQ.out; omega)).trans HS4.out
      have hT5 := HT4.out.trans ht5 (fun _ _ h => h)
      try clear x0 x1 x2 x3 x4 f0 f1 f2 f3 f4
      obtain ⟨x0, x1, x2, x3, x4⟩ := pbox_cells hq5
      obtain ⟨f0, f1, f2, f3, f4⟩ := pbox_cool hq5
      obtain ⟨W6a, hW6a⟩ : ∃ W, w5a.setCell ⟨q, 2, none⟩ (.int .i64 (na : Nat)) = W := ⟨_, rfl⟩
      have HQ6a : Hid (W6a.heap[q]? = some (.cells #[.bool true, .int .u8 0, .int .i64 (na : Nat), .int .i64 0, .int .u32 0] 45 (0, 0))) := by unfold Hid; rw [← hW6a, heap_setCell_same w5a q 2 _ _ _ hq5]; rfl
      have HS6a : Hid (W6a.heap[z]? = some (.cells #[.bool false, .int .u8 0, .int .i64 0, .int .i64 0, .int .u32 0] 45 (0, 0))) := by unfold Hid; rw [← hW6a]; exact (heap_setCell_other _ _ _ _ (show z ≠ q by have := HGQ.out; omega)).trans hs5
      have HT6a : Hid (Turned (fun k => k = g) w W6a) := by unfold Hid; rw [← hW6a]; exact hT5.setCell (p := ⟨q, 2, none⟩) (fun h => absurd h (Nat.not_lt.2 HGQ.out.2.2)) _
      have HR6a : Hid (Rdr W6a g v sa) := by unfold Hid; rw [← hW6a]; exact hr5.block_ (heap_setCell_other _ _ _ _ (show g ≠ q by have := HGQ.out; omega))
      clear hq5 hs5 hT5 hr5 ht5 HNa HQ4 HS4 HT4 HR4
      have HNb := Lib.hid (rvnum_any g v sa 4095 l W6a HR6a.out (HV.out _ HT6a.out))
      have hleb := Vf.numR_le l 4095 sa
      obtain ⟨nb, sb, hrb⟩ : ∃ tt ss, Vf.numR l 4095 sa = (tt, ss) := ⟨_, _, rfl⟩
      rw [hrb] at HNb hleb HX
      simp only at hleb
      simp only at HX
      have wb : IntKind.i64.wrap (nb : Int) = (nb : Int) := by rw [IntKind.wrap_i64]; omega
      clear hrb
      go_wp2_with (fail)
      refine (HNb.out).mono ?_
      rintro e w5b ⟨rfl, hr5, ht5⟩
      have hq5 : w5b.heap[q]? = some (.cells #[.bool true, .int .u8 0, .int .i64 (na : Nat), .int .i64 0, .int .u32 0] 45 (0, 0)) := (ht5.block q (Array.getElem?_eq_some_iff.1 HQ6a.out).1 (fun e => by have := HGQ.out; omega)).trans HQ6a.out
      have hs5 : w5b.heap[z]? = some (.cells #[.bool false, .int .u8 0, .int .i64 0, .int .i64 0, .int .u32 0] 45 (0, 0)) := (ht5.block z (Array.getElem?_eq_some_iff.1 HS6a.out).1 (fun e => by have := HGQ.out; omega)).trans HS6a.out
      have hT5 := HT6a.out.trans ht5 (fun _ _ h => h)
      try clear x0 x1 x2 x3 x4 f0 f1 f2 f3 f4
      obtain ⟨x0, x1, x2, x3, x4⟩ := pbox_cells hq5
      obtain ⟨f0, f1, f2, f3, f4⟩ := pbox_cool hq5
      obtain ⟨W6b, hW6b⟩ : ∃ W, w5b.setCell ⟨q, 3, none⟩ (.int .i64 (nb : Nat)) = W := ⟨_, rfl⟩
      have HQ6b : Hid (W6b.heap[q]? = some (.cells #[.bool true, .int .u8 0, .int .i64 (na : Nat), .int .i64 (nb : Nat), .int .u32 0] 45 (0, 0))) := by unfold Hid; rw [← hW6b, heap_setCell_same w5b q 3 _ _ _ hq5]; rfl
      have HS6b : Hid (W6b.heap[z]? = some (.cells #[.bool false, .int .u8 0, .int .i64 0, .int .i64 0, .int .u32 0] 45 (0, 0))) := by unfold Hid; rw [← hW6b]; exact (heap_setCell_other _ _ _ _ (show z ≠ q by have := HGQ.out; omega)).trans hs5
      have HT6b : Hid (Turned (fun k => k = g) w W6b) := by unfold Hid; rw [← hW6b]; exact hT5.setCell (p := ⟨q, 3, none⟩) (fun h => absurd h (Nat.not_lt.2 HGQ.out.2.2)) _
      have HR6b : Hid (Rdr W6b g v sb) := by unfold Hid; rw [← hW6b]; exact hr5.block_ (heap_setCell_other _ _ _ _ (show g ≠ q by have := HGQ.out; omega))
      clear hq5 hs5 hT5 hr5 ht5 HNb HQ6a HS6a HT6a HR6a
      have HNc := Lib.hid (rvnum_any g v sb 4294967295 l W6b HR6b.out (HV.out _ HT6b.out))
      have hlec := Vf.numR_le l 4294967295 sb
      obtain ⟨nc, sc, hrc⟩ : ∃ tt ss, Vf.numR l 4294967295 sb = (tt, ss) := ⟨_, _, rfl⟩
      rw [hrc] at HNc hlec HX
      simp only at hlec
      simp only at HX
      have wc : IntKind.u32.wrap (nc : Int) = (nc : Int) := by rw [IntKind.wrap_u32]; omega
      clear hrc
      go_wp2_with (fail)
      refine (HNc.out).mono ?_
      rintro e w5c ⟨rfl, hr5, ht5⟩
      have hq5 : w5c.heap[q]? = some (.cells #[.bool true, .int .u8 0, .int .i64 (na : Nat), .int .i64 (nb : Nat), .int .u32 0] 45 (0, 0)) := (ht5.block q (Array.getElem?_eq_some_iff.1 HQ6b.out).1 (fun e => by have := HGQ.out; omega)).trans HQ6b.out
      have hs5 : w5c.heap[z]? = some (.cells #[.bool false, .int .u8 0, .int .i64 0, .int .i64 0, .int .u32 0] 45 (0, 0)) := (ht5.block z (Array.getElem?_eq_some_iff.1 HS6b.out).1 (fun e => by have := HGQ.out; omega)).trans HS6b.out
      have hT5 := HT6b.out.trans ht5 (fun _ _ h => h)
      try clear x0 x1 x2 x3 x4 f0 f1 f2 f3 f4
      obtain ⟨x0, x1, x2, x3, x4⟩ := pbox_cells hq5
      obtain ⟨f0, f1, f2, f3, f4⟩ := pbox_cool hq5
      obtain ⟨W6c, hW6c⟩ : ∃ W, w5c.setCell ⟨q, 4, none⟩ (.int .u32 (nc : Nat)) = W := ⟨_, rfl⟩
      have HQ6c : Hid (W6c.heap[q]? = some (.cells #[.bool true, .int .u8 0, .int .i64 (na : Nat), .int .i64 (nb : Nat), .int .u32 (nc : Nat)] 45 (0, 0))) := by unfold Hid; rw [← hW6c, heap_setCell_same w5c q 4 _ _ _ hq5]; rfl
      have HS6c : Hid (W6c.heap[z]? = some (.cells #[.bool false, .int .u8 0, .int .i64 0, .int .i64 0, .int .u32 0] 45 (0, 0))) := by unfold Hid; rw [← hW6c]; exact (heap_setCell_other _ _ _ _ (show z ≠ q by have := HGQ.out; omega)).trans hs5
      have HT6c : Hid (Turned (fun k => k = g) w W6c) := by unfold Hid; rw [← hW6c]; exact hT5.setCell (p := ⟨q, 4, none⟩) (fun h => absurd h (Nat.not_lt.2 HGQ.out.2.2)) _
      have HR6c : Hid (Rdr W6c g v sc) := by unfold Hid; rw [← hW6c]; exact hr5.block_ (heap_setCell_other _ _ _ _ (show g ≠ q by have := HGQ.out; omega))
      clear hq5 hs5 hT5 hr5 ht5 HNc HQ6b HS6b HT6b HR6b
      obtain ⟨y0, y1, y2, y3, y4⟩ := pbox_cells HQ6c.out
      obtain ⟨e0, e1, e2, e3, e4⟩ := pbox_cells HS6c.out
      obtain ⟨k0, k1, k2, k3, k4⟩ := pbox_cool HS6c.out
      obtain ⟨W7, hW7⟩ : ∃ W, ((((W6c.setCell ⟨z, 0, none⟩ (.bool true)).setCell ⟨z, 1, none⟩ (.int .u8 0)).setCell ⟨z, 2, none⟩ (.int .i64 (na : Nat))).setCell ⟨z, 3, none⟩ (.int .i64 (nb : Nat))).setCell ⟨z, 4, none⟩ (.int .u32 (nc : Nat)) = W := ⟨_, rfl⟩
      have HS7 : Hid (W7.heap[z]? = some (.cells #[.bool true, .int .u8 0, .int .i64 (na : Nat), .int .i64 (nb : Nat), .int .u32 (nc : Nat)] 45 (0, 0))) := by unfold Hid; rw [← hW7]; exact pbox_set HS6c.out _ _ _ _ _
      have HT7 : Hid (Turned (fun k => k = g) w W7) := by unfold Hid; rw [← hW7]; exact pbox_turned HT6c.out (HZ.out z (Nat.le_refl _)) _ _ _ _ _
      have HR7 : Hid (Rdr W7 g v sc) := by unfold Hid; rw [← hW7]; exact HR6c.out.block_ ((pbox_turned (F := fun k => k = z) (Turned.refl _ W6c) (fun _ => rfl) _ _ _ _ _).block g HR6c.out.lt_ (fun e => by have := HGQ.out; omega))
      clear HQ6c HS6c HT6c HR6c
      go_wp2
      refine bodyPost_ret (results_pc rfl _ _ z _ _ _ _ _ _ rfl HS7.out) rfl ⟨by rw [HX.out]; rfl, by rw [HX.out]; exact HR7.out, HT7.out⟩
    · have g1 : ¬ (1 : Int) < (t : Int) := by omega
      have HX : Hid (Vf.pieceR l s = Vf.joinR l s1) := by unfold Hid; rw [HN.out, if_neg h0, if_neg h1]
      obtain ⟨sA, hsA⟩ : ∃ sA, s1 = sA := ⟨_, rfl⟩
      obtain ⟨wA, hwA⟩ : ∃ wA, w2 = wA := ⟨_, rfl⟩
      subst hsA hwA
      have HRA := HR2
      have HTA := HT2
      have HSA := HS2
      clear HN h0 h1 HR2 HT2 HS2
      obtain ⟨q, hq⟩ : ∃ q, w2.heap.size = q := ⟨_, rfl⟩
      have hzq : z < q := by rw [← hq]; exact (Array.getElem?_eq_some_iff.1 HSA.out).1
      have HGQ : Hid (g < z ∧ z < q ∧ w.heap.size ≤ q) := ⟨HGZ.out, hzq, by have := HTA.out.size; omega⟩
      obtain ⟨W3, hW3⟩ : ∃ W, w2.alloc (.cells #[.bool false, .int .u8 0, .int .i64 0, .int .i64 0, .int .u32 0] 45) = W := ⟨_, rfl⟩
      have b3 : W3.heap[q]? = some (.cells #[.bool false, .int .u8 0, .int .i64 0, .int .i64 0, .int .u32 0] 45 (0, 0)) := by rw [← hW3, ← hq]; exact heap_alloc_new w2 _
      obtain ⟨x0, x1, x2, x3, x4⟩ := pbox_cells b3
      obtain ⟨f0, f1, f2, f3, f4⟩ := pbox_cool b3
      obtain ⟨W4, hW4⟩ : ∃ W, ((((W3.setCell ⟨q, 0, none⟩ (.bool true)).setCell ⟨q, 1, none⟩ (.int .u8 0)).setCell ⟨q, 2, none⟩ (.int .i64 0)).setCell ⟨q, 3, none⟩ (.int .i64 0)).setCell ⟨q, 4, none⟩ (.int .u32 0) = W := ⟨_, rfl⟩
      have HQ4 : Hid (W4.heap[q]? = some (.cells #[.bool true, .int .u8 0, .int .i64 0, .int .i64 0, .int .u32 0] 45 (0, 0))) := by unfold Hid; rw [← hW4]; exact pbox_set b3 _ _ _ _ _
      have t4 : Turned (fun _ => False) w2 W4 := by rw [← hW4, ← hW3]; exact pbox_turned ((Turned.refl _ w2).alloc _) (fun h => by omega) _ _ _ _ _
      have HR4 : Hid (Rdr W4 g v s1) := HRA.out.block_ (t4.block g HRA.out.lt_ (fun h => h))
      have HS4 : Hid (W4.heap[z]? = some (.cells #[.bool false, .int .u8 0, .int .i64 0, .int .i64 0, .int .u32 0] 45 (0, 0))) := (t4.block z (by omega) (fun h => h)).trans HSA.out
      have HT4 : Hid (Turned (fun k => k = g) w W4) := HTA.out.trans t4 (fun _ _ h => h.elim)
      unfold Vf.joinR at HX
      clear t4 HSA HTA HRA hzq b3
      have HNa := Lib.hid (rvnum_any g v s1 4095 l W4 HR4.out (HV.out _ HT4.out))
      have hlea := Vf.numR_le l 4095 s1
      obtain ⟨na, sa, hra⟩ : ∃ tt ss, Vf.numR l 4095 s1 = (tt, ss) := ⟨_, _, rfl⟩
      rw [hra] at HNa hlea HX
      simp only at hlea
      simp only at HX
      have wa : IntKind.i64.wrap (na : Int) = (na : Int) := by rw [IntKind.wrap_i64]; omega
      clear hra
      go_wp2_with (fail)
      refine (HNa.out).mono ?_
      rintro e w5a ⟨rfl, hr5, ht5⟩
      have hq5 : w5a.heap[q]? = some (.cells #[.bool true, .int .u8 0, .int .i64 0, .int .i64 0, .int .u32 0] 45 (0, 0)) := (ht5.block q (Array.getElem?_eq_some_iff.1 HQ4.out).1 (fun e => by have := HGQ.out; omega)).trans HQ4.out
      have hs5 : w5a.heap[z]? = some (.cells #[.bool false, .int .u8 0, .int .i64 0, .int .i64 0, .int .u32 0] 45 (0, 0)) := (ht5.block z (Array.getElem?_eq_some_iff.1 HS4.out).1 (fun e => by have := HGQ.out; omega)).trans HS4.out
      have hT5 := HT4.out.trans ht5 (fun _ _ h => h)
      try clear x0 x1 x2 x3 x4 f0 f1 f2 f3 f4
      obtain ⟨x0, x1, x2, x3, x4⟩ := pbox_cells hq5
      obtain ⟨f0, f1, f2, f3, f4⟩ := pbox_cool hq5
      obtain ⟨W6a, hW6a⟩ : ∃ W, w5a.setCell ⟨q, 2, none⟩ (.int .i64 (na : Nat)) = W := ⟨_, rfl⟩
      have HQ6a : Hid (W6a.heap[q]? = some (.cells #[.bool true, .int .u8 0, .int .i64 (na : Nat), .int .i64 0, .int .u32 0] 45 (0, 0))) := by unfold Hid; rw [← hW6a, heap_setCell_same w5a q 2 _ _ _ hq5]; rfl
      have HS6a : Hid (W6a.heap[z]? = some (.cells #[.bool false, .int .u8 0, .int .i64 0, .int .i64 0, .int .u32 0] 45 (0, 0))) := by unfold Hid; rw [← hW6a]; exact (heap_setCell_other _ _ _ _ (show z ≠ q by have := HGQ.out; omega)).trans hs5
      have HT6a : Hid (Turned (fun k => k = g) w W6a) := by unfold Hid; rw [← hW6a]; exact hT5.setCell (p := ⟨q, 2, none⟩) (fun h => absurd h (Nat.not_lt.2 HGQ.out.2.2)) _
      have HR6a : Hid (Rdr W6a g v sa) := by unfold Hid; rw [← hW6a]; exact hr5.block_ (heap_setCell_other _ _ _ _ (show g ≠ q by have := HGQ.out; omega))
      clear hq5 hs5 hT5 hr5 ht5 HNa HQ4 HS4 HT4 HR4
      have HNb := Lib.hid (rvnum_any g v sa 4095 l W6a HR6a.out (HV.out _ HT6a.out))
      have hleb := Vf.numR_le l 4095 sa
      obtain ⟨nb, sb, hrb⟩ : ∃ tt ss, Vf.numR l 4095 sa = (tt, ss) := ⟨_, _, rfl⟩
      rw [hrb] at HNb hleb HX
      simp only at hleb
      simp only at HX
      have wb : IntKind.i64.wrap (nb : Int) = (nb : Int) := by rw [IntKind.wrap_i64]; omega
      clear hrb
      go_wp2_with (fail)
      refine (HNb.out).mono ?_
      rintro e w5b ⟨rfl, hr5, ht5⟩
      have hq5 : w5b.heap[q]? = some (.cells #[.bool true, .int .u8 0, .int .i64 (na : Nat), .int .i64 0, .int .u32 0] 45 (0, 0)) := (ht5.block q (Array.getElem?_eq_some_iff.1 HQ6a.out).1 (fun e => by have := HGQ.out; omega)).trans HQ6a.out
      have hs5 : w5b.heap[z]? = some (.cells #[.bool false, .int .u8 0, .int .i64 0, .int .i64 0, .int .u32 0] 45 (0, 0)) := (ht5.block z (Array.getElem?_eq_some_iff.1 HS6a.out).1 (fun e => by have := HGQ.out; omega)).trans HS6a.out
      have hT5 := HT6a.out.trans ht5 (fun _ _ h => h)
      try clear x0 x1 x2 x3 x4 f0 f1 f2 f3 f4
      obtain ⟨x0, x1, x2, x3, x4⟩ := pbox_cells hq5
      obtain ⟨f0, f1, f2, f3, f4⟩ := pbox_cool hq5
      obtain ⟨W6b, hW6b⟩ : ∃ W, w5b.setCell ⟨q, 3, none⟩ (.int .i64 (nb : Nat)) = W := ⟨_, rfl⟩
      have HQ6b : Hid (W6b.heap[q]? = some (.cells #[.bool true, .int .u8 0, .int .i64 (na : Nat), .int .i64 (nb : Nat), .int .u32 0] 45 (0, 0))) := by unfold Hid; rw [← hW6b, heap_setCell_same w5b q 3 _ _ _ hq5]; rfl
      have HS6b : Hid (W6b.heap[z]? = some (.cells #[.bool false, .int .u8 0, .int .i64 0, .int .i64 0, .int .u32 0] 45 (0, 0))) := by unfold Hid; rw [← hW6b]; exact (heap_setCell_other _ _ _ _ (show z ≠ q by have := HGQ.out; omega)).trans hs5
      have HT6b : Hid (Turned (fun k => k = g) w W6b) := by unfold Hid; rw [← hW6b]; exact hT5.setCell (p := ⟨q, 3, none⟩) (fun h => absurd h (Nat.not_lt.2 HGQ.out.2.2)) _
      have HR6b : Hid (Rdr W6b g v sb) := by unfold Hid; rw [← hW6b]; exact hr5.block_ (heap_setCell_other _ _ _ _ (show g ≠ q by have := HGQ.out; omega))
      clear hq5 hs5 hT5 hr5 ht5 HNb HQ6a HS6a HT6a HR6a
      have HNc := Lib.hid (rvnum_any g v sb 4294967295 l W6b HR6b.out (HV.out _ HT6b.out))
      have hlec := Vf.numR_le l 4294967295 sb
      obtain ⟨nc, sc, hrc⟩ : ∃ tt ss, Vf.numR l 4294967295 sb = (tt, ss) := ⟨_, _, rfl⟩
      rw [hrc] at HNc hlec HX
      simp only at hlec
      simp only at HX
      have wc : IntKind.u32.wrap (nc : Int) = (nc : Int) := by rw [IntKind.wrap_u32]; omega
      clear hrc
      go_wp2_with (fail)
      refine (HNc.out).mono ?_
      rintro e w5c ⟨rfl, hr5, ht5⟩
      have hq5 : w5c.heap[q]? = some (.cells #[.bool true, .int .u8 0, .int .i64 (na : Nat), .int .i64 (nb : Nat), .int .u32 0] 45 (0, 0)) := (ht5.block q (Array.getElem?_eq_some_iff.1 HQ6b.out).1 (fun e => by have := HGQ.out; omega)).trans HQ6b.out
      have hs5 : w5c.heap[z]? = some (.cells #[.bool false, .int .u8 0, .int .i64 0, .int .i64 0, .int .u32 0] 45 (0, 0)) := (ht5.block z (Array.getElem?_eq_some_iff.1 HS6b.out).1 (fun e => by have := HGQ.out; omega)).trans HS6b.out
      have hT5 := HT6b.out.trans ht5 (fun _ _ h => h)
      try clear x0 x1 x2 x3 x4 f0 f1 f2 f3 f4
      obtain ⟨x0, x1, x2, x3, x4⟩ := pbox_cells hq5
      obtain ⟨f0, f1, f2, f3, f4⟩ := pbox_cool hq5
      obtain ⟨W6c, hW6c⟩ : ∃ W, w5c.setCell ⟨q, 4, none⟩ (.int .u32 (nc : Nat)) = W := ⟨_, rfl⟩
      have HQ6c : Hid (W6c.heap[q]? = some (.cells #[.bool true, .int .u8 0, .int .i64 (na : Nat), .int .i64 (nb : Nat), .int .u32 (nc : Nat)] 45 (0, 0))) := by unfold Hid; rw [← hW6c, heap_setCell_same w5c q 4 _ _ _ hq5]; rfl
      have HS6c : Hid (W6c.heap[z]? = some (.cells #[.bool false, .int .u8 0, .int .i64 0, .int .i64 0, .int .u32 0] 45 (0, 0))) := by unfold Hid; rw [← hW6c]; exact (heap_setCell_other _ _ _ _ (show z ≠ q by have := HGQ.out; omega)).trans hs5
      have HT6c : Hid (Turned (fun k => k = g) w W6c) := by unfold Hid; rw [← hW6c]; exact hT5.setCell (p := ⟨q, 4, none⟩) (fun h => absurd h (Nat.not_lt.2 HGQ.out.2.2)) _
      have HR6c : Hid (Rdr W6c g v sc) := by unfold Hid; rw [← hW6c]; exact hr5.block_ (heap_setCell_other _ _ _ _ (show g ≠ q by have := HGQ.out; omega))
      clear hq5 hs5 hT5 hr5 ht5 HNc HQ6b HS6b HT6b HR6b
      obtain ⟨y0, y1, y2, y3, y4⟩ := pbox_cells HQ6c.out
      obtain ⟨e0, e1, e2, e3, e4⟩ := pbox_cells HS6c.out
      obtain ⟨k0, k1, k2, k3, k4⟩ := pbox_cool HS6c.out
      obtain ⟨W7, hW7⟩ : ∃ W, ((((W6c.setCell ⟨z, 0, none⟩ (.bool true)).setCell ⟨z, 1, none⟩ (.int .u8 0)).setCell ⟨z, 2, none⟩ (.int .i64 (na : Nat))).setCell ⟨z, 3, none⟩ (.int .i64 (nb : Nat))).setCell ⟨z, 4, none⟩ (.int .u32 (nc : Nat)) = W := ⟨_, rfl⟩
      have HS7 : Hid (W7.heap[z]? = some (.cells #[.bool true, .int .u8 0, .int .i64 (na : Nat), .int .i64 (nb : Nat), .int .u32 (nc : Nat)] 45 (0, 0))) := by unfold Hid; rw [← hW7]; exact pbox_set HS6c.out _ _ _ _ _
      have HT7 : Hid (Turned (fun k => k = g) w W7) := by unfold Hid; rw [← hW7]; exact pbox_turned HT6c.out (HZ.out z (Nat.le_refl _)) _ _ _ _ _
      have HR7 : Hid (Rdr W7 g v sc) := by unfold Hid; rw [← hW7]; exact HR6c.out.block_ ((pbox_turned (F := fun k => k = z) (Turned.refl _ W6c) (fun _ => rfl) _ _ _ _ _).block g HR6c.out.lt_ (fun e => by have := HGQ.out; omega))
      clear HQ6c HS6c HT6c HR6c
      go_wp2
      refine bodyPost_ret (results_pc rfl _ _ z _ _ _ _ _ _ rfl HS7.out) rfl ⟨by rw [HX.out]; rfl, by rw [HX.out]; exact HR7.out, HT7.out⟩
end Go.Proofs.Ytglkhgchbnkekaa
namespace Go.Proofs.Ytglkhgchbnkekaa
open Go.RowKit
set_option linter.unusedVariables false
open Vf (Rd)

namespace Vf
theorem numR_bad {l : List Nat} {most : Nat} {s : Rd} {e w : Nat} (hs : s.e = 0) (h : num l s.a most = .bad e w) : numR l most s = (0, ⟨s.a, e, w⟩) := by
  unfold numR; rw [if_pos hs, h]
theorem numR_got {l : List Nat} {most : Nat} {s : Rd} {n k : Nat} (hs : s.e = 0) (h : num l s.a most = .got n k) : numR l most s = (n, ⟨k, 0, s.x⟩) := by
  unfold numR; rw [if_pos hs, h]
theorem numR_off {l : List Nat} {most : Nat} {s : Rd} (hs : s.e ≠ 0) : numR l most s = (0, s) := if_neg hs
theorem byteR_off {l : List Nat} {s : Rd} (hs : s.e ≠ 0) : byteR l s = (0, s) := if_neg hs
theorem byteR_none {l : List Nat} {s : Rd} (hs : s.e = 0) (h : l[s.a]? = none) : byteR l s = (0, ⟨s.a, 4, l.length⟩) := by
  unfold byteR; rw [if_pos hs, h]
theorem byteR_some {l : List Nat} {s : Rd} {c : Nat} (hs : s.e = 0) (h : l[s.a]? = some c) : byteR l s = (c, ⟨s.a + 1, 0, s.x⟩) := by
  unfold byteR; rw [if_pos hs, h]
theorem joinR_off {l : List Nat} {s : Rd} (hs : s.e ≠ 0) : (joinR l s).2 = s := by
  unfold joinR
  simp only [numR_off hs]
/-- A piece that is read, by the reader. -/
theorem pieceR_of {l : List Nat} {a x : Nat} : (∀ p k, rdPc l a = .got p k → pieceR l ⟨a, 0, x⟩ = (p, ⟨k, 0, x⟩)) ∧ (∀ e w, rdPc l a = .bad e w → (pieceR l ⟨a, 0, x⟩).2.e = e ∧ (pieceR l ⟨a, 0, x⟩).2.x = w) := by
  unfold rdPc
  cases h0 : l[a]? with
  | none =>
    refine ⟨fun p k h => (by cases h), fun e w h => ?_⟩
    injection h with e1 e2
    subst e1 e2
    unfold pieceR
    rw [byteR_none rfl h0]
    rw [if_pos rfl, byteR_off (by simp)]
    exact ⟨rfl, rfl⟩
  | some t =>
    simp only
    unfold pieceR
    rw [byteR_some rfl h0]
    simp only
    by_cases t0 : t = 0
    · subst t0
      rw [if_pos rfl, if_pos rfl]
      cases h1 : l[a + 1]? with
      | none =>
        refine ⟨fun p k h => (by cases h), fun e w h => ?_⟩
        injection h with e1 e2
        subst e1 e2
        rw [byteR_none rfl h1]
        exact ⟨rfl, rfl⟩
      | some c =>
        refine ⟨fun p k h => ?_, fun e w h => (by cases h)⟩
        injection h with e1 e2
        subst e1 e2
        rw [byteR_some rfl h1]
    · rw [if_neg t0, if_neg t0]
      by_cases t1 : t = 1
      · subst t1
        rw [if_pos rfl, if_neg (by omega)]
        unfold joinR
        cases hn1 : num l (a + 1) 4095 with
        | bad e w =>
          refine ⟨fun p k h => (by cases h), fun e' w' h => ?_⟩
          have he : e ≠ 0 := fun e0 => by subst e0; exact num_bad hn1
          simp only [R.then] at h
          injection h with e1 e2
          subst e1 e2
          rw [numR_bad (s := ⟨a + 1, 0, x⟩) rfl hn1]
          simp only [numR_off (s := ⟨a + 1, e, w⟩) he]
          exact ⟨trivial, trivial⟩
        | got n1 a1 =>
          rw [numR_got (s := ⟨a + 1, 0, x⟩) rfl hn1]
          simp only [R.then]
          cases hn2 : num l a1 4095 with
          | bad e w =>
            refine ⟨fun p k h => (by cases h), fun e' w' h => ?_⟩
            have he : e ≠ 0 := fun e0 => by subst e0; exact num_bad hn2
            simp only at h
            injection h with e1 e2
            subst e1 e2
            rw [numR_bad (s := ⟨a1, 0, x⟩) rfl hn2]
            simp only [numR_off (s := ⟨a1, e, w⟩) he]
            exact ⟨trivial, trivial⟩
          | got n2 a2 =>
            rw [numR_got (s := ⟨a1, 0, x⟩) rfl hn2]
            simp only
            cases hn3 : num l a2 4294967295 with
            | bad e w =>
              refine ⟨fun p k h => (by cases h), fun e' w' h => ?_⟩
              simp only at h
              injection h with e1 e2
              subst e1 e2
              rw [numR_bad (s := ⟨a2, 0, x⟩) rfl hn3]
              exact ⟨rfl, rfl⟩
            | got n3 a3 =>
              refine ⟨fun p k h => ?_, fun e w h => (by cases h)⟩
              simp only at h
              injection h with e1 e2
              subst e1 e2
              rw [numR_got (s := ⟨a2, 0, x⟩) rfl hn3]
      · rw [if_neg t1, if_pos (by omega)]
        refine ⟨fun p k h => (by cases h), fun e w h => ?_⟩
        injection h with e1 e2
        subst e1 e2
        have hw : wrongR (⟨a + 1, 0, x⟩ : Rd) 5 a = ⟨a + 1, 5, a⟩ := if_pos rfl
        rw [hw, joinR_off (by simp)]
        exact ⟨rfl, rfl⟩
theorem byteR_lt {l : List Nat} (hl : ∀ x ∈ l, x < 256) (s : Rd) : (byteR l s).1 < 256 := by
  unfold byteR
  split
  · cases hq : l[s.a]? with
    | none => show 0 < 256; omega
    | some c => exact hl c (List.mem_of_getElem? hq)
  · show 0 < 256; omega
theorem pieceR_ok {l : List Nat} (hl : ∀ x ∈ l, x < 256) (s : Rd) : PcOk (pieceR l s).1 := by
  unfold pieceR
  split
  · exact ⟨byteR_lt hl _, by simp [I64], by simp [I64], by show 0 < 4294967296; omega⟩
  · unfold joinR
    generalize (if 1 < (byteR l s).1 then wrongR (byteR l s).2 5 s.a else (byteR l s).2) = s2
    have h1 := numR_le l 4095 s2
    have h2 := numR_le l 4095 (numR l 4095 s2).2
    have h3 := numR_le l 4294967295 (numR l 4095 (numR l 4095 s2).2).2
    refine ⟨by show 0 < 256; omega, ?_, ?_, ?_⟩
    · show I64 ((numR l 4095 s2).1 : Int); unfold I64; omega
    · show I64 ((numR l 4095 (numR l 4095 s2).2).1 : Int); unfold I64; omega
    · show (numR l 4294967295 (numR l 4095 (numR l 4095 s2).2).2).1 < 4294967296; omega
end Vf
end Go.Proofs.Ytglkhgchbnkekaa
