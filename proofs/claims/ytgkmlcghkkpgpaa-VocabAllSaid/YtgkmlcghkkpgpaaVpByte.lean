/-
  vocab.seen's addByte.
-/
import Derived.Test.YtgkmlcghkkpgpaaVpMem
namespace Go.Proofs.Ytgkmlcghkkpgpaa
open Go.RowKit Go.Maps
set_option linter.unusedVariables false

set_option maxHeartbeats 2000000 in
theorem paddByte_any {w : World} {sb base : Nat} {D : List Vo.Pc} (h : SeenD w sb base D) (p : Vo.Pc) (hp : PcOk p) (hj : p.join = false) (hD : D.length ≤ 4096) (hb : base ≤ w.heap.size) :
    Calls Try.prog 53 #[.pointer (some ⟨sb, 0, none⟩), pcV p] w (IsAdd sb base D p w) := by
  obtain ⟨b1, b2, v, hv⟩ := h
  obtain ⟨j, b, l, r, k⟩ := p
  obtain ⟨hpb, hpl, hpr, hpk⟩ := hp
  simp only at hj hpb hpl hpr hpk
  subst hj
  obtain ⟨A, c, rfl, _⟩ := hv.own.form_
  rw [Vo.sizes_len] at hv
  obtain ⟨o, ho⟩ : ∃ o : Obj, o = .cells #[.bool false, .int .u8 (b : Nat), .int .i64 l, .int .i64 r, .int .u32 (k : Nat)] 33 := ⟨_, rfl⟩
  obtain ⟨W, hW⟩ : ∃ W, w.alloc o = W := ⟨_, rfl⟩
  have hcell : ∀ (i : Nat) (u : Value), #[.bool false, .int .u8 (b : Nat), .int .i64 l, .int .i64 r, .int .u32 (k : Nat)][i]? = some u → W.cell? ⟨w.heap.size, i, none⟩ = some u := fun i u hi => by
    subst hW ho
    rw [cell_of_row _ w.heap.size i _ _ _ (heap_alloc_new w _)]
    exact hi
  have c0 := hcell 0 _ rfl
  have c1 := hcell 1 _ rfl
  have c2 := hcell 2 _ rfl
  have c3 := hcell 3 _ rfl
  have c4 := hcell 4 _ rfl
  have hvW : SeenQ W sb base b1 b2 (.slice A D.length c) (Vo.sizes D) (Vo.bits D) D.length D.length (Vo.inR D) (Vo.inP D) := by rw [← hW]; exact hv.alloc_ _
  have hbW : Below base w W := by rw [← hW]; exact (Below.refl _ _).alloc hb _
  have hsW : base ≤ W.heap.size := Nat.le_trans hb hbW.size
  subst ho
  have hneq := fun w => pc_neq ⟨false, b, l, r, k⟩ ⟨false, b, 0, 0, 0⟩ w
  have hgd := pc_guard
  unfold pcV at hneq ⊢
  simp only [Int.natCast_zero] at hneq
  clear hcell
  by_cases hbad : l ≠ 0 ∨ r ≠ 0 ∨ k ≠ 0
  · have HX : Hid (Vo.errAt D ⟨false, b, l, r, k⟩ = 5) := by unfold Hid Vo.errAt; rw [if_neg (by simp), if_pos hbad]
    have hq : Vo.eqB ⟨false, b, l, r, k⟩ ⟨false, b, 0, 0, 0⟩ = false := by
      rw [Bool.eq_false_iff]
      intro e
      have := Vo.eqB_iff.1 e
      simp at this
      omega
    rw [hq] at hneq
    have FIN := Lib.hid (show IsAdd sb base D ⟨false, b, l, r, k⟩ w (.returned (.int .i64 5)) W from IsAdd.bad HX.out (by decide) rfl hbW)
    simp only [Bool.not_false] at hneq
    clear hq hbad hv hvW hbW HX
    go_enter Try.func53, Try.ntmps53
    go_wp2
    go_ret
    exact FIN.out
  · obtain ⟨rfl, rfl, rfl⟩ : l = 0 ∧ r = 0 ∧ k = 0 := by omega
    have hq : Vo.eqB ⟨false, b, 0, 0, 0⟩ ⟨false, b, 0, 0, 0⟩ = true := Vo.eqB_iff.2 rfl
    rw [hq] at hneq
    simp only [Bool.not_true, Int.natCast_zero] at hneq
    have hW0 : w.alloc (.cells #[.bool false, .int .u8 (b : Nat), .int .i64 0, .int .i64 0, .int .u32 0] 33) = W := hW
    have c40 : W.cell? ⟨w.heap.size, 4, none⟩ = some (.int .u32 0) := c4
    simp only [Int.natCast_zero]
    have hbit := hvW.bool_ (Vo.bits_at (D := D) hpb)
    have hbi : (b : Int) < 256 := by omega
    clear hW c4 hbad hq
    cases ht : Vo.hasByte D ⟨false, b, 0, 0, 0⟩ with
    | true =>
      have HX : Hid (Vo.errAt D ⟨false, b, 0, 0, 0⟩ = 8) := by unfold Hid Vo.errAt; rw [if_neg (by simp), if_neg (by simp), if_pos ht]
      rw [Vo.hasByte_bits] at ht
      simp only at ht
      rw [ht] at hbit
      have HB := Lib.hid hbW
      clear ht hvW hbW hv
      go_enter Try.func53, Try.ntmps53
      go_wp2
      go_quiet (fail)
      go_wp2
      go_ret
      exact IsAdd.bad HX.out (by decide) rfl (below_drewN HB.out _)
    | false =>
      have HX : Hid (Vo.errAt D ⟨false, b, 0, 0, 0⟩ = 0) := by unfold Hid Vo.errAt; rw [if_neg (by simp), if_neg (by simp), if_neg (by rw [ht]; simp)]
      rw [Vo.hasByte_bits] at ht
      simp only at ht
      rw [ht] at hbit
      have HS := Lib.hid hvW
      have HB := Lib.hid hbW
      clear ht hvW hbW hv
      go_enter Try.func53, Try.ntmps53
      go_wp2
      go_quiet (fail)
      generalize hW9 : W.drewN _ = w9
      have HS9 : Hid (SeenQ w9 sb base b1 b2 (.slice A D.length c) (Vo.sizes D) (Vo.bits D) D.length D.length (Vo.inR D) (Vo.inP D)) := by unfold Hid; rw [← hW9]; exact HS.out.drewN_ _
      have HB9 : Hid (Below base w w9) := by unfold Hid; rw [← hW9]; exact below_drewN HB.out _
      have hc1 : w9.cell? ⟨w.heap.size, 1, none⟩ = some (.int .u8 (b : Nat)) := by rw [← hW9]; exact c1
      have hbit9 := HS9.out.bool_ (Vo.bits_at (D := D) hpb)
      have hcl := HS9.out.cool_ b
      clear hW9 hW0 c0 c1 c2 c3 c40 hbit hneq
      go_wp2
      go_region
      obtain ⟨W2, hW2⟩ : ∃ W2, (w9.setCell ⟨sb, b, none⟩ (.bool true)).drew = W2 := ⟨_, rfl⟩
      have HS2 : Hid (SeenQ W2 sb base b1 b2 (.slice A D.length c) (Vo.sizes D) ((Vo.bits D).set b true) D.length D.length (Vo.inR D) (Vo.inP D)) := by unfold Hid; rw [← hW2]; exact (HS9.out.setBool_ hpb true).drew_
      have HB2 : Hid (Below base w W2) := by unfold Hid; rw [← hW2]; exact (HB9.out.setCell (p := ⟨sb, b, none⟩) HS9.out.low0 _).drew
      have hc0 := HS2.out.slice_
      have hI : I64 (1 : Int) := by unfold I64; omega
      have HL : Hid ((Vo.sizes D).length = D.length) := Vo.sizes_len D
      have hb3 : base ≤ W2.heap.size := Nat.le_trans hb HB2.out.size
      rw [hW2]
      clear hW2 hcl hbit9 hc1 HS9 HB9
      go_wp2_with (at_builtin; go_must (refine wpList_push_m _ iK rfl _ _ rfl base _ rfl (Vo.sizes D) HS2.out.own rfl (1 : Int) hI _ rfl _ rfl (by rw [HL.out]; show _ * 8 ≤ _; omega) (by rw [HL.out]; simp only [maxLen]; omega) hb3 ?_; intro A3 c3 w4 hA hG hM; have hc4 := (HS2.out.grown_ hG).1; have hf4 := (HS2.out.grown_ hG).2))
      have HS5 := HS2.out.setSlice_ hG hA hM
      have HB5 := (HB2.out.grown hG hb3 (fun k hk => (HS2.out.own.lt_ k hk).1)).setCell (p := ⟨sb, 258, none⟩) HS2.out.low0 (.slice A3 (D.length + 1) c3)
      rw [HL.out] at HS5 ⊢
      have HS6 := Lib.hid HS5
      have HB6 := Lib.hid HB5
      clear HS5 HB5 hA hG hM hc4 hf4
      go_wp2
      go_ret
      refine ⟨by rw [HX.out]; rfl, fun _ => ?_, HB6.out⟩
      have h6 := HS6.out
      refine ⟨b1, b2, .slice A3 (D.length + 1) c3, ?_⟩
      rw [Vo.sizes_byte rfl, Vo.bits_byte rfl hpb, Vo.inR_byte rfl, Vo.inP_byte rfl, List.length_append]
      exact ⟨h6.head, h6.len, h6.own, h6.ranks.mono_ (by simp), h6.pairs.mono_ (by simp), h6.apart, h6.d12, h6.low0, h6.low1, h6.low2⟩
end Go.Proofs.Ytgkmlcghkkpgpaa
