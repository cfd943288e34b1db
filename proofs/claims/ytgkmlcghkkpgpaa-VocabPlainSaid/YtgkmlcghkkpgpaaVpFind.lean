/-
  vocab.Find.
-/
import Derived.Test.YtgkmlcghkkpgpaaVpIdx
namespace Go.Proofs.Ytgkmlcghkkpgpaa
open Go.RowKit
set_option linter.unusedVariables false

set_option maxHeartbeats 2000000 in
theorem pfind_any (P : List Vo.Pc) (v : Value) (l r : Int) (B : Nat) (w : World) (hv : Lv pK w B v P) (hB : B ≤ w.heap.size) (hl : I64 l) (hr : I64 r) (hP : P.length ≤ 700) :
    Calls Try.prog 24 #[.agg #[v], .int .i64 l, .int .i64 r] w (IsFound (Vo.foundE P l r) w) := by
  obtain ⟨W1, hW1⟩ : ∃ W, w.alloc (.cells #[v] 24) = W := ⟨_, rfl⟩
  obtain ⟨d1, hsz1, hb1⟩ := boxed hW1
  obtain ⟨W2, hW2⟩ : ∃ W, W1.alloc (.cells #[.int .i64 l] 3) = W := ⟨_, rfl⟩
  obtain ⟨e2, hsz2, hb2⟩ := boxed hW2
  obtain ⟨W3, hW3⟩ : ∃ W, W2.alloc (.cells #[.int .i64 r] 3) = W := ⟨_, rfl⟩
  obtain ⟨e3, hsz3, hb3⟩ := boxed hW3
  have HB := Lib.hid ((hb1.trans (hb2.mono hb1.size)).trans (hb3.mono (Nat.le_trans hb1.size hb2.size)))
  have hW : ((w.alloc (.cells #[v] 24)).alloc (.cells #[.int .i64 l] 3)).alloc (.cells #[.int .i64 r] 3) = W3 := by rw [hW1, hW2, hW3]
  rw [hsz1] at hsz2 e2
  rw [hsz2] at hsz3 e3
  have d2 := (hb2.cell (p := ⟨w.heap.size, 0, none⟩) (by show w.heap.size < _; omega)).trans d1
  have d3 := (hb3.cell (p := ⟨w.heap.size, 0, none⟩) (by show w.heap.size < _; omega)).trans d2
  have l3 := (hb3.cell (p := ⟨w.heap.size + 1, 0, none⟩) (by show w.heap.size + 1 < _; omega)).trans e2
  have HC0 : Hid (∀ w', Below w.heap.size w w' → Calls Try.prog 40 #[.agg #[v]] w' (IsBool (decide (Vo.May P)) w')) := fun w' hb => pmay_any P v B w' (hv.below_ hb hB) (Nat.le_trans hB hb.size)
  have HX0 := Lib.hid (pindexFunc_any P v l r (w.heap.size + 1) (w.heap.size + 1 + 1) B W3 (hv.below_ HB.out hB) (Nat.le_trans hB HB.out.size) l3 e3 (by omega) (by omega))
  have HSZ := Lib.hid hsz3
  obtain ⟨A, c, rfl, _, _, _, _⟩ := hv
  clear hsz1 hsz2 hsz3 hb1 hb2 hb3 hW1 hW2 hW3 d1 d2 e2 e3 l3
  obtain ⟨x, hx⟩ : ∃ x, Vo.firstI P (fun q => Vo.eqB q ⟨true, 0, l, r, q.rank⟩) = x := ⟨_, rfl⟩
  rw [hx] at HX0
  by_cases hneg : x < 0
  · have HF : Hid (Vo.foundE P l r = (0, false)) := by
      unfold Hid Vo.foundE
      by_cases hm : Vo.May P
      · rw [Vo.join_first (Vo.may_iff.1 hm).2.1] at hx
        rw [if_pos hm, Vo.findE]
        split
        · rename_i h; rw [if_pos h] at hx; omega
        · rfl
      · rw [if_neg hm]
    clear hx HC0
    go_enter Try.func24, Try.ntmps24
    go_wp2_with (fail)
    refine HX0.out.mono ?_
    rintro e w1 ⟨rfl, hb⟩
    have HB2 := Lib.hid (HB.out.trans (hb.mono HB.out.size))
    clear hb HX0
    go_wp2
    go_ret2
    exact ⟨by rw [HF.out]; rfl, HB2.out⟩
  · by_cases hm : Vo.May P
    · have HF : Hid (∃ k : Nat, x = (k : Int) ∧ Vo.foundE P l r = (k, true)) := by
        unfold Hid Vo.foundE
        rw [Vo.join_first (Vo.may_iff.1 hm).2.1] at hx
        rw [if_pos hm, Vo.findE]
        split
        · rename_i h; rw [if_pos h] at hx; exact ⟨_, hx.symm, rfl⟩
        · rename_i h; rw [if_neg h] at hx; omega
      simp only [decide_eq_true hm] at HC0
      clear hx hm
      go_enter Try.func24, Try.ntmps24
      go_wp2_with (fail)
      refine HX0.out.mono ?_
      rintro e w1 ⟨rfl, hb⟩
      have HB2 := Lib.hid (HB.out.trans (hb.mono HB.out.size))
      have d4 := (hb.cell (p := ⟨w.heap.size, 0, none⟩) (by show w.heap.size < _; have := HSZ.out; omega)).trans d3
      have HC := Lib.hid (HC0.out w1 HB2.out)
      clear hb HX0 HC0
      go_wp2_with (fail)
      refine HC.out.mono ?_
      rintro e w2 ⟨rfl, hb⟩
      have HB3 := Lib.hid (HB2.out.trans (hb.mono HB2.out.size))
      clear hb HC
      go_wp2
      go_ret2
      obtain ⟨k, hk, hf⟩ := HF.out
      exact ⟨by rw [hf, hk]; rfl, HB3.out⟩
    · have HF : Hid (Vo.foundE P l r = (0, false)) := by unfold Hid Vo.foundE; rw [if_neg hm]
      simp only [decide_eq_false hm] at HC0
      clear hx hm
      go_enter Try.func24, Try.ntmps24
      go_wp2_with (fail)
      refine HX0.out.mono ?_
      rintro e w1 ⟨rfl, hb⟩
      have HB2 := Lib.hid (HB.out.trans (hb.mono HB.out.size))
      have d4 := (hb.cell (p := ⟨w.heap.size, 0, none⟩) (by show w.heap.size < _; have := HSZ.out; omega)).trans d3
      have HC := Lib.hid (HC0.out w1 HB2.out)
      clear hb HX0 HC0
      go_wp2_with (fail)
      refine HC.out.mono ?_
      rintro e w2 ⟨rfl, hb⟩
      have HB3 := Lib.hid (HB2.out.trans (hb.mono HB2.out.size))
      clear hb HC
      go_wp2
      go_ret2
      exact ⟨by rw [HF.out]; rfl, HB3.out⟩
end Go.Proofs.Ytgkmlcghkkpgpaa
