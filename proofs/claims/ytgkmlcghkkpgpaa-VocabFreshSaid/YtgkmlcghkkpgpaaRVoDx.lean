/-
  stookref08.bytes and Expand: the bytes of a token.
-/
import Derived.Test.YtgkmlcghkkpgpaaRVoD
namespace Go.Proofs.Ytgkmlcghkkpgpaa
open Go.RowKit
set_option linter.unusedVariables false

set_option maxHeartbeats 2000000 in
theorem rbytes_any (P : List Vo.Pc) (hg : Vo.Good P) (v : Value) (B : Nat) (t : Nat) : ∀ (w : World), t < P.length → Lv pK w B v P → B ≤ w.heap.size →
    Calls Try.prog 42 #[.agg #[v], .int .i64 (t : Nat)] w (IsL1 yK (Vo.text P t) w) := by
  induction t using Nat.strongRecOn with
  | _ t ih =>
    intro w ht hv hB
    obtain ⟨A, c, rfl, _, _, _, _⟩ := id hv
    obtain ⟨b, off, p, rfl, hbB, hpok, hq, c0, c1, c2, c3, c4⟩ := hv.piece_ ht
    have hti : (t : Int) < (P.length : Int) := by omega
    have hbw : b < w.heap.size := by omega
    obtain ⟨pj, pb, pl, pr, pk⟩ := p
    simp only at c0 c1 c2 c3 c4
    obtain ⟨W, hW⟩ : ∃ W, (w.alloc (.cells #[.slice (some ⟨b, off, none⟩) P.length c] 24)).alloc (.cells #[.bool pj, .int .u8 (pb : Nat), .int .i64 pl, .int .i64 pr, .int .u32 (pk : Nat)] 33) = W := ⟨_, rfl⟩
    have d0 : W.cell? ⟨w.heap.size, 0, none⟩ = some (.slice (some ⟨b, off, none⟩) P.length c) := by
      rw [← hW, cell_of_row _ w.heap.size 0 _ _ _ ((heap_alloc_old _ _ (by simp)).trans (heap_alloc_new w _))]; rfl
    have hcell : ∀ (i : Nat) (u : Value), #[.bool pj, .int .u8 (pb : Nat), .int .i64 pl, .int .i64 pr, .int .u32 (pk : Nat)][i]? = some u → W.cell? ⟨w.heap.size + 1, i, none⟩ = some u := fun i u hi => by
      have e : (w.alloc (.cells #[.slice (some ⟨b, off, none⟩) P.length c] 24)).heap.size = w.heap.size + 1 := by simp
      rw [← hW, ← e, cell_of_row _ _ i _ _ _ (heap_alloc_new _ _)]
      exact hi
    have e0 := hcell 0 _ rfl
    have e1 := hcell 1 _ rfl
    have e2 := hcell 2 _ rfl
    have e3 := hcell 3 _ rfl
    have HB : Hid (Below w.heap.size w W) := by unfold Hid; rw [← hW]; exact ((Below.refl _ _).alloc (Nat.le_refl _) _).alloc (by simp) _
    have HSZ : Hid (W.heap.size = w.heap.size + 2) := by unfold Hid; rw [← hW]; simp
    clear hcell
    cases pj with
    | false =>
      have HX : Hid (Vo.text P t = [pb]) := Vo.text_byte hq rfl
      have hpb : pb < 256 := hpok.1
      clear hpok hq ih
      go_enter Try.func42, Try.ntmps42
      go_wp2
      go_ret
      rw [HX.out]
      have hs := HSZ.out
      refine ⟨some ⟨W.heap.size, 0, none⟩, 1, rfl, ⟨fun x hx => by simp at hx; subst hx; exact hpb, .inr ⟨W.heap.size, [], rfl, by omega, by simp, by simp [maxLen], heap_alloc_new W _⟩⟩, HB.out.alloc (by omega) _⟩
    | true =>
      obtain ⟨hx, hl, hr, hl0, hr0⟩ := Vo.text_join hg hq rfl
      obtain ⟨L, rfl⟩ := Int.eq_ofNat_of_zero_le hl0
      obtain ⟨R, rfl⟩ := Int.eq_ofNat_of_zero_le hr0
      simp only [Int.toNat_natCast] at hx hl hr
      have HX : Hid (Vo.text P t = Vo.text P L ++ Vo.text P R) := hx
      have hzl := Vo.text_size hg (t := L) (by omega)
      have hzr := Vo.text_size hg (t := R) (by omega)
      have HZ : Hid ((Vo.text P L).length ≤ 256 ∧ (Vo.text P R).length ≤ 256) := ⟨hzl.2, hzr.2⟩
      have HL := Lib.hid (ih L hl W (by omega) (hv.below_ HB.out hB) (Nat.le_trans hB HB.out.size))
      have HR : Hid (∀ w', Below w.heap.size w w' → Calls Try.prog 42 #[.agg #[.slice (some ⟨b, off, none⟩) P.length c], .int .i64 (R : Nat)] w' (IsL1 yK (Vo.text P R) w')) := fun w' hb => ih R hr w' (by omega) (hv.below_ hb hB) (Nat.le_trans hB hb.size)
      clear hpok hq ih hx hl0 hr0 hzl hzr hl hr
      go_enter Try.func42, Try.ntmps42
      go_wp2_with (fail)
      refine (HL.out).mono ?_
      rintro e w1 ⟨A1, k1, rfl, ho1, hb1⟩
      have HB1 := Lib.hid (HB.out.trans (hb1.mono HB.out.size))
      have HO1 := Lib.hid (ho1.mono_ HB.out.size)
      have hs := HSZ.out
      have d1 : w1.cell? ⟨w.heap.size, 0, none⟩ = some (.slice (some ⟨b, off, none⟩) P.length c) := (hb1.cell (p := ⟨w.heap.size, 0, none⟩) (by show w.heap.size < _; omega)).trans d0
      have f3 : w1.cell? ⟨w.heap.size + 1, 3, none⟩ = some (.int .i64 (R : Nat)) := (hb1.cell (p := ⟨w.heap.size + 1, 3, none⟩) (by show w.heap.size + 1 < _; omega)).trans e3
      have HR1 := Lib.hid (HR.out w1 HB1.out)
      clear ho1 hb1 HL HR d0 e0 e1 e2 e3 c0 c1 c2 c3 c4 hW hs
      go_wp2_with (fail)
      refine (HR1.out).mono ?_
      rintro e w2 ⟨A2, k2, rfl, ho2, hb2⟩
      have HB2 := Lib.hid (HB1.out.trans (hb2.mono HB1.out.size))
      have HO1b := Lib.hid (HO1.out.below_ hb2 (Nat.le_refl _))
      have HO2 := Lib.hid ho2
      have hb3 := HB2.out.size
      clear ho2 hb2 HR1 HO1 d1 f3
      go_wp2_with (at_builtin; go_must (refine wpList_append_l _ yK rfl _ _ rfl w.heap.size _ rfl (Vo.text P L) HO1b.out _ rfl w2.heap.size (Vo.text P R) HO2.out.form_ (by have := HZ.out; show (_ + _) * 1 ≤ _; omega) (by have := HZ.out; simp only [maxLen]; omega) hb3 ?_; intro A3 c3 w3 hA hG))
      have HB3 := Lib.hid (HB2.out.grown hG hb3 (fun k hk => (HO1b.out.lt_ k hk).1))
      have HA := Lib.hid hA
      clear hA hG
      go_wp2
      go_ret
      rw [HX.out]
      exact ⟨A3, c3, by rw [List.length_append]; rfl, HA.out, HB3.out⟩

namespace Vo
def expandE (P : List Pc) (t : Int) : List Nat × Nat := if May P then (if t < 0 ∨ (P.length : Int) ≤ t then ([], 2) else (text P t.toNat, 0)) else ([], 11)
/-- The first token that is this byte. -/
def tokenOf (P : List Pc) (c : Nat) : Nat := P.findIdx (fun q => !q.join && q.byte == c)
def byteE (P : List Pc) (c : Nat) : Nat × Nat := if May P then (tokenOf P c, 0) else (0, 11)
end Vo

set_option maxHeartbeats 2000000 in
theorem rexpand_any (P : List Vo.Pc) (v : Value) (t : Int) (B : Nat) (w : World) (hv : Lv pK w B v P) (hB : B ≤ w.heap.size) (ht : I64 t) :
    Calls Try.prog 19 #[.agg #[v], .int .i64 t] w (IsLE yK (Vo.expandE P t) w) := by
  obtain ⟨W, hW⟩ : ∃ W, w.alloc (.cells #[v] 24) = W := ⟨_, rfl⟩
  obtain ⟨d0, hsz, hb⟩ := boxed hW
  have HC := Lib.hid (rmay_voc P v B W (hv.below_ hb hB) (Nat.le_trans hB hb.size))
  have HB := Lib.hid hb
  have HV := Lib.hid hv
  have HSZ := Lib.hid hsz
  obtain ⟨A, c, rfl, h1, h2, _, _⟩ := hv
  have hl : P.length ≤ 9223372036854775807 := by simp only [maxLen] at h2; omega
  clear h1 h2 hsz hb
  by_cases hm : Vo.May P
  · rw [decide_eq_true hm] at HC
    have HG := Lib.hid (Vo.may_iff.1 hm).2.1
    by_cases hbad : t < 0 ∨ (P.length : Int) ≤ t
    · have HX : Hid (Vo.expandE P t = ([], 2)) := by unfold Hid Vo.expandE; rw [if_pos hm, if_pos hbad]
      rcases Decidable.em (t < 0) with h0 | h0
      · clear hbad hm
        go_enter Try.func19, Try.ntmps19
        go_wp2_with (fail)
        refine (HC.out).mono ?_
        rintro e w1 ⟨rfl, hb⟩
        have HB2 := Lib.hid (HB.out.trans (hb.mono HB.out.size))
        clear hb HC
        go_wp2
        go_ret2
        exact IsLE.none_b HX.out rfl HB2.out
      · have h1 : (P.length : Int) ≤ t := by omega
        clear hbad hm
        go_enter Try.func19, Try.ntmps19
        go_wp2_with (fail)
        refine (HC.out).mono ?_
        rintro e w1 ⟨rfl, hb⟩
        have HB2 := Lib.hid (HB.out.trans (hb.mono HB.out.size))
        have d1 : w1.cell? ⟨w.heap.size, 0, none⟩ = some (.slice A P.length c) := (hb.cell (p := ⟨w.heap.size, 0, none⟩) (by show w.heap.size < _; have := HSZ.out; omega)).trans d0
        clear hb HC
        go_wp2
        go_ret2
        exact IsLE.none_b HX.out rfl HB2.out
    · have HX : Hid (Vo.expandE P t = (Vo.text P t.toNat, 0)) := by unfold Hid Vo.expandE; rw [if_pos hm, if_neg hbad]
      obtain ⟨T, rfl⟩ := Int.eq_ofNat_of_zero_le (show 0 ≤ t by omega)
      rw [Int.toNat_natCast] at HX
      have HR : Hid (∀ w', Below w.heap.size w w' → Calls Try.prog 42 #[.agg #[.slice A P.length c], .int .i64 (T : Nat)] w' (IsL1 yK (Vo.text P T) w')) := fun w' hb => rbytes_any P HG.out _ B T w' (by omega) (HV.out.below_ hb hB) (Nat.le_trans hB hb.size)
      have h1 : ¬ (P.length : Int) ≤ (T : Int) := by omega
      clear hbad hm
      go_enter Try.func19, Try.ntmps19
      go_wp2_with (fail)
      refine (HC.out).mono ?_
      rintro e w1 ⟨rfl, hb⟩
      have HB2 := Lib.hid (HB.out.trans (hb.mono HB.out.size))
      have d1 : w1.cell? ⟨w.heap.size, 0, none⟩ = some (.slice A P.length c) := (hb.cell (p := ⟨w.heap.size, 0, none⟩) (by show w.heap.size < _; have := HSZ.out; omega)).trans d0
      have HR1 := Lib.hid (HR.out w1 HB2.out)
      clear hb HC HR
      go_wp2_with (fail)
      refine (HR1.out).mono ?_
      rintro e w2 ⟨A2, c2, rfl, ho, hb⟩
      have HO := Lib.hid (ho.mono_ HB2.out.size)
      have HB3 := Lib.hid (HB2.out.trans (hb.mono HB2.out.size))
      clear ho hb HR1
      go_wp2
      go_ret2
      exact IsLE.of HX.out rfl rfl HO.out HB3.out
  · rw [decide_eq_false hm] at HC
    have HX : Hid (Vo.expandE P t = ([], 11)) := by unfold Hid Vo.expandE; rw [if_neg hm]
    clear hm
    go_enter Try.func19, Try.ntmps19
    go_wp2_with (fail)
    refine (HC.out).mono ?_
    rintro e w1 ⟨rfl, hb⟩
    have HB2 := Lib.hid (HB.out.trans (hb.mono HB.out.size))
    clear hb HC
    go_wp2
    go_ret2
    exact IsLE.none_b HX.out rfl HB2.out
end Go.Proofs.Ytgkmlcghkkpgpaa
