/-
  stookref08.Sizes, Check, May.
-/
import Derived.Test.YtgkmlcghkkpgpaaRVoB
namespace Go.Proofs.Ytgkmlcghkkpgpaa
open Go.RowKit
set_option linter.unusedVariables false

/-- What Sizes answers (the sizes themselves are told by nobody). -/
def IsSizes (P : List Vo.Pc) (w : World) (e : Ending) (w' : World) : Prop :=
  ∃ u, e = .returned (.tuple #[u, .int .i64 ((Vo.check P).1 : Nat), .int .i64 ((Vo.check P).2 : Nat)]) ∧ Below w.heap.size w w'

theorem seen_zero : Try.zeroCells85 = (seenCells (.slice none 0 0) (List.replicate 256 false) 0).toArray := by kernel_rfl
namespace Vo
theorem check_scan {P : List Pc} (h : ¬ 4096 < P.length) {e k : Nat} (hs : scan [] P = (e, k)) (he : e ≠ 0) : check P = (e, k) := by
  unfold check
  rw [if_neg h, if_pos (by rw [hs]; exact he), hs]
theorem check_good {P : List Pc} (h : ¬ 4096 < P.length) (hg : Good P) : check P = if bytesOf P < 256 then (7, P.length) else (0, 0) := by
  unfold check
  rw [if_neg h, if_neg (by simpa using scan_good.2 hg)]
theorem good_snoc {P : List Pc} {k : Nat} {p : Pc} (hg : Good (P.take k)) (hk : P[k]? = some p) (h : errAt (P.take k) p = 0) : Good (P.take (k + 1)) := by
  intro i q hq
  have hkl : k < P.length := (List.getElem?_eq_some_iff.1 hk).1
  have hi : i < k + 1 := by
    have := (List.getElem?_eq_some_iff.1 hq).1
    rw [List.length_take] at this; omega
  rw [List.getElem?_take, if_pos hi] at hq
  rw [List.take_take, Nat.min_eq_left (by omega)]
  by_cases e : i = k
  · subst e
    rw [hk] at hq
    rw [← Option.some.inj hq]
    exact h
  · have := hg i q (by rw [List.getElem?_take, if_pos (by omega)]; exact hq)
    rwa [List.take_take, Nat.min_eq_left (by omega)] at this
theorem scan_step {P : List Pc} {k : Nat} {p : Pc} (hk : P[k]? = some p) : scan (P.take k) (P.drop k) = if errAt (P.take k) p = 0 then scan (P.take (k + 1)) (P.drop (k + 1)) else (errAt (P.take k) p, k) := by
  have hkl : k < P.length := (List.getElem?_eq_some_iff.1 hk).1
  rw [drop_at hk, scan, take_snoc hk, List.length_take, Nat.min_eq_left (by omega)]
end Vo

theorem IsSeen.good_ {sb base : Nat} {D : List Vo.Pc} {p : Vo.Pc} {w w' : World} {e : Ending} (h : IsSeen sb base D p w e w') (he : Vo.errAt D p = 0) : e = .returned (.int .i64 0) ∧ SeenAt w' sb base (D ++ [p]) ∧ Below base w w' := by
  obtain ⟨h1, h2, h3⟩ := h
  rw [he] at h1
  rw [he, if_pos rfl] at h2
  exact ⟨h1, h2, h3⟩
theorem IsSeen.bad_ {sb base : Nat} {D : List Vo.Pc} {p : Vo.Pc} {w w' : World} {e : Ending} {n : Nat} (h : IsSeen sb base D p w e w') (he : Vo.errAt D p = n) : e = .returned (.int .i64 (n : Nat)) ∧ Below base w w' := by
  obtain ⟨h1, _, h3⟩ := h
  rw [he] at h1
  exact ⟨h1, h3⟩

set_option maxRecDepth 100000 in
set_option maxHeartbeats 4000000 in
theorem rsizes_any (P : List Vo.Pc) (v : Value) (B : Nat) (w : World) (hv : Lv pK w B v P) (hB : B ≤ w.heap.size) :
    Calls Try.prog 39 #[.agg #[v]] w (IsSizes P w) := by
  have hv0 := hv
  obtain ⟨A, c, rfl, h1, h2, _, _⟩ := hv
  have hl : P.length ≤ 9223372036854775807 := by simp only [maxLen] at h2; omega
  clear h1 h2
  by_cases hbig : 4096 < P.length
  · have HX : Hid (Vo.check P = (3, 0)) := by unfold Hid Vo.check; rw [if_pos hbig]
    go_enter Try.func39, Try.ntmps39
    go_wp2
    go_ret3
    exact ⟨_, by rw [HX.out]; rfl, (Below.refl _ _).alloc (Nat.le_refl _) _⟩
  · have HBig := Lib.hid hbig
    have hle : P.length ≤ 4096 := by omega
    obtain ⟨W, hW⟩ : ∃ W, (w.alloc (.cells #[.slice A P.length c] 24)).alloc (.cells Try.zeroCells85 85) = W := ⟨_, rfl⟩
    have d0 : W.cell? ⟨w.heap.size, 0, none⟩ = some (.slice A P.length c) := by
      rw [← hW, cell_of_row _ w.heap.size 0 _ _ _ ((heap_alloc_old _ _ (by simp)).trans (heap_alloc_new w _))]; rfl
    have hs1 : (w.alloc (.cells #[.slice A P.length c] 24)).heap.size = w.heap.size + 1 := by simp
    have HS0 : Hid (SeenAt W (w.heap.size + 1) (w.heap.size + 1) (P.take 0)) := by
      refine ⟨.slice none 0 0, ?_, Vo.bits_len _, OwnL.nil_ _ _ _, by simp [Value.ownBlock], Nat.le_refl _⟩
      have hh := heap_alloc_new (w.alloc (.cells #[.slice A P.length c] 24)) (.cells Try.zeroCells85 85)
      rw [hs1, hW, seen_zero] at hh
      exact hh
    have HB0 : Hid (Below w.heap.size w W) := by unfold Hid; rw [← hW]; exact ((Below.refl _ _).alloc (Nat.le_refl _) _).alloc (by simp) _
    have HSZ : Hid (W.heap.size = w.heap.size + 2) := by unfold Hid; rw [← hW]; simp
    clear hbig hs1
    go_enter Try.func39, Try.ntmps39
    go_wp2
    go_loopw [6] (fun i wr => ∃ k : Nat, k ≤ P.length ∧ i = .int .i64 k ∧ Hid (Vo.Good (P.take k)) ∧ Hid (Vo.scan [] P = Vo.scan (P.take k) (P.drop k)) ∧ Hid (SeenAt wr (w.heap.size + 1) (w.heap.size + 1) (P.take k)) ∧ Below (w.heap.size + 1) W wr) (fun i _ => P.length - (intOf i).toNat)
    case atStart => exact ⟨0, by omega, rfl, by intro i p h; simp at h, rfl, HS0.out, Below.refl _ _⟩
    case round =>
      obtain ⟨k, hk, rfl, HG, HSc, HS, hbr⟩ := hrel
      have HBr := Lib.hid hbr
      have HBw := Lib.hid (HB0.out.trans (hbr.mono (Nat.le_succ _)))
      have hd0 : wr.cell? ⟨w.heap.size, 0, none⟩ = some (.slice A P.length c) := (hbr.cell (p := ⟨w.heap.size, 0, none⟩) (Nat.lt_succ_self _)).trans d0
      have hsr : w.heap.size + 1 ≤ wr.heap.size := by have := hbr.size; have := HSZ.out; omega
      have HVr := Lib.hid (hv0.below_ HBw.out hB)
      clear HS0 hbr d0
      by_cases hlt : k < P.length
      · obtain ⟨b, off, p, rfl, hbB, hpok, hq, c0, c1, c2, c3, c4⟩ := HVr.out.piece_ hlt
        have hki : (k : Int) < (P.length : Int) := by omega
        cases hj : p.join with
        | true =>
          rw [hj] at c0
          have HC := Lib.hid (rsjoin_any (w.heap.size + 1) (w.heap.size + 1) B P k p _ wr HVr.out (by omega) hq hj hle HG.out hsr HS.out)
          by_cases he : Vo.errAt (P.take k) p = 0
          · have HC1 := Lib.hid (HC.out.mono fun e w' h => h.good_ he)
            have HG2 := Lib.hid (Vo.good_snoc HG.out hq he)
            have HSc2 : Hid (Vo.scan [] P = Vo.scan (P.take (k + 1)) (P.drop (k + 1))) := by unfold Hid; rw [HSc.out, Vo.scan_step hq, if_pos he]
            have HQ := Lib.hid (take_snoc hq)
            clear HC he hq HG HSc
            go_wp2_with (fail)
            refine (HC1.out).mono ?_
            rintro e w1 ⟨rfl, hs, hb⟩
            have HS2 : Hid (SeenAt w1 (w.heap.size + 1) (w.heap.size + 1) (P.take (k + 1))) := by unfold Hid; rw [HQ.out]; exact hs
            have HB2 := Lib.hid (HBr.out.trans hb)
            clear hs hb HC1
            go_wp2
            go_roundw
            case rel => exact ⟨k + 1, hlt, by go_num, HG2.out, HSc2.out, HS2.out, HB2.out⟩
            case measure => simp [intOf]; omega
          · obtain ⟨E, hE⟩ : ∃ E, Vo.errAt (P.take k) p = E := ⟨_, rfl⟩
            have HC1 := Lib.hid (HC.out.mono fun e w' h => h.bad_ hE)
            have HX : Hid (Vo.check P = (E, k)) := Vo.check_scan HBig.out (by rw [HSc.out, Vo.scan_step hq, if_neg he, hE]) (by rw [← hE]; exact he)
            rw [hE] at he
            have heb : ((E : Int) != 0) = true := by rw [bne_iff_ne]; omega
            clear HC he hE hq HG HSc
            go_wp2_with (fail)
            refine (HC1.out).mono ?_
            rintro e w1 ⟨rfl, hb⟩
            have HB2 := Lib.hid (HBw.out.trans (hb.mono (Nat.le_succ _)))
            clear hb HC1
            go_wp2
            go_ret3
            exact ⟨_, by rw [HX.out]; rfl, HB2.out⟩
        | false =>
          rw [hj] at c0
          have HC := Lib.hid (rsbyte_any (w.heap.size + 1) (w.heap.size + 1) (P.take k) p wr hpok hj (by rw [List.length_take]; omega) hsr HS.out)
          unfold pcV at HC
          rw [hj] at HC
          by_cases he : Vo.errAt (P.take k) p = 0
          · have HC1 := Lib.hid (HC.out.mono fun e w' h => h.good_ he)
            have HG2 := Lib.hid (Vo.good_snoc HG.out hq he)
            have HSc2 : Hid (Vo.scan [] P = Vo.scan (P.take (k + 1)) (P.drop (k + 1))) := by unfold Hid; rw [HSc.out, Vo.scan_step hq, if_pos he]
            have HQ := Lib.hid (take_snoc hq)
            clear HC he hq HG HSc
            go_wp2_with (fail)
            refine (HC1.out).mono ?_
            rintro e w1 ⟨rfl, hs, hb⟩
            have HS2 : Hid (SeenAt w1 (w.heap.size + 1) (w.heap.size + 1) (P.take (k + 1))) := by unfold Hid; rw [HQ.out]; exact hs
            have HB2 := Lib.hid (HBr.out.trans hb)
            clear hs hb HC1
            go_wp2
            go_roundw
            case rel => exact ⟨k + 1, hlt, by go_num, HG2.out, HSc2.out, HS2.out, HB2.out⟩
            case measure => simp [intOf]; omega
          · obtain ⟨E, hE⟩ : ∃ E, Vo.errAt (P.take k) p = E := ⟨_, rfl⟩
            have HC1 := Lib.hid (HC.out.mono fun e w' h => h.bad_ hE)
            have HX : Hid (Vo.check P = (E, k)) := Vo.check_scan HBig.out (by rw [HSc.out, Vo.scan_step hq, if_neg he, hE]) (by rw [← hE]; exact he)
            rw [hE] at he
            have heb : ((E : Int) != 0) = true := by rw [bne_iff_ne]; omega
            clear HC he hE hq HG HSc
            go_wp2_with (fail)
            refine (HC1.out).mono ?_
            rintro e w1 ⟨rfl, hb⟩
            have HB2 := Lib.hid (HBw.out.trans (hb.mono (Nat.le_succ _)))
            clear hb HC1
            go_wp2
            go_ret3
            exact ⟨_, by rw [HX.out]; rfl, HB2.out⟩
      · obtain rfl : k = P.length := by omega
        have hG := HG.out
        rw [List.take_length] at hG
        have HX := Lib.hid (Vo.check_good HBig.out hG)
        have hS := HS.out
        rw [List.take_length] at hS
        obtain ⟨x, hx⟩ := hS
        have hm := hx.many_
        have hs := hx.slice_
        clear hG hx
        by_cases hmany : Vo.bytesOf P < 256
        · rw [if_pos hmany] at HX
          have hmi : (Vo.bytesOf P : Int) < 256 := by omega
          obtain ⟨m, hme⟩ : ∃ m, Vo.bytesOf P = m := ⟨_, rfl⟩
          rw [hme] at hm hmi
          clear hmany hme
          go_wp2
          go_quiet (fail)
          go_wp2
          go_ret3
          exact ⟨_, by rw [HX.out]; rfl, below_drewN HBw.out _⟩
        · rw [if_neg hmany] at HX
          have hmi : ¬ (Vo.bytesOf P : Int) < 256 := by omega
          obtain ⟨m, hme⟩ : ∃ m, Vo.bytesOf P = m := ⟨_, rfl⟩
          rw [hme] at hm hmi
          clear hmany hme
          go_wp2
          go_ret3
          exact ⟨_, by rw [HX.out]; rfl, HBw.out⟩
end Go.Proofs.Ytgkmlcghkkpgpaa
