/-
  BqEnc: bpe.Encode.
  BqStepF: bpe.Step.
  BqLay: bpe.lay.
-/
import Derived.Test.YtaedhccmdbodlaaPk15
import Derived.Test.YtaedhccmdbodlaaPk24
import Derived.Test.YtaedhccmdbodlaaPk07
import Derived.Test.YtaedhccmdbodlaaPk06
import Derived.Deep.RegionHeld3
namespace Go.Proofs.Ytaedhccmdbodlaa
open Go.RowKit
set_option linter.unusedVariables false

/-- The tokens of a row. -/
theorem plist_row {w : World} {rb base n : Nat} {J : Int → Int → Option (Int × Nat)} {l : List Int} (h : IsRow w rb base J n l) (hn : n ≤ 4096) :
    Calls Try.prog 41 #[.pointer (some ⟨rb, 0, none⟩)] w (IsL1 iK l w) := by
  obtain ⟨T, A, N, S, m, ps, ⟨mb, qb, F, h1⟩, h2, rfl, -⟩ := h
  exact plist_any h1.row_ h2 hn
theorem IsRow.lt_ {w : World} {rb base n : Nat} {J : Int → Int → Option (Int × Nat)} {l : List Int} (h : IsRow w rb base J n l) : rb < w.heap.size := by
  obtain ⟨T, A, N, S, m, ps, h1, -⟩ := h
  exact h1.lt_
theorem IsRow.to_ {w w' : World} {rb base n : Nat} {J : Int → Int → Option (Int × Nat)} {l : List Int} (h : IsRow w rb base J n l) (hb : Below w.heap.size w w') : IsRow w' rb base J n l := by
  obtain ⟨T, A, N, S, m, ps, h1, h2⟩ := h
  exact ⟨T, A, N, S, m, ps, h1.to_ hb, h2⟩
theorem jn_ok {P : List Vo.Pc} (hok : ∀ q ∈ P, PcOk q) (hP : P.length ≤ 4096) : JOk (Bp.jn P) := fun x y t r h => by
  obtain ⟨T, q, rfl, hq, -, -, -, rfl, -⟩ := Bp.jn_some h
  have := (List.getElem?_eq_some_iff.1 hq).1
  exact ⟨by unfold I64; omega, (hok q (List.mem_of_getElem? hq)).2.2.2⟩

set_option maxHeartbeats 2000000 in
set_option maxRecDepth 100000 in
theorem pencode_all (P : List Vo.Pc) (v : Value) (b : List Nat) (u : Value) (B : Nat) (w : World) (hv : Lv pK w B v P) (hu : Lv yK w B u b) (hB : B ≤ w.heap.size) :
    Calls Try.prog 20 #[.agg #[v], u] w (IsLE iK (Bp.encE P b) w) := by
  obtain ⟨W, hW⟩ : ∃ W, w.alloc (.cells #[v] 24) = W := ⟨_, rfl⟩
  obtain ⟨d0, hsz, hb⟩ := boxed hW
  have HBG := Lib.hid (pbegin_big P v b u B W (hv.below_ hb hB) (hu.below_ hb hB) (Nat.le_trans hB hb.size))
  have HV := Lib.hid hv
  have HB0 := Lib.hid hb
  have HBB := Lib.hid hB
  have HSZ := Lib.hid hsz
  have HY : Hid (∀ x ∈ b, x < 256) := hu.ok_
  obtain ⟨A, c, rfl, -, -, -, -, -⟩ := hv
  obtain ⟨A2, c2, rfl, k1, k2, -, -, -⟩ := hu
  have hll : b.length ≤ 9223372036854775807 := by simp only [maxLen] at k2; omega
  clear hb hsz hB k1 k2
  by_cases hgood : Vo.May P ∧ b.length ≤ 4096
  · obtain ⟨hm, hbl⟩ := hgood
    have hX : Bp.beginE P b = (Bp.beginL P b, 0) := by unfold Bp.beginE; rw [if_pos hm, if_neg (by omega)]
    have HX : Hid (Bp.encE P b = (Bp.nf (Bp.jn P) (Bp.beginL P b), 0)) := by unfold Hid Bp.encE; rw [if_pos hm, if_neg (by omega)]; rfl
    have HTK : Hid (Bp.Toks P (Bp.beginL P b)) := Bp.begin_toks hm (fun q hq => (HV.out.ok_ q hq).1) HY.out
    have HG : Hid (Vo.Good P ∧ P.length ≤ 4096) := ⟨(Vo.may_iff.1 hm).2.1, (Vo.may_iff.1 hm).1⟩
    have HJ : Hid (JOk (Bp.jn P) ∧ Bp.Grows (Bp.jn P)) := ⟨jn_ok HV.out.ok_ HG.out.2, Bp.jn_grows HG.out.1⟩
    have HL0 : Hid ((Bp.beginL P b).length = b.length) := Bp.begin_len
    obtain ⟨l0, hl0⟩ : ∃ l0, Bp.beginL P b = l0 := ⟨_, rfl⟩
    rw [hl0] at hX HX HTK HL0
    rw [hX] at HBG
    unfold IsLE at HBG
    simp only at HBG
    clear hX hl0 hm
    go_enter Try.func20, Try.ntmps20
    go_wp2_with (fail)
    refine (HBG.out).mono ?_
    rintro e w1 ⟨A1, c1, rfl, ho1, hb1⟩
    have HB1 : Hid (Below W.heap.size W w1) := hb1
    have HO1 := Lib.hid ho1
    have d1 : w1.cell? ⟨w.heap.size, 0, none⟩ = some (.slice A P.length c) := (hb1.cell (p := ⟨w.heap.size, 0, none⟩) (by show w.heap.size < _; have := HSZ.out; omega)).trans d0
    have HBw : Hid (Below w.heap.size w w1) := HB0.out.trans (hb1.mono HB0.out.size)
    have HN := Lib.hid (pnew_row P (.slice A P.length c) l0 (.slice A1 l0.length c1) w1.heap.size w1 ((HV.out.below_ HBw.out HBB.out).mono_ (Nat.le_trans HBB.out HBw.out.size)) ho1.form_ (Nat.le_refl _) HG.out.1 HG.out.2 (by have := HL0.out; omega) HTK.out)
    clear ho1 hb1 HBG
    go_wp2_with (fail)
    refine (HN.out).mono ?_
    rintro e w2 ⟨rb, rfl, hr2, hb2⟩
    have HR2 := Lib.hid hr2
    have HB2 : Hid (Below w1.heap.size w1 w2) := hb2
    clear hr2 hb2 HN d1
    go_wp2
    go_loopg [] l0.length (fun g wr => ∃ l : List Int, l.length ≤ g ∧ Hid (IsRow wr rb w1.heap.size (Bp.jn P) l0.length l) ∧ Hid (Bp.nf (Bp.jn P) l = Bp.nf (Bp.jn P) l0) ∧ Hid (Below w1.heap.size w1 wr))
    case atStart => exact ⟨l0, Nat.le_refl _, HR2.out, rfl, HB2.out⟩
    case round =>
      obtain ⟨l, hlg, HR, HNF, HBr⟩ := hrel
      have HC := Lib.hid (prow_step HR.out HJ.out.1 HJ.out.2 (by have := HL0.out; omega) HBr.out.size)
      cases hs : Bp.stepOf (Bp.jn P) l with
      | none =>
        rw [hs] at HC
        have HF : Hid (Bp.encE P b = (l, 0)) := by unfold Hid; rw [HX.out, ← HNF.out, Bp.nf_none hs]
        clear hs
        go_wp2_with (fail)
        refine (HC.out).mono ?_
        rintro e w3 ⟨rfl, hr3, hb3⟩
        have HB3 : Hid (Below w1.heap.size w1 w3) := HBr.out.trans hb3
        have HLS := Lib.hid (plist_row hr3 (by have := HL0.out; omega))
        clear hr3 hb3 HC
        go_wp2_with (fail)
        refine (HLS.out).mono ?_
        rintro e w4 ⟨A4, c4, rfl, ho4, hb4⟩
        have HO4 := Lib.hid ho4
        have HB4 : Hid (Below w.heap.size w w4) := HBw.out.trans ((HB3.out.trans (hb4.mono HB3.out.size)).mono HBw.out.size)
        have HS3 : Hid (w.heap.size ≤ w3.heap.size) := by unfold Hid; have := HB3.out.size; have := HBw.out.size; omega
        clear ho4 hb4 HLS
        go_wp2
        go_ret2
        exact IsLE.of HF.out rfl rfl (HO4.out.mono_ HS3.out) HB4.out
      | some m =>
        rw [hs] at HC
        have hlen := Bp.step_len hs
        have HNM : Hid (Bp.nf (Bp.jn P) m = Bp.nf (Bp.jn P) l0) := by unfold Hid; rw [← HNF.out, ← Bp.nf_step hs]
        clear hs
        cases gk with
        | zero => omega
        | succ g =>
          go_wp2_with (fail)
          refine (HC.out).mono ?_
          rintro e w3 ⟨rfl, hr3, hb3⟩
          have HR3 : Hid (IsRow w3 rb w1.heap.size (Bp.jn P) l0.length m) := hr3
          have HB3 : Hid (Below w1.heap.size w1 w3) := HBr.out.trans hb3
          clear hr3 hb3 HC
          go_wp2
          go_roundg g
          case measure => omega
          case rel => exact ⟨m, by omega, HR3.out, HNM.out, HB3.out⟩
  · obtain ⟨E, hE, h1, h2⟩ : ∃ E : Nat, E ≠ 0 ∧ Bp.beginE P b = ([], E) ∧ Bp.encE P b = ([], E) := by
      unfold Bp.beginE Bp.encE
      by_cases hm : Vo.May P
      · have hbig : 4096 < b.length := by
          apply Decidable.byContradiction
          intro h
          exact hgood ⟨hm, by omega⟩
        exact ⟨3, by omega, by rw [if_pos hm, if_pos hbig], by rw [if_pos hm, if_pos hbig]⟩
      · exact ⟨11, by omega, by rw [if_neg hm], by rw [if_neg hm]⟩
    have HX := Lib.hid h2
    rw [h1] at HBG
    unfold IsLE at HBG
    simp only at HBG
    have hEb : ((E : Int) != 0) = true := by rw [bne_iff_ne]; omega
    clear h1 h2 hgood hE
    go_enter Try.func20, Try.ntmps20
    go_wp2_with (fail)
    refine (HBG.out).mono ?_
    rintro e w1 ⟨A1, c1, rfl, ho1, hb1⟩
    have HBw : Hid (Below w.heap.size w w1) := HB0.out.trans (hb1.mono HB0.out.size)
    clear ho1 hb1 HBG
    go_wp2
    go_ret2
    exact IsLE.none_b HX.out rfl HBw.out
end Go.Proofs.Ytaedhccmdbodlaa
namespace Go.Proofs.Ytaedhccmdbodlaa
open Go.RowKit
set_option linter.unusedVariables false

set_option maxHeartbeats 2000000 in
set_option maxRecDepth 100000 in
theorem pstep_all (P : List Vo.Pc) (v : Value) (l : List Int) (u : Value) (B : Nat) (w : World) (hv : Lv pK w B v P) (hu : Lv iK w B u l) (hB : B ≤ w.heap.size) :
    Calls Try.prog 18 #[.agg #[v], u] w (IsStep (Bp.stepE P l) w) := by
  obtain ⟨W, hW⟩ : ∃ W, w.alloc (.cells #[v] 24) = W := ⟨_, rfl⟩
  obtain ⟨d0, hsz, hb⟩ := boxed hW
  have HM := Lib.hid (pmay_be P v B W (hv.below_ hb hB) (Nat.le_trans hB hb.size))
  have HV := Lib.hid hv
  have HU := Lib.hid hu
  have HB0 := Lib.hid hb
  have HBB := Lib.hid hB
  have HSZ := Lib.hid hsz
  have HA : Hid (∀ w', Below w.heap.size w w' → Calls Try.prog 38 #[.agg #[v], u] w' (IsBool (decide (Bp.Toks P l)) w')) := fun w' hb' => pare_tokens P v l u B w' (hv.below_ hb' hB) (hu.below_ hb' hB) (Nat.le_trans hB hb'.size)
  have HN : Hid (∀ w', Below w.heap.size w w' → Vo.Good P → P.length ≤ 4096 → l.length ≤ 4096 → Bp.Toks P l → Calls Try.prog 39 #[.agg #[v], u] w' (fun e w'' => ∃ rb, e = .returned (.pointer (some ⟨rb, 0, none⟩)) ∧ IsRow w'' rb w'.heap.size (Bp.jn P) l.length l ∧ Below w'.heap.size w' w'')) := fun w' hb' g1 g2 g3 g4 => pnew_row P v l u B w' (hv.below_ hb' hB) (hu.below_ hb' hB) (Nat.le_trans hB hb'.size) g1 g2 g3 g4
  obtain ⟨A, c, rfl, -, -, -, -, -⟩ := hv
  obtain ⟨A2, c2, rfl, k1, k2, -, -, -⟩ := hu
  have hll : l.length ≤ 9223372036854775807 := by simp only [maxLen] at k2; omega
  clear hb hsz hB k1 k2
  by_cases hm : Vo.May P
  · rw [decide_eq_true hm] at HM
    by_cases hbig : 4096 < l.length
    · have HX : Hid (Bp.stepE P l = ([], false, 3)) := by unfold Hid Bp.stepE; rw [if_pos hm, if_pos hbig]
      have hbi : (4096 : Int) < (l.length : Int) := by omega
      clear hm hbig HA HN
      go_enter Try.func18, Try.ntmps18
      go_wp2_with (fail)
      refine (HM.out).mono ?_
      rintro e w1 ⟨rfl, hb1⟩
      have HB1 := Lib.hid (HB0.out.trans (hb1.mono HB0.out.size))
      clear hb1 HM
      go_wp2
      go_ret3
      exact IsStep.none_b HX.out rfl HB1.out
    · have HX : Hid (Bp.stepE P l = if Bp.Toks P l then (match Bp.stepOf (Bp.jn P) l with | none => (l, false, 0) | some m => (m, true, 0)) else ([], false, 2)) := (if_pos hm).trans (if_neg hbig)
      have hbi : ¬ (4096 : Int) < (l.length : Int) := by omega
      have HLN : Hid (l.length ≤ 4096) := by unfold Hid; omega
      have HG : Hid (Vo.Good P ∧ P.length ≤ 4096) := ⟨(Vo.may_iff.1 hm).2.1, (Vo.may_iff.1 hm).1⟩
      clear hm hbig
      by_cases ht : Bp.Toks P l
      · rw [decide_eq_true ht] at HA
        have HX2 : Hid (Bp.stepE P l = match Bp.stepOf (Bp.jn P) l with | none => (l, false, 0) | some m => (m, true, 0)) := HX.out.trans (if_pos ht)
        have HT := Lib.hid ht
        have HJ : Hid (JOk (Bp.jn P) ∧ Bp.Grows (Bp.jn P)) := ⟨jn_ok HV.out.ok_ HG.out.2, Bp.jn_grows HG.out.1⟩
        clear ht HX
        go_enter Try.func18, Try.ntmps18
        go_wp2_with (fail)
        refine (HM.out).mono ?_
        rintro e w1 ⟨rfl, hb1⟩
        have HB1 : Hid (Below W.heap.size W w1) := hb1
        have d1 : w1.cell? ⟨w.heap.size, 0, none⟩ = some (.slice A P.length c) := (hb1.cell (p := ⟨w.heap.size, 0, none⟩) (by show w.heap.size < _; have := HSZ.out; omega)).trans d0
        have HA1 := Lib.hid (HA.out w1 (HB0.out.trans (hb1.mono HB0.out.size)))
        clear hb1 HM HA
        go_wp2_with (fail)
        refine (HA1.out).mono ?_
        rintro e w2 ⟨rfl, hb2⟩
        have HB2 : Hid (Below W.heap.size W w2) := HB1.out.trans (hb2.mono HB1.out.size)
        have d2 : w2.cell? ⟨w.heap.size, 0, none⟩ = some (.slice A P.length c) := (HB2.out.cell (p := ⟨w.heap.size, 0, none⟩) (by show w.heap.size < _; have := HSZ.out; omega)).trans d0
        have HN2 := Lib.hid (HN.out w2 (HB0.out.trans (HB2.out.mono HB0.out.size)) HG.out.1 HG.out.2 HLN.out HT.out)
        clear hb2 HA1 HN d1
        go_wp2_with (fail)
        refine (HN2.out).mono ?_
        rintro e w3 ⟨rb, rfl, hr3, hb3⟩
        have HB3 : Hid (Below w.heap.size w w3) := (HB0.out.trans (HB2.out.mono HB0.out.size)).trans (hb3.mono (HB0.out.trans (HB2.out.mono HB0.out.size)).size)
        have HS2 : Hid (w.heap.size ≤ w2.heap.size ∧ w2.heap.size ≤ w3.heap.size) := ⟨(HB0.out.trans (HB2.out.mono HB0.out.size)).size, hb3.size⟩
        have HC := Lib.hid (prow_step hr3 HJ.out.1 HJ.out.2 HLN.out hb3.size)
        clear hr3 hb3 HN2 d2
        obtain ⟨d, hd⟩ : ∃ d, (Bp.stepOf (Bp.jn P) l).isSome = d := ⟨_, rfl⟩
        obtain ⟨m, hm⟩ : ∃ m, (Bp.stepOf (Bp.jn P) l).getD l = m := ⟨_, rfl⟩
        have HF : Hid (Bp.stepE P l = (m, d, 0)) := by
          unfold Hid
          rw [HX2.out, ← hd, ← hm]
          cases Bp.stepOf (Bp.jn P) l <;> rfl
        rw [hd, hm] at HC
        clear hd hm
        go_wp2_with (fail)
        refine (HC.out).mono ?_
        rintro e w4 ⟨rfl, hr4, hb4⟩
        have HB4 : Hid (Below w.heap.size w w4) := HB3.out.trans (hb4.mono HS2.out.1)
        have HLS := Lib.hid (plist_row hr4 HLN.out)
        clear hr4 hb4 HC
        go_wp2_with (fail)
        refine (HLS.out).mono ?_
        rintro e w5 ⟨A5, c5, rfl, ho5, hb5⟩
        have HO5 := Lib.hid ho5
        have HB5 : Hid (Below w.heap.size w w5) := HB4.out.trans (hb5.mono HB4.out.size)
        clear ho5 hb5 HLS
        go_wp2
        go_ret3
        exact IsStep.of HF.out rfl rfl (HO5.out.mono_ HB4.out.size) HB5.out
      · rw [decide_eq_false ht] at HA
        have HX2 : Hid (Bp.stepE P l = ([], false, 2)) := HX.out.trans (if_neg ht)
        clear ht HX HN
        go_enter Try.func18, Try.ntmps18
        go_wp2_with (fail)
        refine (HM.out).mono ?_
        rintro e w1 ⟨rfl, hb1⟩
        have HB1 : Hid (Below w.heap.size w w1) := HB0.out.trans (hb1.mono HB0.out.size)
        have d1 : w1.cell? ⟨w.heap.size, 0, none⟩ = some (.slice A P.length c) := (hb1.cell (p := ⟨w.heap.size, 0, none⟩) (by show w.heap.size < _; have := HSZ.out; omega)).trans d0
        have HA1 := Lib.hid (HA.out w1 HB1.out)
        clear hb1 HM HA
        go_wp2_with (fail)
        refine (HA1.out).mono ?_
        rintro e w2 ⟨rfl, hb2⟩
        have HB2 : Hid (Below w.heap.size w w2) := HB1.out.trans (hb2.mono HB1.out.size)
        clear hb2 HA1 d1
        go_wp2
        go_ret3
        exact IsStep.none_b HX2.out rfl HB2.out
  · rw [decide_eq_false hm] at HM
    have HX : Hid (Bp.stepE P l = ([], false, 11)) := if_neg hm
    clear hm HA HN
    go_enter Try.func18, Try.ntmps18
    go_wp2_with (fail)
    refine (HM.out).mono ?_
    rintro e w1 ⟨rfl, hb1⟩
    have HB1 := Lib.hid (HB0.out.trans (hb1.mono HB0.out.size))
    clear hb1 HM
    go_wp2
    go_ret3
    exact IsStep.none_b HX.out rfl HB1.out
end Go.Proofs.Ytaedhccmdbodlaa
namespace Go.Proofs.Ytaedhccmdbodlaa
open Go.RowKit
set_option linter.unusedVariables false

/-- What lay answers: these bytes, where u lay or in new memory. -/
theorem grown_any {w w' : World} {r : Option Nat} (h : w.grownBy w' none) : w.grownBy w' r := ⟨h.os, h.tape, h.output, h.size, fun k hk _ => h.block k hk (by simp)⟩
def IsLaid (base : Nat) (r : List Nat) (u : Value) (w : World) (e : Ending) (w' : World) : Prop :=
  ∃ A c, e = .returned (.slice A r.length c) ∧ OwnL yK w' base (.slice A r.length c) r ∧ w.grownBy w' u.ownBlock ∧ Moved w u (.slice A r.length c)
theorem grown_two {w w1 w2 : World} {u u1 u2 : Value} (h1 : w.grownBy w1 u.ownBlock) (m1 : Moved w u u1) (h2 : w1.grownBy w2 u1.ownBlock) (m2 : Moved w1 u1 u2) (hu : ∀ k, u.ownBlock = some k → k < w.heap.size) : w.grownBy w2 u.ownBlock ∧ Moved w u u2 := by
  refine ⟨⟨h2.os.trans h1.os, h2.tape.trans h1.tape, h2.output.trans h1.output, Nat.le_trans h1.size h2.size, fun k hk hne => ?_⟩, fun k hk => ?_⟩
  · refine (h2.block k (Nat.lt_of_lt_of_le hk h1.size) (fun e => ?_)).trans (h1.block k hk hne)
    rcases m1 k e.symm with h | h
    · exact hne h.symm
    · omega
  · rcases m2 k hk with h | h
    · exact m1 k h
    · exact .inr (Nat.le_trans h1.size h)

set_option maxHeartbeats 4000000 in
theorem play_tok (P : List Vo.Pc) (hg : Vo.Good P) (v : Value) (B : Nat) (base : Nat) (t : Nat) : ∀ (w : World) (u : Value) (l r : List Nat), r = l ++ Vo.text P t → t < P.length → Lv pK w B v P → B ≤ base → base ≤ w.heap.size → OwnL yK w base u l → l.length + (Vo.text P t).length ≤ 1000000 →
    Calls Try.prog 44 #[u, v, .int .i64 (t : Nat)] w (IsLaid base r u w) := by
  induction t using Nat.strongRecOn with
  | _ t ih =>
    intro w u l q hqe ht hv hBb hb hu hlen
    obtain ⟨A, c, rfl, _, _, _, _⟩ := id hv
    obtain ⟨Au, cu, rfl, _⟩ := hu.form_
    obtain ⟨b, off, p, rfl, hbB, hpok, hq, c0, c1, c2, c3, c4⟩ := hv.piece_ ht
    have hti : (t : Int) < (P.length : Int) := by omega
    obtain ⟨W, hW⟩ : ∃ W, w.alloc (.cells #[.bool p.join, .int .u8 (p.byte : Nat), .int .i64 p.left, .int .i64 p.right, .int .u32 (p.rank : Nat)] 42) = W := ⟨_, rfl⟩
    obtain ⟨⟨_, hx⟩, hbx⟩ := pboxed hW
    have x0 := hx 0 _ rfl
    have x1 := hx 1 _ rfl
    have x2 := hx 2 _ rfl
    have x3 := hx 3 _ rfl
    have HU := Lib.hid (hu.below_ hbx (Nat.le_refl _))
    have hlt := fun k hk => (hu.lt_ k hk).2
    have HG0 : Hid (w.grownBy W none) := by unfold Hid; rw [← hW]; exact World.grownBy_alloc w _ none
    have hbW : base ≤ W.heap.size := Nat.le_trans hb hbx.size
    have HVW := Lib.hid (hv.below_ (hbx.mono hb) hBb)
    have hsW : w.heap.size < W.heap.size := by rw [← hW]; simp
    have HLT := Lib.hid hlt
    clear hx hlt
    cases hj : p.join with
    | false =>
      rw [hj] at c0 hW x0
      have HX : Hid (Vo.text P t = [p.byte]) := Vo.text_byte hq hj
      have hpb : yK.ok p.byte := hpok.1
      rw [HX.out] at hlen hqe
      simp only [List.length_cons, List.length_nil, Nat.zero_add] at hlen
      have HQE := Lib.hid hqe
      clear hpok hq ih hj hv hu HX hbx hqe
      go_enter Try.func44, Try.ntmps44
      go_wp2_with (at_builtin; go_must (refine wpList_push_m _ yK rfl _ _ rfl base _ rfl l HU.out rfl p.byte hpb _ rfl _ rfl (by show _ * 1 ≤ _; omega) (by simp only [maxLen]; omega) hbW ?_; intro A3 c3 w3 hA hG hM))
      have HA := Lib.hid hA
      have HG := Lib.hid hG
      have HM := Lib.hid hM
      clear hA hG hM
      go_wp2
      go_ret
      have HQ2 : l.length + 1 = q.length := by rw [HQE.out]; simp
      rw [HQ2] at HA HM ⊢
      rw [← HQE.out] at HA
      exact ⟨A3, c3, rfl, HA.out, (grown_two (u := .slice Au l.length cu) (u1 := .slice Au l.length cu) (grown_any HG0.out) (fun k hk => .inl hk) HG.out HM.out HLT.out).1, (grown_two (u := .slice Au l.length cu) (u1 := .slice Au l.length cu) (grown_any HG0.out) (fun k hk => .inl hk) HG.out HM.out HLT.out).2⟩
    | true =>
      rw [hj] at c0 hW x0
      obtain ⟨hx, hl, hr, hl0, hr0⟩ := Vo.text_join hg hq hj
      obtain ⟨pj, pb, pl, pr, pk⟩ := p
      simp only at c0 c1 c2 c3 c4 hx hl hr hl0 hr0 hW x0 x1 x2 x3
      obtain ⟨L, rfl⟩ := Int.eq_ofNat_of_zero_le hl0
      obtain ⟨R, rfl⟩ := Int.eq_ofNat_of_zero_le hr0
      simp only [Int.toNat_natCast] at hx hl hr
      rw [hx, List.length_append] at hlen
      rw [hx, ← List.append_assoc] at hqe
      obtain ⟨q1, hq1⟩ : ∃ q1, q1 = l ++ Vo.text P L := ⟨_, rfl⟩
      rw [← hq1] at hqe
      have hq1l : q1.length = l.length + (Vo.text P L).length := by rw [hq1, List.length_append]
      have J1 := Lib.hid (ih L hl W.drew (.slice Au l.length cu) l q1 hq1 (by omega) HVW.out hBb hbW HU.out (by omega))
      have HR : Hid (∀ w' u', Below base W w' → OwnL yK w' base u' q1 → Calls Try.prog 44 #[u', .slice (some ⟨b, off, none⟩) P.length c, .int .i64 (R : Nat)] w' (IsLaid base q u' w')) := fun w' u' hb' ho' => ih R hr w' u' q1 q hqe (by omega) (HVW.out.below_ hb' hBb) hBb (Nat.le_trans hbW hb'.size) ho' (by omega)
      have HOWN := Lib.hid (fun k hk => (HU.out.lt_ k hk).1)
      have s0 : W.drew.cell? ⟨w.heap.size, 2, none⟩ = some (.int .i64 (L : Nat)) ∧ W.drew.cell? ⟨w.heap.size, 3, none⟩ = some (.int .i64 (R : Nat)) := ⟨x2, x3⟩
      have HNE : Hid (∀ w1 : World, W.drew.grownBy w1 (Value.slice Au l.length cu).ownBlock → w1.cell? ⟨w.heap.size, 2, none⟩ = some (.int .i64 (L : Nat)) ∧ w1.cell? ⟨w.heap.size, 3, none⟩ = some (.int .i64 (R : Nat))) := fun w1 g1 => by
        have hne : (Value.slice Au l.length cu).ownBlock ≠ some w.heap.size := fun e => absurd (HLT.out _ e) (Nat.lt_irrefl _)
        have e := g1.block w.heap.size hsW (fun e => hne e.symm)
        have ec : ∀ j, w1.cell? ⟨w.heap.size, j, none⟩ = W.cell? ⟨w.heap.size, j, none⟩ := fun j => by
          have e' : w1.heap[w.heap.size]? = W.heap[w.heap.size]? := e
          simp only [World.cell?, e']
        exact ⟨(ec 2).trans x2, (ec 3).trans x3⟩
      clear hpok hq ih hj hv hu hbx hx hl hr hl0 hr0 hqe hq1 hq1l
      go_enter Try.func44, Try.ntmps44
      go_wp2
      go_region_held3 (fun w' => w'.cell? ⟨w.heap.size, 2, none⟩ = some (.int .i64 (L : Nat)) ∧ w'.cell? ⟨w.heap.size, 3, none⟩ = some (.int .i64 (R : Nat))) (first | exact s0 | exact s1 | exact s2)
        (first
          | (go_at_call 44; (with_reducible refine J1.out.mono ?_); rintro e w1 ⟨A1, k1, rfl, o1, g1, m1⟩; have s1 := HNE.out w1 g1; have G1 := Lib.hid g1; have M1 := Lib.hid m1; have B1 := Lib.hid ((Below.refl base W).drew.grown g1 hbW (fun k hk => HOWN.out k hk)); have J2 := Lib.hid (HR.out w1 _ B1.out o1); clear o1 g1 m1)
          | (go_at_call 44; (with_reducible refine J2.out.mono ?_); rintro e w2 ⟨A2, k2, rfl, o2, g2, m2⟩; have s2 := HNE.out w2 (grown_two (u := .slice Au l.length cu) G1.out M1.out g2 m2 (fun k hk => Nat.lt_trans (HLT.out k hk) hsW)).1; have G2 := Lib.hid g2; have M2 := Lib.hid m2; have O2 := Lib.hid o2; clear o2 g2 m2))
      all_goals
        go_wp2
        go_ret
        have T1 := grown_two (u := .slice Au l.length cu) (u1 := .slice Au l.length cu) (grown_any HG0.out) (fun k hk => .inl hk) (show W.grownBy w1 _ from ⟨G1.out.os, G1.out.tape, G1.out.output, G1.out.size, G1.out.block⟩) M1.out HLT.out
        have T2 := grown_two (u := .slice Au l.length cu) T1.1 T1.2 G2.out M2.out HLT.out
        exact ⟨A2, k2, rfl, O2.out, T2.1, T2.2⟩

end Go.Proofs.Ytaedhccmdbodlaa
