/-
  BpPro: What the calls of package bpe answer.
  RVoG: stookref08.Plain; stookref00.Vocab, CopyVocab.
  VoPl: The plain vocabulary: it may be.
-/
import Derived.Test.YtaedhccmdbodlaaPk15
import Derived.Test.YtaedhccmdbodlaaPk25
import Derived.Test.YtaedhccmdbodlaaPk26
import Derived.Test.YtaedhccmdbodlaaPk07
import Derived.Test.YtaedhccmdbodlaaPk11
namespace Go.Proofs.Ytaedhccmdbodlaa
open Go.RowKit
/-- How long a document or a row is that a law hands in. -/
def Bp.Few (n : Nat) : Prop := n ≤ 301 ∨ 4096 < n
theorem pbegin_any (P : List Vo.Pc) (v : Value) (b : List Nat) (u : Value) (B : Nat) (w : World) (hv : Lv pK w B v P) (hu : Lv yK w B u b) (hB : B ≤ w.heap.size) (_ : P.length ≤ 501) (_ : Bp.Few b.length) :
    Calls Try.prog 15 #[.agg #[v], u] w (IsLE iK (Bp.beginE P b) w) := pbegin_big P v b u B w hv hu hB
theorem pstep_any (P : List Vo.Pc) (v : Value) (l : List Int) (u : Value) (B : Nat) (w : World) (hv : Lv pK w B v P) (hu : Lv iK w B u l) (hB : B ≤ w.heap.size) (_ : P.length ≤ 501) (_ : Bp.Few l.length) :
    Calls Try.prog 18 #[.agg #[v], u] w (IsStep (Bp.stepE P l) w) := pstep_all P v l u B w hv hu hB
theorem pencode_any (P : List Vo.Pc) (v : Value) (b : List Nat) (u : Value) (B : Nat) (w : World) (hv : Lv pK w B v P) (hu : Lv yK w B u b) (hB : B ≤ w.heap.size) (_ : P.length ≤ 501) (_ : Bp.Few b.length) :
    Calls Try.prog 20 #[.agg #[v], u] w (IsLE iK (Bp.encE P b) w) := pencode_all P v b u B w hv hu hB
theorem pdecode_any (P : List Vo.Pc) (v : Value) (l : List Int) (u : Value) (B : Nat) (w : World) (hv : Lv pK w B v P) (hu : Lv iK w B u l) (hB : B ≤ w.heap.size) (_ : P.length ≤ 501) (_ : Bp.Few l.length) :
    Calls Try.prog 22 #[.agg #[v], u] w (IsLE yK (Bp.decE P l) w) := pdecode_all P v l u B w hv hu hB
end Go.Proofs.Ytaedhccmdbodlaa
namespace Go.Proofs.Ytaedhccmdbodlaa
open Go.RowKit
set_option linter.unusedVariables false

namespace Vo
def plain (n : Nat) : List Pc := (List.range n).map (fun b => ⟨false, b, 0, 0, 0⟩)
theorem plain_len (n : Nat) : (plain n).length = n := by simp [plain]
theorem plain_succ (n : Nat) : plain (n + 1) = plain n ++ [⟨false, n, 0, 0, 0⟩] := by simp [plain, List.range_succ]
end Vo
/-- A call that answers a vocabulary of these pieces in new memory. -/
def IsVoc (P : List Vo.Pc) (w : World) (e : Ending) (w' : World) : Prop :=
  ∃ A c, e = .returned (.agg #[.slice A P.length c]) ∧ OwnL pK w' w.heap.size (.slice A P.length c) P ∧ Below w.heap.size w w'

set_option maxHeartbeats 1000000 in
theorem rplain_any (w : World) : Calls Try.prog 33 #[] w (IsVoc (Vo.plain 256) w) := by
  obtain ⟨W, hW⟩ : ∃ W, (w.alloc (.cells #[.slice none 0 0] 24)).alloc (.cells #[.slice none 0 0] 24) = W := ⟨_, rfl⟩
  have h0 : W.heap[w.heap.size]? = some (.cells #[.slice none 0 0] 24 (0, 0)) := by rw [← hW]; exact (heap_alloc_old _ _ (by simp)).trans (heap_alloc_new w _)
  have h1 : W.heap[w.heap.size + 1]? = some (.cells #[.slice none 0 0] 24 (0, 0)) := by
    have e : (w.alloc (.cells #[.slice none 0 0] 24)).heap.size = w.heap.size + 1 := by simp
    rw [← hW, ← e]; exact heap_alloc_new _ _
  have HB : Hid (Below w.heap.size w W) := by unfold Hid; rw [← hW]; exact ((Below.refl _ _).alloc (Nat.le_refl _) _).alloc (by simp) _
  have HSZ : Hid (W.heap.size = w.heap.size + 2) := by unfold Hid; rw [← hW]; simp
  have H0 := Lib.hid h0
  have H1 := Lib.hid h1
  clear h0 h1
  go_enter Try.func33, Try.ntmps33
  go_wp2
  go_loopw [2] (fun i wr => ∃ (k : Nat) (A : Option Addr) (c : Nat), k ≤ 256 ∧ i = .int .i64 k ∧ Hid (wr.heap[w.heap.size]? = some (.cells #[.slice none 0 0] 24 (0, 0))) ∧ Hid (wr.heap[w.heap.size + 1]? = some (.cells #[.slice A k c] 24 (0, 0))) ∧ Hid (OwnL pK wr W.heap.size (.slice A k c) (Vo.plain k)) ∧ Below w.heap.size w wr) (fun i _ => 256 - (intOf i).toNat)
  case atStart => exact ⟨0, none, 0, by omega, rfl, H0.out, H1.out, OwnL.nil_ _ _ _, HB.out⟩
  case round =>
    obtain ⟨k, A, c, hk, rfl, HR0, HR1, HO, hbr⟩ := hrel
    have HBr := Lib.hid hbr
    have hs := hbr.size
    have hsz := HSZ.out
    have hlt1 : w.heap.size + 1 < wr.heap.size := (Array.getElem?_eq_some_iff.1 HR1.out).1
    have HAP : Hid (∀ g, (Value.slice A k c).ownBlock = some g → w.heap.size + 2 ≤ g) := fun g hg => by have := (HO.out.lt_ g hg).1; omega
    have hc1 : wr.cell? ⟨w.heap.size + 1, 0, none⟩ = some (.slice A k c) := by rw [cell_of_row _ _ 0 _ _ _ HR1.out]; rfl
    clear hbr
    by_cases hlt : k < 256
    · have hki : (k : Int) < 256 := by omega
      have hw8 : IntKind.u8.wrap (k : Int) = (k : Int) := by rw [IntKind.wrap_u8]; omega
      have HOK : Hid (PcOk ⟨false, k, 0, 0, 0⟩) := ⟨hlt, by unfold I64; simp, by unfold I64; simp, by simp⟩
      have HL : Hid ((Vo.plain k).length = k) := Vo.plain_len k
      have hbase : W.heap.size ≤ wr.heap.size := by omega
      have HK : Hid (k + 1 ≤ 256) := hlt
      go_wp2_with (at_builtin; go_must (refine wpList_push_l _ pK rfl _ _ rfl W.heap.size _ rfl (Vo.plain k) HO.out rfl ⟨false, k, 0, 0, 0⟩ HOK.out _ rfl _ rfl (by rw [HL.out]; show _ * 32 ≤ _; omega) (by rw [HL.out]; simp only [maxLen]; omega) hbase ?_; intro A3 c3 w2 hA hG; have hh4 := (hG.block (w.heap.size + 1) hlt1 (fun e => by have := HAP.out _ e.symm; omega)).trans HR1.out; have hc4 : w2.cell? ⟨w.heap.size + 1, 0, none⟩ = some (.slice A k c) := (by rw [cell_of_row _ _ 0 _ _ _ hh4]; rfl); have hf4 : w2.frozen? ⟨w.heap.size + 1, 0, none⟩ = false := frozen_of_row w2 _ 0 _ _ hh4))
      have hh0 := (hG.block w.heap.size (by omega) (fun e => by have := HAP.out _ e.symm; omega)).trans HR0.out
      have hbw : w.heap.size ≤ wr.heap.size := by omega
      have HB2 := Lib.hid ((HBr.out.grown hG hbw (fun g hg => by have := HAP.out g hg; omega)).setCell (p := ⟨w.heap.size + 1, 0, none⟩) (Nat.le_succ _) (.slice A3 (k + 1) c3))
      rw [HL.out] at hA ⊢
      have HR0' : Hid ((w2.setCell ⟨w.heap.size + 1, 0, none⟩ (.slice A3 (k + 1) c3)).heap[w.heap.size]? = some (.cells #[.slice none 0 0] 24 (0, 0))) := by
        unfold Hid; rw [heap_setCell_other _ _ _ _ (by simp)]; exact hh0
      have HR1' : Hid ((w2.setCell ⟨w.heap.size + 1, 0, none⟩ (.slice A3 (k + 1) c3)).heap[w.heap.size + 1]? = some (.cells #[.slice A3 (k + 1) c3] 24 (0, 0))) := by
        unfold Hid; rw [heap_setCell_same _ _ _ _ _ _ hh4]; rfl
      have HO' : Hid (OwnL pK (w2.setCell ⟨w.heap.size + 1, 0, none⟩ (.slice A3 (k + 1) c3)) W.heap.size (.slice A3 (k + 1) c3) (Vo.plain (k + 1))) := by
        unfold Hid
        rw [Vo.plain_succ]
        exact hA.of_block (fun g hg => heap_setCell_other _ _ _ _ (fun e => by have := (hA.lt_ g hg).1; simp at e; omega))
      clear hA hG hh4 hc4 hf4 hh0 HO HL HOK hbase hsz hlt1
      go_wp2
      go_roundw
      case rel => exact ⟨k + 1, A3, c3, HK.out, by go_num, HR0'.out, HR1'.out, HO'.out, HB2.out⟩
      case measure => simp [intOf]; omega
    · obtain rfl : k = 256 := by omega
      have hc0 : wr.cell? ⟨w.heap.size, 0, none⟩ = some (.slice none 0 0) := by rw [cell_of_row _ _ 0 _ _ _ HR0.out]; rfl
      have hf0 : wr.frozen? ⟨w.heap.size, 0, none⟩ = false := frozen_of_row wr _ 0 _ _ HR0.out
      have HL : Hid ((Vo.plain 256).length = 256) := Vo.plain_len 256
      have HO' : Hid (OwnL pK (wr.setCell ⟨w.heap.size, 0, none⟩ (.slice A 256 c)) W.heap.size (.slice A 256 c) (Vo.plain 256)) := HO.out.of_block (fun g hg => heap_setCell_other _ _ _ _ (fun e => by have := HAP.out g hg; simp at e; omega))
      have HB2 := Lib.hid (HBr.out.setCell (p := ⟨w.heap.size, 0, none⟩) (Nat.le_refl _) (.slice A 256 c))
      obtain ⟨W2, hW2⟩ : ∃ W2, wr.setCell ⟨w.heap.size, 0, none⟩ (.slice A 256 c) = W2 := ⟨_, rfl⟩
      have hc2 : W2.cell? ⟨w.heap.size, 0, none⟩ = some (.slice A 256 c) := by rw [← hW2, cell_of_row _ _ 0 _ _ _ (heap_setCell_same _ _ _ _ _ _ HR0.out)]; rfl
      rw [hW2] at HO' HB2
      clear HO
      go_wp2
      refine bodyPost_ret (v := .agg #[.slice A 256 c]) (by simp [results, Try.results33, go_sem, hc2]) rfl ⟨A, c, by rw [HL.out], ?_, HB2.out⟩
      rw [HL.out]
      exact HO'.out.mono_ (by omega)

set_option maxHeartbeats 1000000 in
theorem copyvoc_any (P : List Vo.Pc) (v : Value) (B : Nat) (w : World) (hv : Lv pK w B v P) (hB : B ≤ w.heap.size) (hP : P.length ≤ 4194304) :
    Calls Try.prog 25 #[.agg #[v]] w (IsVoc P w) := by
  obtain ⟨A, c, rfl, _, _, _, _⟩ := id hv
  obtain ⟨W, hW⟩ : ∃ W, (w.alloc (.cells #[.slice A P.length c] 24)).alloc (.cells #[.slice none 0 0] 24) = W := ⟨_, rfl⟩
  have d0 : W.cell? ⟨w.heap.size, 0, none⟩ = some (.slice A P.length c) := by
    rw [← hW, cell_of_row _ w.heap.size 0 _ _ _ ((heap_alloc_old _ _ (by simp)).trans (heap_alloc_new w _))]; rfl
  have h1 : W.heap[w.heap.size + 1]? = some (.cells #[.slice none 0 0] 24 (0, 0)) := by
    have e : (w.alloc (.cells #[.slice A P.length c] 24)).heap.size = w.heap.size + 1 := by simp
    rw [← hW, ← e]; exact heap_alloc_new _ _
  have HB : Hid (Below w.heap.size w W) := by unfold Hid; rw [← hW]; exact ((Below.refl _ _).alloc (Nat.le_refl _) _).alloc (by simp) _
  have hsz : W.heap.size = w.heap.size + 2 := by rw [← hW]; simp
  have HV := Lib.hid (hv.below_ HB.out hB)
  have H1 := Lib.hid h1
  have HSZ := Lib.hid hsz
  have hle : W.heap.size ≤ W.heap.size := Nat.le_refl _
  clear h1 hsz
  go_enter Try.func25, Try.ntmps25
  go_wp2_with (at_builtin; go_must (refine wpList_append_l _ pK rfl _ _ rfl W.heap.size (.slice none 0 0) rfl [] (OwnL.nil_ _ _ _) _ rfl B P HV.out (by show (_ + _) * 32 ≤ _; simp only [List.length_nil]; omega) (by simp only [List.length_nil, maxLen]; omega) (Nat.le_refl _) ?_))
  intro A3 c3 w3 hA hG
  have hh := (hG.block (w.heap.size + 1) (by have := HSZ.out; omega) (by simp [Value.ownBlock])).trans H1.out
  have hc0 : w3.cell? ⟨w.heap.size + 1, 0, none⟩ = some (.slice none 0 0) := by rw [cell_of_row _ _ 0 _ _ _ hh]; rfl
  have hf0 : w3.frozen? ⟨w.heap.size + 1, 0, none⟩ = false := frozen_of_row w3 _ 0 _ _ hh
  obtain ⟨W2, hW2⟩ : ∃ W2, w3.setCell ⟨w.heap.size + 1, 0, none⟩ (.slice A3 P.length c3) = W2 := ⟨_, rfl⟩
  have hc2 : W2.cell? ⟨w.heap.size + 1, 0, none⟩ = some (.slice A3 P.length c3) := by rw [← hW2, cell_of_row _ _ 0 _ _ _ (heap_setCell_same w3 _ 0 _ _ _ hh)]; rfl
  have HO' : Hid (OwnL pK W2 W.heap.size (.slice A3 P.length c3) P) := by
    unfold Hid; rw [← hW2]
    exact hA.of_block (fun g hg => heap_setCell_other _ _ _ _ (fun e => by have := (hA.lt_ g hg).1; have := HSZ.out; simp at e; omega))
  have HB2 : Hid (Below w.heap.size w W2) := by
    unfold Hid; rw [← hW2]
    exact (HB.out.grown hG HB.out.size (fun k hk => by simp [Value.ownBlock] at hk)).setCell (p := ⟨w.heap.size + 1, 0, none⟩) (Nat.le_succ _) _
  clear hA hG hh
  go_wp2
  refine bodyPost_ret (v := .agg #[.slice A3 P.length c3]) (by simp [results, Try.results25, go_sem, hc2]) rfl ⟨A3, c3, rfl, ?_, HB2.out⟩
  exact HO'.out.mono_ (by have := HSZ.out; omega)

set_option maxHeartbeats 1000000 in
theorem voc_any (P Q : List Vo.Pc) (v u : Value) (B B' : Nat) (w : World) (hv : Lv pK w B v P) (hu : Lv pK w B' u Q) (hB : B ≤ w.heap.size) (hB' : B' ≤ w.heap.size) :
    Calls Try.prog 30 #[.agg #[v], .agg #[u]] w (IsBool (decide (P = Q)) w) := by
  obtain ⟨A, c, rfl, h1, h2, _, _⟩ := id hv
  obtain ⟨A', c', rfl, h1', h2', _, _⟩ := id hu
  have hm : P.length ≤ 9223372036854775807 := by simp only [maxLen] at h2; omega
  have hm' : Q.length ≤ 9223372036854775807 := by simp only [maxLen] at h2'; omega
  clear h1 h2 h1' h2'
  obtain ⟨W, hW⟩ : ∃ W, (w.alloc (.cells #[.slice A P.length c] 24)).alloc (.cells #[.slice A' Q.length c'] 24) = W := ⟨_, rfl⟩
  have d0 : W.cell? ⟨w.heap.size, 0, none⟩ = some (.slice A P.length c) := by
    rw [← hW, cell_of_row _ w.heap.size 0 _ _ _ ((heap_alloc_old _ _ (by simp)).trans (heap_alloc_new w _))]; rfl
  have d1 : W.cell? ⟨w.heap.size + 1, 0, none⟩ = some (.slice A' Q.length c') := by
    have e : (w.alloc (.cells #[.slice A P.length c] 24)).heap.size = w.heap.size + 1 := by simp
    rw [← hW, ← e, cell_of_row _ _ 0 _ _ _ (heap_alloc_new _ _)]; rfl
  have HB : Hid (Below w.heap.size w W) := by unfold Hid; rw [← hW]; exact ((Below.refl _ _).alloc (Nat.le_refl _) _).alloc (by simp) _
  have HSZ : Hid (W.heap.size = w.heap.size + 2) := by unfold Hid; rw [← hW]; simp
  have HV := Lib.hid (hv.below_ HB.out hB)
  have HU := Lib.hid (hu.below_ HB.out hB')
  by_cases hl : P.length = Q.length
  · have hlb : ((P.length : Int) != (Q.length : Int)) = false := by rw [hl]; simp
    have HL := Lib.hid hl
    clear hl
    go_enter Try.func30, Try.ntmps30
    go_wp2
    go_loopw [5] (fun s wr => ∃ k : Nat, k ≤ P.length ∧ s = .int .i64 k ∧ Hid (P.take k = Q.take k) ∧ Below W.heap.size W wr) (fun s _ => P.length - (intOf s).toNat)
    case atStart => exact ⟨0, by omega, rfl, rfl, Below.refl _ _⟩
    case round =>
      obtain ⟨k, hk, rfl, HT, hbr⟩ := hrel
      have hll := HL.out
      have hsz := HSZ.out
      have f0 := (hbr.cell (p := ⟨w.heap.size, 0, none⟩) (by show w.heap.size < _; omega)).trans d0
      have f1 := (hbr.cell (p := ⟨w.heap.size + 1, 0, none⟩) (by show w.heap.size + 1 < _; omega)).trans d1
      have HBw := Lib.hid (HB.out.trans (hbr.mono HB.out.size))
      have hvr := HV.out.below_ hbr (Nat.le_trans hB HB.out.size)
      have hur := HU.out.below_ hbr (Nat.le_trans hB' HB.out.size)
      have HBr := Lib.hid hbr
      clear hbr d0 d1 hsz
      by_cases hlt : k < P.length
      · obtain ⟨b, off, q, rfl, hbB, hqok, hq, q0, q1, q2, q3, q4⟩ := hvr.piece_ hlt
        obtain ⟨b', off', q', rfl, hbB', hqok', hq', q0', q1', q2', q3', q4'⟩ := hur.piece_ (k := k) (by omega)
        have hki : (k : Int) < (P.length : Int) := by omega
        have hki' : (k : Int) < (Q.length : Int) := by omega
        have hne := fun w => pc_neq q q' w
        have hgd := pc_guard
        unfold pcV at hne
        obtain ⟨t, ht⟩ : ∃ t, Vo.eqB q q' = t := ⟨_, rfl⟩
        rw [ht] at hne
        have HE := Lib.hid ht
        have HQ : Hid (P[k]? = some q ∧ Q[k]? = some q') := ⟨hq, hq'⟩
        clear hll ht hq hq' hqok hqok' hvr hur
        cases t with
        | true =>
          have HT2 : Hid (P.take (k + 1) = Q.take (k + 1)) := (take_both HT.out HQ.out.1 HQ.out.2).2 (Vo.eqB_iff.1 HE.out)
          go_wp2
          go_quiet (fail)
          go_wp2
          go_roundw
          case rel => exact ⟨k + 1, hlt, by go_num, HT2.out, below_drewN HBr.out _⟩
          case measure => simp [intOf]; omega
        | false =>
          have HU2 : Hid (P ≠ Q) := fun h => by
            have h2 := HQ.out
            rw [h] at h2
            have e := Option.some.inj (h2.1.symm.trans h2.2)
            have := Vo.eqB_iff.2 e
            rw [HE.out] at this
            cases this
          go_wp2
          go_quiet (fail)
          go_wp2
          go_ret
          exact ⟨by rw [decide_eq_false HU2.out]; rfl, below_drewN HBw.out _⟩
      · have hlt' : ¬ (k : Int) < (P.length : Int) := by omega
        have HE : Hid (P = Q) := take_whole HT.out (by omega) (by omega)
        clear hll
        go_wp2
        go_ret
        exact ⟨by rw [decide_eq_true HE.out]; rfl, HBw.out⟩
  · have hlb : ((P.length : Int) != (Q.length : Int)) = true := by rw [bne_iff_ne]; omega
    have HU2 : Hid (P ≠ Q) := fun h => hl (by rw [h])
    clear hl
    go_enter Try.func30, Try.ntmps30
    go_wp2
    go_ret
    exact ⟨by rw [decide_eq_false HU2.out]; rfl, HB.out⟩
end Go.Proofs.Ytaedhccmdbodlaa
namespace Go.Proofs.Ytaedhccmdbodlaa.Vo
set_option linter.unusedVariables false

theorem texts_plain (n : Nat) : texts (plain n) = (List.range n).map (fun b => [b]) := by
  induction n with
  | zero => rfl
  | succ n ih => rw [plain_succ, texts_snoc, ih, List.range_succ, List.map_append]; rfl
theorem plain_at {n k : Nat} (h : k < n) : (plain n)[k]? = some ⟨false, k, 0, 0, 0⟩ := by simp [plain, h]
theorem plain_take {n k : Nat} (h : k ≤ n) : (plain n).take k = plain k := by
  unfold plain
  rw [← List.map_take, List.take_range, Nat.min_eq_left h]
theorem good_plain (n : Nat) : Good (plain n) := by
  intro k p hk
  have hl : k < n := by have := (List.getElem?_eq_some_iff.1 hk).1; rwa [plain_len] at this
  rw [plain_at hl] at hk
  obtain rfl := Option.some.inj hk
  rw [plain_take (by omega)]
  unfold errAt
  have hb : hasByte (plain k) ⟨false, k, 0, 0, 0⟩ = false := by
    unfold hasByte
    rw [List.any_eq_false]
    intro q hq
    simp only [plain, List.mem_map, List.mem_range] at hq
    obtain ⟨b, hb, rfl⟩ := hq
    simp
    omega
  rw [if_neg (by simp), if_neg (by simp), if_neg (by rw [hb]; simp)]
theorem bytesOf_plain (n : Nat) : bytesOf (plain n) = n := by
  unfold bytesOf
  rw [List.filter_eq_self.2 (by intro q hq; simp only [plain, List.mem_map, List.mem_range] at hq; obtain ⟨b, hb, rfl⟩ := hq; rfl), plain_len]
theorem may_plain : May (plain 256) := may_iff.2 ⟨by rw [plain_len]; omega, good_plain _, by rw [bytesOf_plain]; exact Nat.le_refl _⟩
end Go.Proofs.Ytaedhccmdbodlaa.Vo
