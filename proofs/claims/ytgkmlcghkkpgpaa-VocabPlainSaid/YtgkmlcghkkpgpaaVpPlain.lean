/-
  vocab.Plain.
-/
import Derived.Test.YtgkmlcghkkpgpaaRVoG
import Derived.Test.YtgkmlcghkkpgpaaSetC
namespace Go.Proofs.Ytgkmlcghkkpgpaa
open Go.RowKit
set_option linter.unusedVariables false

namespace Vo
/-- The first k of them set, the others not yet. -/
def plainTo (k : Nat) : List Pc := plain k ++ List.replicate (256 - k) ⟨false, 0, 0, 0, 0⟩
theorem plainTo_len {k : Nat} (h : k ≤ 256) : (plainTo k).length = 256 := by simp [plainTo, plain_len]; omega
theorem plainTo_zero : plainTo 0 = List.replicate 256 ⟨false, 0, 0, 0, 0⟩ := rfl
theorem plainTo_all : plainTo 256 = plain 256 := by simp [plainTo]
theorem plainTo_at {k : Nat} (h : k < 256) : (plainTo k)[k]? = some ⟨false, 0, 0, 0, 0⟩ := by
  rw [plainTo, List.getElem?_append_right (by rw [plain_len]; omega), plain_len, Nat.sub_self, List.getElem?_replicate, if_pos (by omega)]
theorem plainTo_set {k : Nat} (h : k < 256) : (plainTo k).set k ⟨false, k, 0, 0, 0⟩ = plainTo (k + 1) := by
  have e : 256 - k = (256 - (k + 1)) + 1 := by omega
  rw [plainTo, plainTo, List.set_append_right _ _ (by rw [plain_len]; omega), plain_len, Nat.sub_self, e, List.replicate_succ, List.set_cons_zero, plain_succ, List.append_assoc]
  rfl
end Vo

set_option maxRecDepth 100000 in
set_option maxHeartbeats 1000000 in
theorem pplain_voc (w : World) : Calls Try.prog 15 #[] w (IsVoc (Vo.plain 256) w) := by
  obtain ⟨W, hW⟩ : ∃ W, w.alloc (.cells #[.slice none 0 0] 24) = W := ⟨_, rfl⟩
  have h0 : W.heap[w.heap.size]? = some (.cells #[.slice none 0 0] 24 (0, 0)) := by rw [← hW]; exact heap_alloc_new w _
  have HB : Hid (Below w.heap.size w W) := by unfold Hid; rw [← hW]; exact (Below.refl _ _).alloc (Nat.le_refl _) _
  have HSZ : Hid (W.heap.size = w.heap.size + 1) := by unfold Hid; rw [← hW]; simp
  have H0 := Lib.hid h0
  clear h0
  obtain ⟨N, hN⟩ : ∃ N : Nat, N = 256 := ⟨_, rfl⟩
  have hNi : (256 : Int) = (N : Int) := by omega
  have HN := Lib.hid hN
  have HNI := Lib.hid hNi
  have hNm : N ≤ 1000 := by omega
  clear hN hNi
  go_enter Try.func15, Try.ntmps15
  go_wp2_with (at_make; go_must (refine wpList_make_l _ pK rfl _ _ rfl W.heap.size .i64 .i64 _ _ N N rfl rfl HNI.out HNI.out (Nat.le_refl _) (by show 32 * _ ≤ _; omega) (by simp only [maxLen]; omega) (Nat.le_refl _) ?_; intro w1 hO hG))
  have HO1 : Hid (OwnL pK w1 W.heap.size (.slice (some ⟨W.heap.size, 0, none⟩) N N) (Vo.plainTo 0)) := by
    unfold Hid; rw [Vo.plainTo_zero, ← HN.out]; exact hO
  have HB1 : Hid (Below w.heap.size w w1) := HB.out.grown hG HB.out.size (fun k hk => by cases hk)
  have HC1 : Hid (w1.heap[w.heap.size]? = some (.cells #[.slice none 0 0] 24 (0, 0))) := (hG.block w.heap.size (by have := HSZ.out; omega) (by simp)).trans H0.out
  clear hO hG hNm
  rw [HN.out]
  rw [HN.out] at HO1
  go_wp2
  go_loopw [2, 6] (fun _ i wr => ∃ k : Nat, k ≤ 256 ∧ i = .int .i64 k ∧ Hid (wr.heap[w.heap.size]? = some (.cells #[.slice none 0 0] 24 (0, 0))) ∧ Hid (OwnL pK wr W.heap.size (.slice (some ⟨W.heap.size, 0, none⟩) 256 256) (Vo.plainTo k)) ∧ Below w.heap.size w wr) (fun _ i _ => 256 - (intOf i).toNat)
  case atStart => exact ⟨0, by omega, rfl, HC1.out, HO1.out, HB1.out⟩
  case round =>
    obtain ⟨k, hk, rfl, HR0, HO, hbr⟩ := hrel
    have HBr := Lib.hid hbr
    clear hbr
    by_cases hlt : k < 256
    · have hki : (k : Int) < 256 := by omega
      have hw8 : IntKind.u8.wrap (k : Int) = (k : Int) := by rw [IntKind.wrap_u8]; omega
      have HOK : Hid (PcOk ⟨false, k, 0, 0, 0⟩) := ⟨hlt, by unfold I64; simp, by unfold I64; simp, by simp⟩
      have hset := HO.out.setc_ (i := k) (j := 1) (u := .int .u8 (k : Nat)) (Vo.plainTo_at hlt) (by show 1 < 5; omega) (x' := ⟨false, k, 0, 0, 0⟩) rfl HOK.out
      rw [Vo.plainTo_set hlt] at hset
      obtain ⟨g0, x0, e0, _, _, _, hx0, hcell, hfro⟩ := HO.out.at_ (k := k) (by rw [Vo.plainTo_len hk]; exact hlt)
      obtain rfl : W.heap.size = g0 := by injection e0 with e0; injection e0
      rw [Vo.plainTo_at hlt] at hx0
      cases hx0
      have hc1 := hcell 1 _ rfl
      have hf1 := hfro (k * 5 + 1)
      have hs1 : pK.size = 5 := rfl
      rw [hs1] at hc1 hset
      simp only [Int.natCast_zero] at hc1
      obtain ⟨W2, hW2⟩ : ∃ W2, wr.setCell ⟨W.heap.size, k * 5 + 1, none⟩ (.int .u8 (k : Nat)) = W2 := ⟨_, rfl⟩
      rw [hW2] at hset
      have HR2 : Hid (W2.heap[w.heap.size]? = some (.cells #[.slice none 0 0] 24 (0, 0))) := by
        unfold Hid; rw [← hW2, heap_setCell_other _ _ _ _ (by have := HSZ.out; show w.heap.size ≠ W.heap.size; omega)]; exact HR0.out
      have HO2 := Lib.hid hset.1
      have HB2 : Hid (Below w.heap.size w W2) := by unfold Hid; rw [← hW2]; exact HBr.out.setCell (p := ⟨W.heap.size, k * 5 + 1, none⟩) HB.out.size _
      clear hset hcell hfro e0 HO HR0
      go_wp2
      go_roundw
      case rel => exact ⟨k + 1, hlt, by go_num, HR2.out, HO2.out, HB2.out⟩
      case measure => simp [intOf]; omega
    · obtain rfl : k = 256 := by omega
      have hc0 : wr.cell? ⟨w.heap.size, 0, none⟩ = some (.slice none 0 0) := by rw [cell_of_row _ _ 0 _ _ _ HR0.out]; rfl
      have hf0 : wr.frozen? ⟨w.heap.size, 0, none⟩ = false := frozen_of_row wr _ 0 _ _ HR0.out
      have HL : Hid ((Vo.plain 256).length = 256) := Vo.plain_len 256
      obtain ⟨W2, hW2⟩ : ∃ W2, wr.setCell ⟨w.heap.size, 0, none⟩ (.slice (some ⟨W.heap.size, 0, none⟩) 256 256) = W2 := ⟨_, rfl⟩
      have HO' : Hid (OwnL pK W2 W.heap.size (.slice (some ⟨W.heap.size, 0, none⟩) 256 256) (Vo.plain 256)) := by
        unfold Hid; rw [← hW2, ← Vo.plainTo_all]
        exact HO.out.of_block (fun g hg => heap_setCell_other _ _ _ _ (fun e => by have := (HO.out.lt_ g hg).1; have := HSZ.out; simp at e; omega))
      have HB2 : Hid (Below w.heap.size w W2) := by unfold Hid; rw [← hW2]; exact HBr.out.setCell (p := ⟨w.heap.size, 0, none⟩) (Nat.le_refl _) _
      have hc2 : W2.cell? ⟨w.heap.size, 0, none⟩ = some (.slice (some ⟨W.heap.size, 0, none⟩) 256 256) := by rw [← hW2, cell_of_row _ _ 0 _ _ _ (heap_setCell_same _ _ _ _ _ _ HR0.out)]; rfl
      clear HO
      go_wp2
      refine bodyPost_ret (v := .agg #[.slice (some ⟨W.heap.size, 0, none⟩) 256 256]) (by simp [results, Try.results15, go_sem, hc2]) rfl ⟨_, 256, by rw [HL.out], ?_, HB2.out⟩
      rw [HL.out]
      exact HO'.out.mono_ HB.out.size
end Go.Proofs.Ytgkmlcghkkpgpaa
