/-
  stooklaw08.works.
-/
import Derived.Test.YtgkmlcghkkpgpaaVoEx
import Derived.Test.YtgkmlcghkkpgpaaVoPro
import Derived.Test.YtgkmlcghkkpgpaaInts
import Derived.Test.YtgkmlcghkkpgpaaTurn
import Derived.Laws.BytesArg
namespace Go.Proofs.Ytgkmlcghkkpgpaa
open Go.RowKit
set_option linter.unusedVariables false

/-- A text of bytes that are read as a list. -/
theorem text_of {w : World} {B n c : Nat} {A : Option Addr} {l : List Nat} (h : Lv yK w B (.slice A n c) l) (h0 : 0 < l.length) :
    (convert 36 9 (.slice A n c)).run Try.prog w = .ok (.string (strOfNums (l.map (fun x : Nat => (x : Int))))) w := by
  obtain ⟨hn, _, _⟩ := h.len_
  obtain ⟨b, off, x, rfl, _⟩ := h.byte_ h0
  refine run_convert_bytes_arg w _ 5 Try.underlying36 Try.underlying5 b off n c _ (by simp [hn]) (fun i hi => ?_) _ Try.underlying9
  obtain ⟨b2, off2, y, e, _, _, hy, hc⟩ := h.byte_ (k := i) (by omega)
  obtain ⟨rfl, rfl⟩ : b = b2 ∧ off = off2 := by injection e with e; injection e with e1 e2; exact ⟨e1, e2⟩
  rw [hc]
  congr 2
  simp [List.getD_eq_getElem?_getD, hy]

set_option maxRecDepth 100000 in
set_option maxHeartbeats 2000000 in
theorem works_voc (w : World) : Calls Try.prog 13 #[] w (IsBool true w) := by
  have HP := Lib.hid (pplain_voc w)
  go_enter Try.func13, Try.ntmps13
  go_wp2_with (fail)
  refine (HP.out).mono ?_
  rintro e w1 ⟨A, c, rfl, ho, hb⟩
  rw [Vo.plain_len] at ho ⊢
  have hb1 := hb.size
  -- the box
  obtain ⟨W1, hW1⟩ : ∃ W1, w1.alloc (.cells #[.slice A 256 c] 24) = W1 := ⟨_, rfl⟩
  obtain ⟨hc1, hs1, hbx⟩ := boxed hW1
  have hh1 : W1.heap[w1.heap.size]? = some (.cells #[.slice A 256 c] 24 (0, 0)) := by rw [← hW1]; exact heap_alloc_new w1 _
  have HO1 : Hid (OwnL pK W1 w.heap.size (.slice A 256 c) (Vo.plain 256)) := by unfold Hid; rw [← hW1]; exact ho.alloc_ _
  have HLT : Hid (∀ k, (Value.slice A 256 c).ownBlock = some k → k < w1.heap.size) := fun k hk => (ho.lt_ k hk).2
  have HB1 := Lib.hid (hb.trans (hbx.mono hb1))
  have HH1 := Lib.hid hh1
  have hbase : w.heap.size ≤ W1.heap.size := by omega
  have HL : Hid ((Vo.plain 256).length = 256) := Vo.plain_len 256
  have HKA : Hid (PcOk Vo.jA) := by simp [Hid, PcOk, Vo.jA, I64]
  have HKB : Hid (PcOk Vo.jB) := by simp [Hid, PcOk, Vo.jB, I64]
  clear ho hb hbx HP hh1
  have HAP3 : Hid (∀ k, (Value.slice A 256 c).ownBlock = some k → k ≠ w1.heap.size) := fun k hk e => by have := HLT.out k hk; omega
  go_wp2_with (at_builtin; go_must (refine wpList_push_m _ pK rfl _ _ rfl w.heap.size _ rfl (Vo.plain 256) HO1.out (by rw [hs1]; rfl) Vo.jA HKA.out _ rfl _ rfl (by rw [HL.out]; show _ * 32 ≤ _; omega) (by rw [HL.out]; simp only [maxLen]; omega) hbase ?_))
  intro A3 c3 w3 hA hG hM
  rw [HL.out] at hA hM ⊢
  have hh := (hG.block w1.heap.size (by omega) (fun e => (HAP3.out _ e.symm) rfl)).trans HH1.out
  have hcb : w3.cell? ⟨w1.heap.size, 0, none⟩ = some (.slice A 256 c) := by rw [cell_of_row _ _ 0 _ _ _ hh]; rfl
  have hfb : w3.frozen? ⟨w1.heap.size, 0, none⟩ = false := frozen_of_row w3 _ 0 _ _ hh
  obtain ⟨V3, hV3⟩ : ∃ V, w3.setCell ⟨w1.heap.size, 0, none⟩ (.slice A3 257 c3) = V := ⟨_, rfl⟩
  have hh' := heap_setCell_same w3 w1.heap.size 0 _ _ (.slice A3 257 c3) hh
  rw [hV3] at hh'
  have hcv3 : V3.cell? ⟨w1.heap.size, 0, none⟩ = some (.slice A3 257 c3) := by rw [cell_of_row _ _ 0 _ _ _ hh']; rfl
  have hap : ∀ k, (Value.slice A3 257 c3).ownBlock = some k → k ≠ w1.heap.size := fun k hk e => by
    rcases hM k hk with h | h
    · exact HAP3.out k h e
    · omega
  have HOV3 : Hid (OwnL pK V3 w.heap.size (.slice A3 257 c3) (Vo.plain 256 ++ [Vo.jA])) := by unfold Hid; rw [← hV3]; exact hA.of_block (fun k hk => heap_setCell_other _ _ _ _ (fun e => hap k hk e))
  have HHV3 := Lib.hid hh'
  have HBV3 : Hid (Below w.heap.size w V3) := by unfold Hid; rw [← hV3]; exact (HB1.out.grown hG hbase (fun k hk => (HO1.out.lt_ k hk).1)).setCell (p := ⟨w1.heap.size, 0, none⟩) hb1 _
  have hzV3 : w1.heap.size + 1 ≤ V3.heap.size := by rw [← hV3]; have := hG.size; simp; omega
  have HAPV3 := Lib.hid hap
  have hbase3 : w.heap.size ≤ V3.heap.size := by omega
  clear hA hG hM hh hh' hap
  obtain ⟨L4, hL4⟩ : ∃ L, Vo.plain 256 ++ [Vo.jA] = L := ⟨_, rfl⟩
  have HL4 : Hid (L4.length = 257) := by unfold Hid; rw [← hL4]; exact Vo.len_A
  have HEX : Hid (L4 ++ [Vo.jB] = Vo.ex) := by unfold Hid; rw [← hL4]; rfl
  rw [hL4] at HOV3
  clear hL4
  have HAP4 := HAPV3
  clear HAP3 HAPV3 HH1 hs1 hc1 HO1 HB1 HLT
  go_wp2_with (at_builtin; go_must (refine wpList_push_m _ pK rfl _ _ rfl w.heap.size _ rfl (L4) HOV3.out rfl Vo.jB HKB.out _ rfl _ rfl (by rw [HL4.out]; show _ * 32 ≤ _; omega) (by rw [HL4.out]; simp only [maxLen]; omega) hbase3 ?_))
  intro A4 c4 w4 hA hG hM
  rw [HL4.out] at hA hM ⊢
  have hh := (hG.block w1.heap.size (by omega) (fun e => (HAP4.out _ e.symm) rfl)).trans HHV3.out
  have hcb : w4.cell? ⟨w1.heap.size, 0, none⟩ = some (.slice A3 257 c3) := by rw [cell_of_row _ _ 0 _ _ _ hh]; rfl
  have hfb : w4.frozen? ⟨w1.heap.size, 0, none⟩ = false := frozen_of_row w4 _ 0 _ _ hh
  obtain ⟨V4, hV4⟩ : ∃ V, w4.setCell ⟨w1.heap.size, 0, none⟩ (.slice A4 258 c4) = V := ⟨_, rfl⟩
  have hh' := heap_setCell_same w4 w1.heap.size 0 _ _ (.slice A4 258 c4) hh
  rw [hV4] at hh'
  have hcv4 : V4.cell? ⟨w1.heap.size, 0, none⟩ = some (.slice A4 258 c4) := by rw [cell_of_row _ _ 0 _ _ _ hh']; rfl
  have hap : ∀ k, (Value.slice A4 258 c4).ownBlock = some k → k ≠ w1.heap.size := fun k hk e => by
    rcases hM k hk with h | h
    · exact HAP4.out k h e
    · omega
  have HOV4 : Hid (OwnL pK V4 w.heap.size (.slice A4 258 c4) (L4 ++ [Vo.jB])) := by unfold Hid; rw [← hV4]; exact hA.of_block (fun k hk => heap_setCell_other _ _ _ _ (fun e => hap k hk e))
  have HHV4 := Lib.hid hh'
  have HBV4 : Hid (Below w.heap.size w V4) := by unfold Hid; rw [← hV4]; exact (HBV3.out.grown hG hbase3 (fun k hk => (HOV3.out.lt_ k hk).1)).setCell (p := ⟨w1.heap.size, 0, none⟩) hb1 _
  have hzV4 : w1.heap.size + 1 ≤ V4.heap.size := by rw [← hV4]; have := hG.size; simp; omega
  have HAPV4 := Lib.hid hap
  have hbase4 : w.heap.size ≤ V4.heap.size := by omega
  clear hA hG hM hh hh' hap
  rw [HEX.out] at HOV4
  have HE := Lib.hid (pexpand_any Vo.ex _ 257 V4.heap.size V4 HOV4.out.form_ (Nat.le_refl _) (by simp [I64]) (by rw [Vo.len_ex]; omega))
  have hbv4 := HBV4.out.size
  go_wp2_with (fail)
  refine (HE.out).mono ?_
  intro e w5 h5
  obtain ⟨A5, c5, rfl, ho5, hb5⟩ := h5.out_ Vo.expand_ex
  have HO5 := Lib.hid ho5
  have HB5 := Lib.hid (HBV4.out.trans (hb5.mono hbv4))
  have HP5 := Lib.hid (HOV4.out.below_ hb5 (Nat.le_refl _))
  have hcw5 := (hb5.cell (p := ⟨w1.heap.size, 0, none⟩) (by show w1.heap.size < _; omega)).trans hcv4
  have HC := Lib.hid (pcheck_any [] (.slice none 0 0) 0 w5 (Lv.nil_ _ _ _) (Nat.zero_le _))
  unfold IsCheck at HC
  rw [Vo.check_none] at HC
  have hz5 : w1.heap.size < w5.heap.size := by have := hb5.size; omega
  clear ho5 hb5 HE h5 HOV3 HOV4 HHV3 HHV4 HAPV4 HAP4 hcv3 hcv4 HBV3
  go_wp2_with (fail)
  refine (HC.out).mono ?_
  rintro e w6 ⟨rfl, hb6⟩
  have HO6 := Lib.hid (HO5.out.below_ hb6 (Nat.le_refl _))
  have HB6 := Lib.hid (HB5.out.trans (hb6.mono HB5.out.size))
  have HP6 := Lib.hid (HP5.out.below_ hb6 (Nat.le_refl _))
  have hcw6 := (hb6.cell (p := ⟨w1.heap.size, 0, none⟩) hz5).trans hcw5
  have htx : strOfNums ([97, 98, 99].map (fun x : Nat => (x : Int))) = { data := #[97, 98, 99] } := by decide
  have hcv : (convert 36 9 (.slice A5 3 c5)).run Try.prog w6 = .ok (.string { data := #[97, 98, 99] }) w6 := by
    have h := text_of HO6.out.form_ (by simp)
    rw [htx] at h
    exact h
  have HJ := Lib.hid (pjoins_any Vo.ex _ w6.heap.size w6 HP6.out.form_ (Nat.le_refl _) (by rw [Vo.len_ex]; omega))
  rw [Vo.joins_ex] at HJ
  clear hb6 HC HO5 HB5 HP5 hcw5 htx
  go_wp2_with (fail)
  refine (HJ.out).mono ?_
  rintro e w7 ⟨A7, c7, rfl, ho7, hb7⟩
  have HB7 := Lib.hid (HB6.out.trans (hb7.mono HB6.out.size))
  have ha7 := (Below.refl w7.heap.size w7).alloc (Nat.le_refl _) (.cells #[.int .i64 257, .int .i64 256] 3)
  have k2 : ∀ x ∈ [(257 : Int), 256], iK.ok x := fun x hx => by
    simp at hx
    rcases hx with rfl | rfl <;> (show I64 _; simp [I64])
  have HI := Lib.hid (ints_lv _ _ _ _ _ _ _ (ho7.form_.below_ ha7 (Nat.le_refl _)) (Lv.build_ iK w7 [257, 256] k2 (by simp [maxLen]) 2 rfl _ rfl _ rfl))
  simp only [decide_true] at HI
  clear ho7 hb7 HJ k2
  go_wp2_with (fail)
  refine (HI.out).mono ?_
  rintro e w8 ⟨rfl, hb8⟩
  have HB8 := Lib.hid (HB7.out.trans ((ha7.trans (hb8.mono (by simp))).mono HB7.out.size))
  clear hb8 HI ha7
  go_wp2
  go_ret
  exact ⟨rfl, HB8.out⟩
end Go.Proofs.Ytgkmlcghkkpgpaa
