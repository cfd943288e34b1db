/-
  stooklaw03.works answers true: the frame that it asks for.
-/
import Derived.Test.YteemhdoegjdaiaaFScan
import Derived.Lib.SlBytesConst
import Derived.Laws.BytesArg
namespace Go.Proofs.Yteemhdoegjdaiaa
open Go.RowKit
set_option linter.unusedVariables false

theorem frm_abc : ∃ S, S.length = 4 ∧ Fr.frm [97, 98, 99] = 3 :: 97 :: 98 :: 99 :: S := ⟨four (Cr.of (putRow [97, 98, 99])), rfl, rfl⟩
theorem get_abc : Fr.get (Fr.frm [97, 98, 99]) 0 = ([97, 98, 99], 8, 0) := by
  have h := Fr.get_at (l := Fr.frm [97, 98, 99]) (p := []) (q := []) (y := [97, 98, 99]) (by simp) (by decide)
  rw [Fr.frm_len2] at h
  exact h
theorem scan_abc : Fr.scan (Fr.frm [97, 98, 99]) = ([[97, 98, 99]], 8, 0) := by
  have hl : (Fr.frm [97, 98, 99]).length = 8 := by rw [Fr.frm_len2]; rfl
  unfold Fr.scan
  have h1 := Fr.scanF_ok (f := 7) (a := 0) (l := Fr.frm [97, 98, 99]) (by omega) get_abc
  have h2 := Fr.scanF_end (f := 7) (a := 8) (l := Fr.frm [97, 98, 99]) (by omega)
  rw [h2] at h1
  rw [hl]
  exact h1

def abc : Array Value := #[.int .u8 97, .int .u8 98, .int .u8 99]
theorem Bv.abc_ (w : World) : Bv (w.alloc (.cells abc 5 (3, 4))) (w.heap.size + 1) (.slice (some ⟨w.heap.size, 0, none⟩) 3 3) [97, 98, 99] := by
  refine ⟨some ⟨w.heap.size, 0, none⟩, 3, rfl, by decide, by simp [maxLen], by simp, by decide, fun _ => ⟨w.heap.size, 0, rfl, by omega, fun j c hj => ?_⟩⟩
  rw [Nat.zero_add, World.cell?_alloc_mark]
  have hl : j < 3 := (List.getElem?_eq_some_iff.1 hj).1
  have h : ∀ j, j < 3 → ∀ c, [97, 98, 99][j]? = some c → abc[j]? = some (.int .u8 (c : Nat)) := by
    intro j hj c hc
    rcases j with _|_|_|j
    all_goals first | (simp at hc; subst hc; rfl) | omega
  exact h j hl c hj
theorem str_abc : strOfNums [97, 98, 99] = { data := #[97, 98, 99] } := by rfl

theorem text_abc {w : World} {B c : Nat} {A : Option Addr} (h : Bv w B (.slice A 3 c) [97, 98, 99]) :
    (convert 22 9 (.slice A 3 c)).run Try.prog w = .ok (.string { data := #[97, 98, 99] }) w := by
  obtain ⟨b, off, rfl, _, hc⟩ := h.bts_.2 (by decide)
  have hr := run_convert_bytes_arg (P := Try.prog) w 22 5 Try.underlying22 Try.underlying5 b off 3 c [97, 98, 99] rfl (by
    intro i hi
    rcases i with _|_|_|i
    · exact hc 0 97 rfl
    · exact hc 1 98 rfl
    · exact hc 2 99 rfl
    · omega) 9 Try.underlying9
  rw [hr, str_abc]

set_option maxHeartbeats 2000000 in
set_option maxRecDepth 100000 in
theorem works_any (w : World) : Calls Try.prog 16 #[] w (IsBool true w) := by
  have HB := Lib.hid ((Below.refl w.heap.size w).alloc (Nat.le_refl _) (.cells abc 5 (3, 4)))
  have hcv : (convert 22 22 (.slice (some ⟨w.heap.size, 0, none⟩) 3 3)).run Try.prog (w.alloc (.cells #[.int .u8 97, .int .u8 98, .int .u8 99] 5)) = .ok (.slice (some ⟨w.heap.size, 0, none⟩) 3 3) (w.alloc (.cells abc 5 (3, 4))) :=
    Lib.run_convert_bytes_const w 22 5 abc 3 3 Try.underlying22 Try.underlying5
  have hP := fput_any _ _ _ (w.alloc (.cells abc 5 (3, 4))) (by simp) (Bv.abc_ w)
  rw [Fr.put_in (by decide)] at hP
  have HPc := Lib.hid hP
  have HG0 := Lib.hid get_abc
  have HS0 := Lib.hid scan_abc
  obtain ⟨S, hS, hF⟩ := frm_abc
  have hF8 : (Fr.frm [97, 98, 99]).length = 8 := by rw [Fr.frm_len2]; rfl
  obtain ⟨F, hFF⟩ : ∃ F, Fr.frm [97, 98, 99] = F := ⟨_, rfl⟩
  rw [hFF] at HPc HG0 HS0 hF8 hF
  have HF8 := Lib.hid hF8
  have HFc := Lib.hid hF
  clear hP hFF hF8 hF
  go_enter Try.func16, Try.ntmps16
  go_wp2_with fail
  ((with_reducible refine HPc.out.mono ?_); rintro e w1 ⟨A1, rfl, ho1, hb1⟩)
  have HB1 := Lib.hid (HB.out.trans (hb1.mono (by simp)))
  simp only [HF8.out] at ho1 ⊢
  have hv1 := ho1.form_
  have HG := Lib.hid (fget_any _ F _ 0 w1 (Nat.le_refl _) (by simpa only [HF8.out] using hv1) (by rw [HF8.out]; omega))
  have HV := Lib.hid hv1
  clear HB ho1 hb1 hv1 HPc hcv
  go_wp2_with fail
  ((with_reducible refine HG.out.mono ?_); rintro e w2 ⟨A2, he, ho2, hb2⟩)
  rw [HG0.out] at he ho2
  subst he
  have HB2 := Lib.hid (HB1.out.trans (hb2.mono HB1.out.size))
  have HV2 := Lib.hid (HV.out.below_ hb2 (Nat.le_refl _))
  have HP2 := Lib.hid ho2.form_
  have HS := Lib.hid (scan_any _ F _ w2 hb2.size (by simpa only [HF8.out] using HV2.out) (by rw [HF8.out]; omega))
  rw [HS0.out] at HS
  have hz2 : w1.heap.size ≤ w2.heap.size := hb2.size
  clear HB1 HV ho2 hb2 HG
  go_wp2_with fail
  ((with_reducible refine HS.out.mono ?_); rintro e w3 ⟨A3, c3, rfl, ho3, hb3⟩)
  have HB3 := Lib.hid (HB2.out.trans (hb3.mono HB2.out.size))
  have hv3 := (HV2.out.below_ hb3 hz2).bts_
  obtain ⟨b, off, rfl, _, hcell⟩ := hv3.2 (by rw [HF8.out]; omega)
  have k0 := hcell 0 3 (by rw [HFc.out]; rfl)
  have k3 := hcell 3 99 (by rw [HFc.out]; rfl)
  rw [Nat.add_zero] at k0
  have ht : (convert 22 9 (.slice A2 3 3)).run Try.prog w3 = .ok (.string { data := #[97, 98, 99] }) w3 := text_abc (HP2.out.below_ hb3 (Nat.le_refl _))
  clear HB2 HV2 HP2 HS hb3 ho3 hv3 hcell
  go_wp2
  go_ret
  exact ⟨rfl, HB3.out⟩
end Go.Proofs.Yteemhdoegjdaiaa
