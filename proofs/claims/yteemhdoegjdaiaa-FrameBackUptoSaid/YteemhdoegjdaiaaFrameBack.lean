/-
  FrameBack, the upto form: frames, and behind them a beginning of another one, are scanned as just these payloads. The condition: what comes in is of bulk at most 1048576.
-/
import Derived.Test.YteemhdoegjdaiaaFrameR
import Derived.Test.YteemhdoegjdaiaaFWorks
import Derived.Test.YteemhdoegjdaiaaFRows
import Derived.Test.YteemhdoegjdaiaaFMathD
namespace Go.Proofs.Yteemhdoegjdaiaa.frameBack
open Go.ChangeShapes Go.WideShapes Go.ChangeAt Go.RowKit
open Go.ChangeMaps (open_string shut_string)
set_option linter.unusedVariables false

theorem all_of {l : List Nat} {ls : List (List Nat)} {k : Nat} (h : Fr.scan l = (ls, k, 0)) : Fr.all l = (ls, 0) := Fr.all_ok h
theorem row_in {ls : List (List Nat)} {k : Nat} {y : List Nat} (h : ls[k]? = some y) (hl : ∀ z ∈ ls.take k, z.length ≤ 65536) (hy : y.length ≤ 65536) : ∀ z ∈ ls.take (k + 1), z.length ≤ 65536 := by
  intro z hz
  rw [List.take_add_one, h] at hz
  rcases List.mem_append.1 hz with h1 | h1
  · exact hl z h1
  · simp at h1; subst h1; exact hy
theorem rows_lt {w : World} {B : Nat} {v : Value} {ls : List (List Nat)} (h : Rv w B v ls) : ∀ y ∈ ls, ∀ x ∈ y, x < 256 := by
  intro y hy
  obtain ⟨A, c, rfl, _, _, _, h4⟩ := h
  obtain ⟨j, hj⟩ := List.getElem?_of_mem hy
  obtain ⟨b, off, _, _, hc⟩ := h4 (List.length_pos_of_mem hy)
  obtain ⟨u, _, hv⟩ := hc j y hj
  exact hv.lt_

set_option maxHeartbeats 4000000 in
set_option maxRecDepth 100000 in
theorem walk (w : World) (v0 : Value) (l0 : List (List Nat)) (h0 : Rv w w.heap.size v0 l0) (v1 : Value) (l1 : List Nat) (h1 : Bv w w.heap.size v1 l1) (a2 : Int) (w2 : (Lit.int .i64 a2).wf = true) (hsz : (cat l0).length + l1.length ≤ 1048576) (hct : l0.length ≤ 1048576) :
    Calls Try.prog 6 #[v0, v1, .int .i64 a2] w (IsBool true w) := by
  have H0 := Lib.hid h0
  have H1 := Lib.hid h1
  have hfl := Fr.frs_len l0
  have HL8 := Lib.hid (rows_lt h0)
  obtain ⟨A0, c0, rfl, _, _, _, _⟩ := h0
  obtain ⟨A1, c1, rfl, _, _, _, _⟩ := h1
  have hF15 : (Fr.frs l0).length ≤ 16777216 := by omega
  have hnil := Lib.hid (OwnB.nil_ w w.heap.size)
  have HW0 := Lib.hid w2
  clear hfl w2
  go_enter Try.func6, Try.ntmps6
  go_wp2
  go_loopw [7, 8] (fun u i wr => ∃ k : Nat, k ≤ l0.length ∧ i = .int .i64 k ∧ Hid (OwnB wr w.heap.size u (Fr.frs (l0.take k))) ∧ Hid (∀ z ∈ l0.take k, z.length ≤ 65536) ∧ Below w.heap.size w wr) (fun _ i _ => l0.length - (intOf i).toNat)
  case atStart => exact ⟨0, by omega, rfl, hnil.out, by simp [Hid], Below.refl _ _⟩
  case round =>
    obtain ⟨k, hk, rfl, HO, HK, hbr⟩ := hrel
    clear hnil
    have hbase := hbr.size
    by_cases hlt : k < l0.length
    · obtain ⟨b, off, A', c', x, rfl, hb, hx, hcell, hbv⟩ := (H0.out.below_ hbr (Nat.le_refl _)).at_ hlt
      have HXk := Lib.hid hx
      have HBV := Lib.hid hbv
      have i1 : (k : Int) < (l0.length : Nat) := by omega
      have hP := fput_any _ x _ wr hbase hbv
      by_cases hl : 65536 < x.length
      · rw [Fr.put_out hl] at hP
        have HP := Lib.hid hP
        have hlx : (65536 : Int) < ((x.length : Nat) : Int) := by omega
        have hxm : x.length ≤ maxLen := by obtain ⟨_, _, e, h1, h2, _⟩ := hbv; omega
        unfold maxLen at hxm
        clear hx hbv hP hl
        go_wp2_with fail
        ((with_reducible refine HP.out.mono ?_); rintro e w3 ⟨A3, rfl, _, hb3⟩)
        have HB3 := Lib.hid (hbr.trans (hb3.mono hbase))
        have hcell3 : w3.cell? ⟨b, off + k, none⟩ = some (.slice A' x.length c') := (hb3.cell (p := ⟨b, off + k, none⟩) (by show b < _; omega)).trans hcell
        have HW := Lib.hid (works_any w3)
        clear hcell hb3 HP
        go_wp2_with fail
        ((with_reducible refine HW.out.mono ?_); rintro e w4 ⟨rfl, hb4⟩)
        go_wp2
        go_ret
        exact ⟨rfl, HB3.out.trans (hb4.mono HB3.out.size)⟩
      · rw [Fr.put_in (by omega)] at hP
        have HP := Lib.hid hP
        have HK2 := Lib.hid (row_in hx HK.out (by omega))
        have hfs := Fr.frs_snoc hx
        have hle := Fr.frs_le l0 (k + 1)
        rw [hfs, List.length_append] at hle
        have HF := Lib.hid hfs
        obtain ⟨F, hFe⟩ : ∃ F, Fr.frm x = F := ⟨_, rfl⟩
        rw [hFe] at HP HF hle
        obtain ⟨G, hGe⟩ : ∃ G, Fr.frs (l0.take k) = G := ⟨_, rfl⟩
        rw [hGe] at HO HF hle
        have hfit : G.length + F.length ≤ 140737488355328 := by omega
        clear hx hbv hP hl hfs hle hFe hGe HXk
        go_wp2_with (first
          | (go_at_call 11
             (with_reducible refine HP.out.mono ?_)
             rintro e w3 ⟨A3, rfl, ho3, hb3⟩
             have HB3 := Lib.hid (hbr.trans (hb3.mono hbase))
             have HO3 := Lib.hid (HO.out.below_ hb3 (Nat.le_refl _))
             have HF3 := Lib.hid ho3.form_
             have hz3 : w.heap.size ≤ w3.heap.size := HB3.out.size
             clear ho3 hb3 HP HO)
          | (at_builtin
             refine wpList_append_bytes _ rfl _ _ rfl rfl w.heap.size _ rfl G HO3.out _ rfl _ F HF3.out hfit hz3 ?_
             intro A4 c4 w4 hA
             have HO4 := Lib.hid hA.own
             have HB4 := Lib.hid (HB3.out.grown hA.grown hz3 (fun j hj => (HO3.out.lt_ j hj).1))
             clear hA))
        have ho4 := HO4.out
        rw [List.length_append] at ho4
        go_roundw
        case rel => exact ⟨k + 1, by omega, by go_num, by rw [HF.out]; exact ho4, HK2.out, HB4.out⟩
        case measure => simp [intOf]; omega
    · have hkk : k = l0.length := by omega
      subst hkk
      rw [List.take_length] at HO HK
      obtain ⟨e0, hs0, he0⟩ := Fr.scan_back HL8.out HK.out (t := []) (.inl rfl)
      obtain rfl := he0 rfl
      rw [List.append_nil] at hs0
      have HBK : Hid (∀ t, Fr.Bad t → ∃ e, Fr.scan (Fr.frs l0 ++ t) = (l0, (Fr.frs l0).length, e)) := fun t ht => by
        obtain ⟨e, h, _⟩ := Fr.scan_back HL8.out HK.out ht
        exact ⟨e, h⟩
      have HS0 := Lib.hid hs0
      have HA0 := Lib.hid (all_of hs0)
      obtain ⟨M, hM⟩ : ∃ M, Fr.frs l0 = M := ⟨_, rfl⟩
      rw [hM] at HO HBK HS0 HA0 hF15
      obtain ⟨A7, c7, rfl, _⟩ := HO.out.form_
      have hA := all_any _ M _ wr (Nat.le_refl _) HO.out.form_ (by omega)
      rw [HA0.out] at hA
      have HA := Lib.hid hA
      have hlt2 : ¬ ((l0.length : Int) < (l0.length : Nat)) := by omega
      have hl0m : l0.length ≤ 9223372036854775807 := by omega
      clear hs0 he0 hM hA HK HA0 hlt
      go_wp2_with fail
      ((with_reducible refine HA.out.mono ?_); rintro e w3 ⟨A3, c3, rfl, ho3, hb3⟩)
      have HB3 := Lib.hid (hbr.trans (hb3.mono hbase))
      have HR3 := Lib.hid ho3
      have HML : Hid (∀ k, (Value.slice A7 M.length c7).ownBlock = some k → k < wr.heap.size) := fun k hk => (HO.out.lt_ k hk).2
      have HO3 := Lib.hid (HO.out.below_ hb3 (Nat.le_refl _))
      have hP := fput_any _ l1 w.heap.size w3 HB3.out.size (H1.out.below_ HB3.out (Nat.le_refl _))
      clear HA ho3 hb3 HO
      by_cases hl : 65536 < l1.length
      · rw [Fr.put_out hl] at hP
        have HP := Lib.hid hP
        clear hP hl
        go_wp2_with fail
        ((with_reducible refine HP.out.mono ?_); rintro e w4 ⟨A4, rfl, _, hb4⟩)
        have HBl := Lib.hid (HB3.out.trans (hb4.mono HB3.out.size))
        have HR3l := Lib.hid (HR3.out.below_ hb4 (Nat.le_refl _)).form_
        have hzl : w4.heap.size ≤ w4.heap.size := Nat.le_refl _
        have ho4 := HO3.out.below_ hb4 (Nat.le_refl _)
        have hC := scan_any _ M _ w4 (Nat.le_refl _) ho4.form_ (by omega)
        rw [HS0.out] at hC
        have HC := Lib.hid hC
        clear HP hb4 ho4 hC HB3 HR3 HO3
        go_wp2_with fail
        ((with_reducible refine HC.out.mono ?_); rintro e w6 ⟨A6, c6, rfl, ho6, hb6⟩)
        have HB6 := Lib.hid (HBl.out.trans (hb6.mono HBl.out.size))
        have HR3b := Lib.hid (HR3l.out.below_ hb6 hzl)
        have HR6 := Lib.hid ho6.form_
        have z6 : w4.heap.size ≤ w6.heap.size := hb6.size
        have HD := Lib.hid (rows_any _ _ _ _ _ _ w6 HR3b.out (H0.out.below_ HB6.out (Nat.le_refl _)) (by omega) HB6.out.size)
        clear HC ho6 hb6 HR3l HBl HR3b
        go_wp2_with fail
        ((with_reducible refine HD.out.mono ?_); rintro e w7 ⟨he, hb7⟩)
        simp only [decide_true] at he
        subst he
        have HB7 := Lib.hid (HB6.out.trans (hb7.mono HB6.out.size))
        have HE := Lib.hid (rows_any _ _ _ _ _ _ w7 (HR6.out.below_ hb7 (Nat.le_refl _)) (H0.out.below_ HB7.out (Nat.le_refl _)) hb7.size HB7.out.size)
        clear HD hb7 HB6 HR6
        go_wp2_with fail
        ((with_reducible refine HE.out.mono ?_); rintro e w8 ⟨he, hb8⟩)
        simp only [decide_true] at he
        subst he
        have HB8 := Lib.hid (HB7.out.trans (hb8.mono HB7.out.size))
        have HW := Lib.hid (works_any w8)
        clear HE hb8 HB7
        go_wp2_with fail
        ((with_reducible refine HW.out.mono ?_); rintro e w9 ⟨rfl, hb9⟩)
        go_wp2
        go_ret
        exact ⟨rfl, HB8.out.trans (hb9.mono HB8.out.size)⟩
      · have hle : l1.length ≤ 65536 := by omega
        rw [Fr.put_in hle] at hP
        have HP := Lib.hid hP
        have hpos := Fr.frm_pos l1
        have hfl := Fr.frm_len2 l1
        have hp10 := Mt.put_len_le l1.length
        have HBG : Hid (∀ c, c < (Fr.frm l1).length → Fr.Bad ((Fr.frm l1).take c)) := fun c hc => Fr.bad_begin H1.out.lt_ hle hc
        obtain ⟨F, hF⟩ : ∃ F, Fr.frm l1 = F := ⟨_, rfl⟩
        rw [hF] at HP hpos HBG hfl
        have hq0 : (((F.length : Nat) : Int) == 0) = false := by rw [beq_eq_false_iff_ne]; omega
        have hFm : F.length ≤ 65550 := by omega
        clear hP hl hF hfl
        have hcase : a2 < 0 ∨ (¬ a2 < 0 ∧ ((F.length : Nat) : Int) ≤ a2) ∨ ∃ c : Nat, a2 = (c : Int) ∧ c < F.length := by
          by_cases ha : a2 < 0
          · exact .inl ha
          · by_cases hb : ((F.length : Nat) : Int) ≤ a2
            · exact .inr (.inl ⟨ha, hb⟩)
            · obtain ⟨c, rfl⟩ := Int.eq_ofNat_of_zero_le (a := a2) (by omega)
              exact .inr (.inr ⟨c, rfl, by omega⟩)
        rcases hcase with ha | ⟨ha, ha2⟩ | ⟨c, rfl, hc⟩
        · obtain ⟨c, hcF⟩ : ∃ c, F.length = c + 1 := ⟨F.length - 1, by omega⟩
          have hc : c < F.length := by omega
          have hcc : ((F.length : Nat) : Int) - 1 = (c : Nat) := by omega
          clear hcF
          obtain ⟨T, hT⟩ : ∃ T, F.take c = T := ⟨_, rfl⟩
          obtain ⟨e1, hs1⟩ := HBK.out (F.take c) (HBG.out c hc)
          rw [hT] at hs1
          have HS1 := Lib.hid hs1
          have HT := Lib.hid hT
          have hTl : T.length = c := by rw [← hT, List.length_take]; omega
          have HTl := Lib.hid hTl
          clear hs1 hT hTl HBG HBK
          go_wp2_with fail
          ((with_reducible refine HP.out.mono ?_); rintro e w4 ⟨A4, rfl, ho4, hb4⟩)
          have HB4 := Lib.hid (HB3.out.trans (hb4.mono HB3.out.size))
          have HR3a := Lib.hid (HR3.out.below_ hb4 (Nat.le_refl _))
          have hz4 : w3.heap.size ≤ w4.heap.size := hb4.size
          have HO4 := Lib.hid (HO3.out.below_ hb4 (Nat.le_refl _))
          have ht4 := ho4.form_.take_ (k := c) (by show c ≤ F.length; omega)
          rw [show List.take c (F, 0).1 = T from HT.out] at ht4
          have HF4 := Lib.hid ht4
          have j3 := fun w => slice_to A4 F.length F.length c (by omega) w
          have j4 := fun w => sliceAt_to A4 F.length F.length c (by omega) w
          have hb4s : w.heap.size ≤ w4.heap.size := HB4.out.size
          have hfit : M.length + T.length ≤ 140737488355328 := by have := HTl.out; omega
          rw [← HTl.out] at HF4
          have hTl2 := HTl.out
          clear HP ho4 hb4 ht4 HO3 HR3 HB3
          subst hTl2
          go_wp2_with (at_builtin; go_must (refine wpList_append_bytes _ rfl _ _ rfl rfl w.heap.size _ rfl M HO4.out _ rfl _ T HF4.out hfit hb4s ?_; intro A5 c5 w5 hA5))
          have ho5 := hA5.own
          have HBl := Lib.hid (HB4.out.grown hA5.grown hb4s (fun j hj => (HO4.out.lt_ j hj).1))
          have HR3l := Lib.hid (HR3a.out.kept_ (show w4.grownBy w5 (Value.slice A7 M.length c7).ownBlock from hA5.grown) HML.out).form_
          have hzl : w5.heap.size ≤ w5.heap.size := Nat.le_refl _
          have hC := scan_any _ (M ++ T) _ w5 (Nat.le_refl _) ho5.form_ (by rw [List.length_append]; omega)
          rw [HS1.out, List.length_append] at hC
          have HC := Lib.hid hC
          clear hA5 ho5 hC HB4 HO4 HF4 HR3a HML
          go_wp2_with fail
          ((with_reducible refine HC.out.mono ?_); rintro e w6 ⟨A6, c6, rfl, ho6, hb6⟩)
          have HB6 := Lib.hid (HBl.out.trans (hb6.mono HBl.out.size))
          have HR3b := Lib.hid (HR3l.out.below_ hb6 hzl)
          have HR6 := Lib.hid ho6.form_
          have z6 : w5.heap.size ≤ w6.heap.size := hb6.size
          have HD := Lib.hid (rows_any _ _ _ _ _ _ w6 HR3b.out (H0.out.below_ HB6.out (Nat.le_refl _)) (by omega) HB6.out.size)
          clear HC ho6 hb6 HR3l HBl HR3b
          go_wp2_with fail
          ((with_reducible refine HD.out.mono ?_); rintro e w7 ⟨he, hb7⟩)
          simp only [decide_true] at he
          subst he
          have HB7 := Lib.hid (HB6.out.trans (hb7.mono HB6.out.size))
          have HE := Lib.hid (rows_any _ _ _ _ _ _ w7 (HR6.out.below_ hb7 (Nat.le_refl _)) (H0.out.below_ HB7.out (Nat.le_refl _)) hb7.size HB7.out.size)
          clear HD hb7 HB6 HR6
          go_wp2_with fail
          ((with_reducible refine HE.out.mono ?_); rintro e w8 ⟨he, hb8⟩)
          simp only [decide_true] at he
          subst he
          have HB8 := Lib.hid (HB7.out.trans (hb8.mono HB7.out.size))
          have HW := Lib.hid (works_any w8)
          clear HE hb8 HB7
          go_wp2_with fail
          ((with_reducible refine HW.out.mono ?_); rintro e w9 ⟨rfl, hb9⟩)
          go_wp2
          go_ret
          exact ⟨rfl, HB8.out.trans (hb9.mono HB8.out.size)⟩
        · obtain ⟨c, hcF⟩ : ∃ c, F.length = c + 1 := ⟨F.length - 1, by omega⟩
          have hc : c < F.length := by omega
          have hcc : ((F.length : Nat) : Int) - 1 = (c : Nat) := by omega
          clear hcF
          obtain ⟨T, hT⟩ : ∃ T, F.take c = T := ⟨_, rfl⟩
          obtain ⟨e1, hs1⟩ := HBK.out (F.take c) (HBG.out c hc)
          rw [hT] at hs1
          have HS1 := Lib.hid hs1
          have HT := Lib.hid hT
          have hTl : T.length = c := by rw [← hT, List.length_take]; omega
          have HTl := Lib.hid hTl
          clear hs1 hT hTl HBG HBK
          go_wp2_with fail
          ((with_reducible refine HP.out.mono ?_); rintro e w4 ⟨A4, rfl, ho4, hb4⟩)
          have HB4 := Lib.hid (HB3.out.trans (hb4.mono HB3.out.size))
          have HR3a := Lib.hid (HR3.out.below_ hb4 (Nat.le_refl _))
          have hz4 : w3.heap.size ≤ w4.heap.size := hb4.size
          have HO4 := Lib.hid (HO3.out.below_ hb4 (Nat.le_refl _))
          have ht4 := ho4.form_.take_ (k := c) (by show c ≤ F.length; omega)
          rw [show List.take c (F, 0).1 = T from HT.out] at ht4
          have HF4 := Lib.hid ht4
          have j3 := fun w => slice_to A4 F.length F.length c (by omega) w
          have j4 := fun w => sliceAt_to A4 F.length F.length c (by omega) w
          have hb4s : w.heap.size ≤ w4.heap.size := HB4.out.size
          have hfit : M.length + T.length ≤ 140737488355328 := by have := HTl.out; omega
          rw [← HTl.out] at HF4
          have hTl2 := HTl.out
          clear HP ho4 hb4 ht4 HO3 HR3 HB3
          subst hTl2
          go_wp2_with (at_builtin; go_must (refine wpList_append_bytes _ rfl _ _ rfl rfl w.heap.size _ rfl M HO4.out _ rfl _ T HF4.out hfit hb4s ?_; intro A5 c5 w5 hA5))
          have ho5 := hA5.own
          have HBl := Lib.hid (HB4.out.grown hA5.grown hb4s (fun j hj => (HO4.out.lt_ j hj).1))
          have HR3l := Lib.hid (HR3a.out.kept_ (show w4.grownBy w5 (Value.slice A7 M.length c7).ownBlock from hA5.grown) HML.out).form_
          have hzl : w5.heap.size ≤ w5.heap.size := Nat.le_refl _
          have hC := scan_any _ (M ++ T) _ w5 (Nat.le_refl _) ho5.form_ (by rw [List.length_append]; omega)
          rw [HS1.out, List.length_append] at hC
          have HC := Lib.hid hC
          clear hA5 ho5 hC HB4 HO4 HF4 HR3a HML
          go_wp2_with fail
          ((with_reducible refine HC.out.mono ?_); rintro e w6 ⟨A6, c6, rfl, ho6, hb6⟩)
          have HB6 := Lib.hid (HBl.out.trans (hb6.mono HBl.out.size))
          have HR3b := Lib.hid (HR3l.out.below_ hb6 hzl)
          have HR6 := Lib.hid ho6.form_
          have z6 : w5.heap.size ≤ w6.heap.size := hb6.size
          have HD := Lib.hid (rows_any _ _ _ _ _ _ w6 HR3b.out (H0.out.below_ HB6.out (Nat.le_refl _)) (by omega) HB6.out.size)
          clear HC ho6 hb6 HR3l HBl HR3b
          go_wp2_with fail
          ((with_reducible refine HD.out.mono ?_); rintro e w7 ⟨he, hb7⟩)
          simp only [decide_true] at he
          subst he
          have HB7 := Lib.hid (HB6.out.trans (hb7.mono HB6.out.size))
          have HE := Lib.hid (rows_any _ _ _ _ _ _ w7 (HR6.out.below_ hb7 (Nat.le_refl _)) (H0.out.below_ HB7.out (Nat.le_refl _)) hb7.size HB7.out.size)
          clear HD hb7 HB6 HR6
          go_wp2_with fail
          ((with_reducible refine HE.out.mono ?_); rintro e w8 ⟨he, hb8⟩)
          simp only [decide_true] at he
          subst he
          have HB8 := Lib.hid (HB7.out.trans (hb8.mono HB7.out.size))
          have HW := Lib.hid (works_any w8)
          clear HE hb8 HB7
          go_wp2_with fail
          ((with_reducible refine HW.out.mono ?_); rintro e w9 ⟨rfl, hb9⟩)
          go_wp2
          go_ret
          exact ⟨rfl, HB8.out.trans (hb9.mono HB8.out.size)⟩
        · have i5 : ¬ ((c : Int) < 0) := by omega
          have i6 : ¬ (((F.length : Nat) : Int) ≤ (c : Nat)) := by omega
          obtain ⟨T, hT⟩ : ∃ T, F.take c = T := ⟨_, rfl⟩
          obtain ⟨e1, hs1⟩ := HBK.out (F.take c) (HBG.out c hc)
          rw [hT] at hs1
          have HS1 := Lib.hid hs1
          have HT := Lib.hid hT
          have hTl : T.length = c := by rw [← hT, List.length_take]; omega
          have HTl := Lib.hid hTl
          clear hs1 hT hTl HBG HBK
          go_wp2_with fail
          ((with_reducible refine HP.out.mono ?_); rintro e w4 ⟨A4, rfl, ho4, hb4⟩)
          have HB4 := Lib.hid (HB3.out.trans (hb4.mono HB3.out.size))
          have HR3a := Lib.hid (HR3.out.below_ hb4 (Nat.le_refl _))
          have hz4 : w3.heap.size ≤ w4.heap.size := hb4.size
          have HO4 := Lib.hid (HO3.out.below_ hb4 (Nat.le_refl _))
          have ht4 := ho4.form_.take_ (k := c) (by show c ≤ F.length; omega)
          rw [show List.take c (F, 0).1 = T from HT.out] at ht4
          have HF4 := Lib.hid ht4
          have j3 := fun w => slice_to A4 F.length F.length c (by omega) w
          have j4 := fun w => sliceAt_to A4 F.length F.length c (by omega) w
          have hb4s : w.heap.size ≤ w4.heap.size := HB4.out.size
          have hfit : M.length + T.length ≤ 140737488355328 := by have := HTl.out; omega
          rw [← HTl.out] at HF4
          have hTl2 := HTl.out
          clear HP ho4 hb4 ht4 HO3 HR3 HB3
          subst hTl2
          go_wp2_with (at_builtin; go_must (refine wpList_append_bytes _ rfl _ _ rfl rfl w.heap.size _ rfl M HO4.out _ rfl _ T HF4.out hfit hb4s ?_; intro A5 c5 w5 hA5))
          have ho5 := hA5.own
          have HBl := Lib.hid (HB4.out.grown hA5.grown hb4s (fun j hj => (HO4.out.lt_ j hj).1))
          have HR3l := Lib.hid (HR3a.out.kept_ (show w4.grownBy w5 (Value.slice A7 M.length c7).ownBlock from hA5.grown) HML.out).form_
          have hzl : w5.heap.size ≤ w5.heap.size := Nat.le_refl _
          have hC := scan_any _ (M ++ T) _ w5 (Nat.le_refl _) ho5.form_ (by rw [List.length_append]; omega)
          rw [HS1.out, List.length_append] at hC
          have HC := Lib.hid hC
          clear hA5 ho5 hC HB4 HO4 HF4 HR3a HML
          go_wp2_with fail
          ((with_reducible refine HC.out.mono ?_); rintro e w6 ⟨A6, c6, rfl, ho6, hb6⟩)
          have HB6 := Lib.hid (HBl.out.trans (hb6.mono HBl.out.size))
          have HR3b := Lib.hid (HR3l.out.below_ hb6 hzl)
          have HR6 := Lib.hid ho6.form_
          have z6 : w5.heap.size ≤ w6.heap.size := hb6.size
          have HD := Lib.hid (rows_any _ _ _ _ _ _ w6 HR3b.out (H0.out.below_ HB6.out (Nat.le_refl _)) (by omega) HB6.out.size)
          clear HC ho6 hb6 HR3l HBl HR3b
          go_wp2_with fail
          ((with_reducible refine HD.out.mono ?_); rintro e w7 ⟨he, hb7⟩)
          simp only [decide_true] at he
          subst he
          have HB7 := Lib.hid (HB6.out.trans (hb7.mono HB6.out.size))
          have HE := Lib.hid (rows_any _ _ _ _ _ _ w7 (HR6.out.below_ hb7 (Nat.le_refl _)) (H0.out.below_ HB7.out (Nat.le_refl _)) hb7.size HB7.out.size)
          clear HD hb7 HB6 HR6
          go_wp2_with fail
          ((with_reducible refine HE.out.mono ?_); rintro e w8 ⟨he, hb8⟩)
          simp only [decide_true] at he
          subst he
          have HB8 := Lib.hid (HB7.out.trans (hb8.mono HB7.out.size))
          have HW := Lib.hid (works_any w8)
          clear HE hb8 HB7
          go_wp2_with fail
          ((with_reducible refine HW.out.mono ?_); rintro e w9 ⟨rfl, hb9⟩)
          go_wp2
          go_ret
          exact ⟨rfl, HB8.out.trans (hb9.mono HB8.out.size)⟩

/-! ### From the walk to the row -/
set_option maxRecDepth 100000 in
theorem lifted (os : Os) (started : os.Started) (H : Type) (enc : TypeId × Value → H) (F : Stop.Interp) :
    ReturnsInHanded {} Try.checked os 6 .any ((Rows.OpenSpec.upto Rows.frameBackSpec).pre6 enc Try.prog Try.f6 Rows.frameBackUptoRow.domain false) (((Rows.OpenSpec.upto Rows.frameBackSpec).at F).post enc Try.prog Try.f6 false true false false) := by
  refine returnsInHanded_of_cond (C := Try.checked) (s := Rows.OpenSpec.upto Rows.frameBackSpec) (k := Rows.uptoSmall) rfl own started (by kernel_rfl) Try.func6
    (OpenSpec.witness (enc := enc) (C := Try.checked) (s := Rows.OpenSpec.upto Rows.frameBackSpec) (k := Rows.uptoSmall) rfl false ⟨#[], #[.slice none 0 0, .slice none 0 0, .int .i64 0], []⟩ 8 (by kernel_rfl) (by kernel_rfl) (by kernel_rfl)
      (x := ([.nil, .nil, .lit (.int .i64 0)], [], [])) (by kernel_rfl) rfl (by kernel_rfl)) ?_
  intro W base args ds gs before hval0 hW hcnd hsmall _
  have hval : ∀ (j : Nat) t v, Try.f6.params[j]? = some t → args[j]? = some v → Value.okWide Try.prog W .any base t v := hval0
  have hW' := hW
  obtain ⟨p, q, hA0, hV, rfl, hfz, hnd⟩ := hW
  have hA : DataW.TrodAll enc Try.prog W 0 (fun _ => true) true Try.f6.params.toList args.toList ds p := hA0
  rw [Try.params6] at hA hval
  obtain ⟨v0, vs0, d0, ds0, p0, q0, hargs, rfl, rfl, h0, r0⟩ := trodAll_cons hA
  obtain ⟨v1, vs1, d1, ds1, p1, q1, rfl, rfl, rfl, h1, r1⟩ := trodAll_cons r0
  obtain ⟨v2, vs2, d2, ds2, p2, q2, rfl, rfl, rfl, h2, r2⟩ := trodAll_cons r1
  obtain ⟨rfl, rfl, rfl⟩ := trodAll_nil r2
  obtain rfl : args = #[v0, v1, v2] := by cases args; simp_all
  obtain ⟨rfl, rfl⟩ := trodVars_none hV
  obtain ⟨a0, len0, cap0, rfl⟩ := okWide_slice Try.underlying32 (hval 0 32 v0 rfl rfl)
  have k0 := h0
  have lt0 : ∀ x ∈ p0, x.block < W.heap.size := by obtain ⟨m, hm⟩ := k0; exact DataW.trod_lt m _ _ _ hm
  obtain ⟨l0, hb0, count0, bulk0⟩ : ∃ ls : List (List Nat), Rv W W.heap.size (.slice a0 len0 cap0) ls ∧ ls.length ≤ Rows.uptoBulk d0 ∧ (cat ls).length ≤ Rows.uptoBulk d0 := by
    obtain ⟨fuel, hf⟩ := h0
    rcases Go.Deep.open_int_rows Try.underlying32 Try.underlying22 Try.underlying5 (by kernel_rfl) (by kernel_rfl) hf with ⟨hcs, hx⟩ | ⟨x, l, c, A, L, C, Z, hcs, _, hl, hm, hx, hcell⟩
    · simp [Value.cells] at hcs
      obtain ⟨rfl, rfl, rfl⟩ := hcs
      exact ⟨[], Rv.nil_ _ _, by simp, by simp [cat]⟩
    · simp [Value.cells] at hcs
      obtain ⟨rfl, rfl, rfl⟩ := hcs
      rw [Prod.mk.injEq] at hx
      exact rows_in hl hm hx.1 hcell
  obtain ⟨a1, len1, cap1, rfl⟩ := okWide_slice Try.underlying22 (hval 1 22 v1 rfl rfl)
  have k1 := h1
  have lt1 : ∀ x ∈ p1, x.block < W.heap.size := by obtain ⟨m, hm⟩ := k1; exact DataW.trod_lt m _ _ _ hm
  have bulk1 : len1 ≤ Rows.uptoBulk d1 := by
    obtain ⟨fuel, hf⟩ := h1
    rcases open_ints Try.underlying22 Try.underlying5 (by kernel_rfl) hf with ⟨hcs, _⟩ | ⟨x, l, c, zs, hcs, _, hl, hm, hz, hx, hcell, hwz⟩
    · simp [Value.cells] at hcs
      omega
    · simp [Value.cells] at hcs
      obtain ⟨rfl, rfl, rfl⟩ := hcs
      rw [Prod.mk.injEq] at hx
      rw [hx.1]
      exact bulk_ints _ _ _ (by rw [hz]; simp; omega)
  obtain ⟨l1, len_1, hb1⟩ : ∃ l : List Nat, l.length = len1 ∧ Bv W W.heap.size (.slice a1 len1 cap1) l := by
    obtain ⟨fuel, hf⟩ := h1
    rcases open_ints Try.underlying22 Try.underlying5 (by kernel_rfl) hf with ⟨hcs, _⟩ | ⟨x, l, c, zs, hcs, _, hl, hm, hz, _, hcell, hwz⟩
    · simp [Value.cells] at hcs
      obtain ⟨rfl, rfl, rfl⟩ := hcs
      exact bytes_in (.inl ⟨rfl, rfl, rfl⟩)
    · simp [Value.cells] at hcs
      obtain ⟨rfl, rfl, rfl⟩ := hcs
      exact bytes_in (.inr ⟨x, zs, rfl, hl, hm, by simpa using hz, hcell, hwz⟩)
  obtain ⟨a2, rfl, rfl, rfl, w2⟩ := open_int Try.underlying3 (hval 2 3 v2 rfl rfl) h2
  clear hA0 hval0
  have hsum := bulk_all hsmall
  simp only [List.append_nil, Rows.uptoBulkAll] at hsum
  have hsum2 : (cat l0).length + l1.length ≤ 1048576 := by omega
  refine (walk W (.slice a0 len0 cap0) l0 hb0 (.slice a1 len1 cap1) l1 hb1 a2 w2 hsum2 (by omega)).mono fun e W' ⟨he, bel⟩ => ?_
  subst he
  exact ⟨_, rfl, _, _, _, [], _, [], hW', trodAll_mk1 (shut_bool Try.underlying4 _), (trodAll_cons_mk (Below.trod laidOut (by kernel_rfl) (of_decide_eq_true (by kernel_rfl)) k0 bel lt0) (trodAll_cons_mk (Below.trod laidOut (by kernel_rfl) (of_decide_eq_true (by kernel_rfl)) k1 bel lt1) (trodAll_cons_mk (shut_int Try.underlying3 w2) trodAll_mk0))), rfl, bel.frame _, fun h => by cases h⟩

theorem proved : Rows.FrameBackUptoSaid :=
  OpenClaim.holds_of_cond 6 Try.f6 rfl rfl rfl rfl rfl rfl rfl ⟨rfl, rfl, rfl, rfl, rfl⟩ rfl rfl rfl rfl rfl (by kernel_rfl) Try.func6 (by kernel_rfl)
    (of_decide_eq_true (by kernel_rfl)) (by unfold Func.isWrapper; first | (rw [if_pos (by decide +kernel)]; kernel_rfl) | (rw [if_neg (by decide +kernel)]; exact ⟨rfl, rfl⟩))
    (fun os started H enc _ F => lifted os started H enc F)

end Go.Proofs.Yteemhdoegjdaiaa.frameBack
