/-
  BpeMore: a join that ranks behind all others, put behind a vocabulary, changes nothing of bytes among whose tokens its pair does not stand. No condition.
-/
import Derived.Test.YtaedhccmdbodlaaPk29
import Derived.Test.YtaedhccmdbodlaaPk30
import Derived.Test.YtaedhccmdbodlaaPk31
import Derived.BigQuiet
namespace Go.Proofs.Ytaedhccmdbodlaa.bpeMore
open Go.ChangeShapes Go.WideShapes Go.ChangeAt Go.RowKit
open Go.ChangeMaps (open_string shut_string)
set_option linter.unusedVariables false

set_option maxHeartbeats 2000000 in
set_option maxRecDepth 100000 in
theorem walk (w : World) (v0 : Value) (l0 : List Vo.Pc) (h0 : Lv pK w w.heap.size v0 l0) (a1 : Int) (w1 : (Lit.int .i64 a1).wf = true) (a2 : Int) (w2 : (Lit.int .i64 a2).wf = true) (v3 : Value) (l3 : List Nat) (h3 : Lv yK w w.heap.size v3 l3) :
    Calls Try.prog 9 #[.agg #[v0], .int .i64 a1, .int .i64 a2, v3] w (IsBool true w) := by
  have HA1 : Hid (I64 a1) := bounds_i64' w1
  have HA2 : Hid (I64 a2) := bounds_i64' w2
  clear w1 w2
  have HOK : Hid (∀ q ∈ l0, q.byte < 256) := fun q hq => (h0.ok_ q hq).1
  obtain ⟨A3, c3', rfl, hd1, hd2, _, _⟩ := id h3
  have hl3 : l3.length ≤ 9223372036854775807 := by simp only [maxLen] at hd2; omega
  have H3 := Lib.hid h3
  have HI3 : I64 ((l3.length : Nat) : Int) := by unfold I64; omega
  clear hd1 hd2 h3
  by_cases hm : 500 < l0.length ∨ (300 < ((l3.length : Nat) : Int) ∧ ((l3.length : Nat) : Int) ≤ 4096)
  · skip
    have HM : Hid (decide (500 < l0.length ∨ (300 < ((l3.length : Nat) : Int) ∧ ((l3.length : Nat) : Int) ≤ 4096)) = true) := decide_eq_true hm
    clear hm
    obtain ⟨W, hW⟩ : ∃ X, w.alloc (.cells #[v0] 24) = X := ⟨_, rfl⟩
    obtain ⟨db, hsz, hbb⟩ := boxed hW
    have HB0 := Lib.hid hbb
    have Fv_0 := Lib.hid ((h0.below_ hbb (Nat.le_refl _)).mono_ hbb.size)
    have Fbox_0 : Hid (BoxAt W W.heap.size w.heap.size v0) := ⟨by omega, db⟩
    obtain ⟨A, c, rfl, hc1, hc2, _, _⟩ := h0
    have hl0 : l0.length ≤ 9223372036854775807 := by simp only [maxLen] at hc2; omega
    have dbox_0 := Fbox_0.out.2
    clear hc1 hc2 hbb hsz db
    go_enter Try.func9, Try.ntmps9
    have C1 := Lib.hid (rlong_any l0 _ ((l3.length : Nat) : Int) HI3 _ W Fv_0.out)
    rw [HM.out] at C1
    go_wp2_with (fail)
    refine (C1.out).mono ?_
    rintro e w1 ⟨rfl, b1⟩
    have HB1 := Lib.hid (HB0.out.trans (b1.mono HB0.out.size))
    have Fv_1 := Lib.hid ((Fv_0.out.below_ b1 (Nat.le_refl _)).mono_ b1.size)
    have Fbox_1 := Lib.hid ((Fbox_0.out.below_ b1 (Nat.le_refl _)).mono_ b1.size)
    have dbox_1 := Fbox_1.out.2
    clear C1 b1 HB0 Fv_0 Fbox_0 dbox_0
    clear Fv_1
    have C2 := Lib.hid (works_bp w1)
    go_wp2_with (fail)
    refine (C2.out).mono ?_
    rintro e w2 ⟨rfl, b2⟩
    have HB2 := Lib.hid (HB1.out.trans (b2.mono HB1.out.size))
    have Fbox_2 := Lib.hid ((Fbox_1.out.below_ b2 (Nat.le_refl _)).mono_ b2.size)
    have dbox_2 := Fbox_2.out.2
    clear C2 b2 HB1 Fbox_1 dbox_1
    go_wp2
    go_ret
    exact ⟨rfl, HB2.out⟩
  · skip
    have HM : Hid (decide (500 < l0.length ∨ (300 < ((l3.length : Nat) : Int) ∧ ((l3.length : Nat) : Int) ≤ 4096)) = false) := decide_eq_false hm
    have HP : Hid (l0.length ≤ 500) := by unfold Hid; omega
    have HFW : Hid (Bp.Few l3.length) := by unfold Hid Bp.Few; omega
    have HOB : Hid (∀ c ∈ l3, c < 256) := fun c hc => H3.out.ok_ c hc
    clear hm
    obtain ⟨W, hW⟩ : ∃ X, w.alloc (.cells #[v0] 24) = X := ⟨_, rfl⟩
    obtain ⟨db, hsz, hbb⟩ := boxed hW
    have HB0 := Lib.hid hbb
    have Fv_0 := Lib.hid ((h0.below_ hbb (Nat.le_refl _)).mono_ hbb.size)
    have Fbox_0 : Hid (BoxAt W W.heap.size w.heap.size v0) := ⟨by omega, db⟩
    obtain ⟨A, c, rfl, hc1, hc2, _, _⟩ := h0
    have hl0 : l0.length ≤ 9223372036854775807 := by simp only [maxLen] at hc2; omega
    have dbox_0 := Fbox_0.out.2
    clear hc1 hc2 hbb hsz db
    go_enter Try.func9, Try.ntmps9
    have Fb_0 := Lib.hid ((H3.out.below_ HB0.out (Nat.le_refl _)).mono_ HB0.out.size)
    have C1 := Lib.hid (rlong_any l0 _ ((l3.length : Nat) : Int) HI3 _ W Fv_0.out)
    rw [HM.out] at C1
    go_wp2_with (fail)
    refine (C1.out).mono ?_
    rintro e w1 ⟨rfl, b1⟩
    have HB1 := Lib.hid (HB0.out.trans (b1.mono HB0.out.size))
    have Fv_1 := Lib.hid ((Fv_0.out.below_ b1 (Nat.le_refl _)).mono_ b1.size)
    have Fbox_1 := Lib.hid ((Fbox_0.out.below_ b1 (Nat.le_refl _)).mono_ b1.size)
    have Fb_1 := Lib.hid ((Fb_0.out.below_ b1 (Nat.le_refl _)).mono_ b1.size)
    have dbox_1 := Fbox_1.out.2
    clear C1 b1 HB0 Fv_0 Fbox_0 Fb_0 dbox_0
    have HBX : Hid (∀ w', Below w1.heap.size w1 w' → w'.cell? ⟨w.heap.size, 0, none⟩ = some (.slice A l0.length c)) := fun w' hb => (Fbox_1.out.below_ hb (Nat.le_refl _)).2
    go_wp2
    go_loopw [9, 10] (fun vm i wr => ∃ (k mo : Nat), vm = .int .u32 (mo : Nat) ∧ i = .int .i64 (k : Nat) ∧ Hid (mo < 4294967296 ∧ ∀ j q, j < k → l0[j]? = some q → q.rank ≤ mo) ∧ Hid (Below w1.heap.size w1 wr)) (fun _ i _ => l0.length - (intOf i).toNat)
    case atStart => exact ⟨0, 0, rfl, rfl, ⟨by decide, fun j q hj => absurd hj (Nat.not_lt_zero j)⟩, Below.refl _ _⟩
    case round =>
      obtain ⟨k, mo, rfl, rfl, HMO, hbr⟩ := hrel
      have hP := HP.out
      by_cases hkl : k < l0.length
      · skip
        have wk : IntKind.i64.wrap ((k : Int) + 1) = (k : Int) + 1 := by rw [IntKind.wrap_i64]; omega
        have hki : (k : Int) < (l0.length : Int) := by omega
        have hk0 : (0 : Int) ≤ (k : Int) := by omega
        have d1 := HBX.out wr hbr.out
        obtain ⟨b, off, q, rfl, hbB, hqok, hq, q0, q1, q2, q3, q4⟩ := (Fv_1.out.below_ hbr.out (Nat.le_refl _)).piece_ hkl
        obtain ⟨r, hr⟩ : ∃ r, q.rank = r := ⟨_, rfl⟩
        have hrr : r < 4294967296 := by rw [← hr]; exact hqok.2.2.2
        rw [hr] at q4
        have HM2 : Hid (max mo r < 4294967296 ∧ ∀ j q, j < k + 1 → l0[j]? = some q → q.rank ≤ max mo r) := ⟨by have := HMO.out.1; omega, fun j q' hj hq' => by
          by_cases hjk : j < k
          · have := HMO.out.2 j q' hjk hq'; omega
          · obtain rfl : j = k := by omega
            rw [hq] at hq'
            obtain rfl := Option.some.inj hq'
            omega⟩
        have HKL := Lib.hid hkl
        clear hq hqok hbB q0 q1 q2 q3 hr hkl hrr
        go_wp2
        exact ⟨⟨k + 1, max mo r, by congr 1; split <;> omega, by go_num, HM2.out, hbr⟩, by simp [intOf]; have := HKL.out; omega⟩
      · skip
        have hki : ¬ (k : Int) < (l0.length : Int) := by omega
        have HRK : Hid (∀ q ∈ l0, q.rank < mo + 1) := fun q hq => by
          obtain ⟨j, hj⟩ := List.getElem?_of_mem hq
          have := HMO.out.2 j q (by have := (List.getElem?_eq_some_iff.1 hj).1; omega) hj
          omega
        have HMW := Lib.hid HMO.out.1
        clear HMO hkl HBX
        have b2 := hbr.out
        have HB2 := Lib.hid (HB1.out.trans (b2.mono HB1.out.size))
        have Fv_2 := Lib.hid ((Fv_1.out.below_ b2 (Nat.le_refl _)).mono_ b2.size)
        have Fbox_2 := Lib.hid ((Fbox_1.out.below_ b2 (Nat.le_refl _)).mono_ b2.size)
        have Fb_2 := Lib.hid ((Fb_1.out.below_ b2 (Nat.le_refl _)).mono_ b2.size)
        have dbox_2 := Fbox_2.out.2
        clear b2 HB1 Fv_1 Fbox_1 Fb_1 dbox_1
        clear hbr
        have HP1 : Hid (l0.length ≤ 501) := by unfold Hid; omega
        rcases Bp.encE_cases l0 l3 with ⟨hmay, hln, hx⟩ | ⟨E, hE, hx⟩
        · skip
          have hle : (Bp.enc l0 l3).length ≤ l3.length := Bp.enc_len
          have HMY := Lib.hid hmay
          obtain ⟨x, hxe⟩ : ∃ x, Bp.enc l0 l3 = x := ⟨_, rfl⟩
          rw [hxe] at hx hle
          have HLX : Hid (x.length ≤ 4096) := by unfold Hid; omega
          have HXE := Lib.hid hxe
          have HL3 : Hid (¬ 4096 < l3.length) := by unfold Hid; omega
          have HX := Lib.hid hx
          clear hx hxe hmay hln hle
          have C3 := Lib.hid (pencode_any l0 _ l3 _ _ wr Fv_2.out Fb_2.out (Nat.le_refl _) HP1.out HFW.out)
          rw [HX.out] at C3
          go_wp2_with (fail)
          refine (C3.out).mono ?_
          rintro e w3 ⟨A3, c3, rfl, o3, b3⟩
          have HB3 := Lib.hid (HB2.out.trans (b3.mono HB2.out.size))
          have Fv_3 := Lib.hid ((Fv_2.out.below_ b3 (Nat.le_refl _)).mono_ b3.size)
          have Fbox_3 := Lib.hid ((Fbox_2.out.below_ b3 (Nat.le_refl _)).mono_ b3.size)
          have Fb_3 := Lib.hid ((Fb_2.out.below_ b3 (Nat.le_refl _)).mono_ b3.size)
          have dbox_3 := Fbox_3.out.2
          have Fx_3 := Lib.hid (o3.form_)
          clear C3 b3 HB2 Fv_2 Fbox_2 Fb_2 dbox_2 o3
          by_cases h32 : mo = 4294967295
          · skip
            have h32b : ((mo : Int) == 4294967295) = true := by rw [beq_iff_eq]; omega
            clear h32
            clear Fv_3
            clear Fb_3
            clear Fx_3
            have C4 := Lib.hid (works_bp w3)
            go_wp2_with (fail)
            refine (C4.out).mono ?_
            rintro e w4 ⟨rfl, b4⟩
            have HB4 := Lib.hid (HB3.out.trans (b4.mono HB3.out.size))
            have Fbox_4 := Lib.hid ((Fbox_3.out.below_ b4 (Nat.le_refl _)).mono_ b4.size)
            have dbox_4 := Fbox_4.out.2
            clear C4 b4 HB3 Fbox_3 dbox_3
            go_wp2
            go_ret
            exact ⟨rfl, HB4.out⟩
          · skip
            have h32b : ((mo : Int) == 4294967295) = false := by rw [beq_eq_false_iff_ne]; omega
            obtain ⟨rk, hrk⟩ : ∃ rk, mo + 1 = rk := ⟨_, rfl⟩
            have wu : IntKind.u32.wrap ((mo : Int) + 1) = (rk : Int) := by have := HMW.out; rw [IntKind.wrap_u32]; omega
            have HKP : Hid (PcOk (⟨true, 0, a1, a2, rk⟩ : Vo.Pc)) := ⟨by show 0 < 256; omega, HA1.out, HA2.out, by have := HMW.out; show rk < 4294967296; omega⟩
            rw [hrk] at HRK
            have HP2 : Hid (l0.length ≤ 4194304) := by have := HP.out; unfold Hid; omega
            clear h32 hrk
            have Kv := Lib.hid Fv_3.out
            have Kb := Lib.hid Fb_3.out
            have Kx := Lib.hid Fx_3.out
            have HBp := Lib.hid HB3.out
            have Mp_3 := Lib.hid (Below.refl w3.heap.size w3)
            have C4 := Lib.hid (copyvoc_any l0 _ _ w3 Fv_3.out (Nat.le_refl _) HP2.out)
            go_wp2_with (fail)
            refine (C4.out).mono ?_
            rintro e w4 ⟨A4, c4, rfl, o4, b4⟩
            have HB4 := Lib.hid (HB3.out.trans (b4.mono HB3.out.size))
            have Fv_4 := Lib.hid ((Fv_3.out.below_ b4 (Nat.le_refl _)).mono_ b4.size)
            have Fbox_4 := Lib.hid ((Fbox_3.out.below_ b4 (Nat.le_refl _)).mono_ b4.size)
            have Fb_4 := Lib.hid ((Fb_3.out.below_ b4 (Nat.le_refl _)).mono_ b4.size)
            have Fx_4 := Lib.hid ((Fx_3.out.below_ b4 (Nat.le_refl _)).mono_ b4.size)
            have dbox_4 := Fbox_4.out.2
            have Mp_4 := Lib.hid (Mp_3.out.trans (b4.mono Mp_3.out.size))
            have Fown_4 := Lib.hid (o4.form_)
            have Oown_4 := Lib.hid o4
            clear C4 b4 HB3 Fv_3 Fbox_3 Fb_3 Fx_3 dbox_3 Mp_3 o4
            have HAP : Hid (∀ k, (Value.slice A4 l0.length c4).ownBlock = some k → k < w4.heap.size) := fun k hk => (Oown_4.out.lt_ k hk).2
            have Spc : Hid (w3.heap.size ≤ w4.heap.size) := Mp_4.out.size
            obtain ⟨Y4, hY4⟩ : ∃ X, w4.alloc (.cells #[.slice A4 l0.length c4] 24) = X := ⟨_, rfl⟩
            obtain ⟨db4, hsz4, hbb4⟩ := boxed hY4
            have b5 := hbb4
            have HB5 := Lib.hid (HB4.out.trans (b5.mono HB4.out.size))
            have Fv_5 := Lib.hid ((Fv_4.out.below_ b5 (Nat.le_refl _)).mono_ b5.size)
            have Fbox_5 := Lib.hid ((Fbox_4.out.below_ b5 (Nat.le_refl _)).mono_ b5.size)
            have Fb_5 := Lib.hid ((Fb_4.out.below_ b5 (Nat.le_refl _)).mono_ b5.size)
            have Fx_5 := Lib.hid ((Fx_4.out.below_ b5 (Nat.le_refl _)).mono_ b5.size)
            have Fown_5 := Lib.hid ((Fown_4.out.below_ b5 (Nat.le_refl _)).mono_ b5.size)
            have Oown_5 := Lib.hid (Oown_4.out.below_ b5 (Nat.le_refl _))
            have dbox_5 := Fbox_5.out.2
            have Mp_5 := Lib.hid (Mp_4.out.trans (b5.mono Mp_4.out.size))
            clear b5 HB4 Fv_4 Fbox_4 Fb_4 Fx_4 Fown_4 Oown_4 dbox_4 Mp_4
            have Fbown_5 : Hid (BoxAt Y4 Y4.heap.size w4.heap.size (.slice A4 l0.length c4)) := ⟨by omega, db4⟩
            have dbown_5 := Fbown_5.out.2
            clear hbb4 hsz4 db4
            have HH1 : Hid (Y4.heap[w4.heap.size]? = some (.cells #[.slice A4 l0.length c4] 24 (0, 0))) := by unfold Hid; rw [← hY4]; exact heap_alloc_new w4 _
            have HSY : Hid (w4.heap.size < Y4.heap.size) := Fbown_5.out.1
            have hP3 := HP.out
            have hbase : w3.heap.size ≤ Y4.heap.size := Mp_5.out.size
            go_wp2_with (at_builtin; go_must (refine wpList_push_m _ pK rfl _ _ rfl w3.heap.size _ rfl l0 Oown_5.out rfl (⟨true, 0, a1, a2, rk⟩ : Vo.Pc) HKP.out _ rfl _ rfl (by show _ * 32 ≤ _; omega) (by simp only [maxLen]; omega) hbase ?_))
            intro B3 d3 wq hA hG hM
            have hh := (hG.block w4.heap.size HSY.out (fun e => absurd (HAP.out _ e.symm) (Nat.lt_irrefl _))).trans HH1.out
            have hcb : wq.cell? ⟨w4.heap.size, 0, none⟩ = some (.slice A4 l0.length c4) := by rw [cell_of_row _ _ 0 _ _ _ hh]; rfl
            have hfb : wq.frozen? ⟨w4.heap.size, 0, none⟩ = false := frozen_of_row wq _ 0 _ _ hh
            obtain ⟨V3, hV3⟩ : ∃ V, wq.setCell ⟨w4.heap.size, 0, none⟩ (.slice B3 (l0.length + 1) d3) = V := ⟨_, rfl⟩
            have hh' := heap_setCell_same wq w4.heap.size 0 _ _ (.slice B3 (l0.length + 1) d3) hh
            rw [hV3] at hh'
            have hap : ∀ k, (Value.slice B3 (l0.length + 1) d3).ownBlock = some k → k ≠ w4.heap.size := fun k hk e => by
              rcases hM k hk with h | h
              · have := HAP.out k h; omega
              · have := HSY.out; omega
            have HOV : Hid (OwnL pK V3 w3.heap.size (.slice B3 (l0.length + 1) d3) (l0 ++ [⟨true, 0, a1, a2, rk⟩])) := by unfold Hid; rw [← hV3]; exact hA.of_block (fun k hk => heap_setCell_other _ _ _ _ (fun e => hap k hk e))
            have DV : Hid (V3.cell? ⟨w4.heap.size, 0, none⟩ = some (.slice B3 (l0.length + 1) d3)) := by unfold Hid; rw [cell_of_row _ _ 0 _ _ _ hh']; rfl
            have HBV : Hid (Below w3.heap.size w3 V3) := by unfold Hid; rw [← hV3]; exact (Mp_5.out.grown hG hbase (fun k hk => (Oown_5.out.lt_ k hk).1)).setCell (p := ⟨w4.heap.size, 0, none⟩) Spc.out _
            have HZV : Hid (w4.heap.size < V3.heap.size) := by unfold Hid; rw [← hV3]; have h := HSY.out; have h2 := hG.size; simp; omega
            clear hA hG hM hh hh' hap HH1 HSY HAP Spc hbase hP3 Mp_5 Oown_5 Fown_5 Fbown_5 HB5 dbown_5
            clear Fv_5
            clear Fbox_5
            clear Fb_5
            clear Fx_5
            have b6 := HBV.out
            have HB6 := Lib.hid (HBp.out.trans (b6.mono HBp.out.size))
            have Fv_6 := Lib.hid ((Kv.out.below_ b6 (Nat.le_refl _)).mono_ b6.size)
            have Fb_6 := Lib.hid ((Kb.out.below_ b6 (Nat.le_refl _)).mono_ b6.size)
            have Fx_6 := Lib.hid ((Kx.out.below_ b6 (Nat.le_refl _)).mono_ b6.size)
            have Fbown_6 : Hid (BoxAt V3 V3.heap.size w4.heap.size (.slice B3 (l0.length + 1) d3)) := ⟨HZV.out, DV.out⟩
            have dbown_6 := DV.out
            have Fown_6 := Lib.hid (HOV.out.form_.mono_ (Nat.le_refl _))
            clear b6 HBV HBp Kv Kb Kx HZV HOV DV
            obtain ⟨Q, hQ⟩ : ∃ Q, l0 ++ [(⟨true, 0, a1, a2, rk⟩ : Vo.Pc)] = Q := ⟨_, rfl⟩
            have HQL : Hid (Q.length = l0.length + 1) := by unfold Hid; rw [← hQ]; simp
            rw [hQ] at Fown_6
            have HPQ : Hid (Q.length ≤ 501) := by unfold Hid; rw [HQL.out]; have := HP.out; omega
            by_cases hm2 : Vo.May Q
            · skip
              have HE2 : Hid (Bp.encE Q l3 = (Bp.enc Q l3, 0)) := (if_pos hm2).trans (if_neg HL3.out)
              have HLS : Hid (∀ i, x[i]? = some a1 → x[i + 1]? = some a2 → (Bp.enc Q l3).length < x.length) := fun i h1 h2 => by
                rw [← HXE.out] at h1 h2 ⊢
                rw [← hQ]
                exact Bp.enc_less HMY.out HOK.out HOB.out HRK.out rfl h1 h2
              have HMR : Hid ((∀ i, ¬ (x[i]? = some a1 ∧ x[i + 1]? = some a2)) → Bp.enc Q l3 = x) := fun h => by
                rw [← HXE.out] at h ⊢
                rw [← hQ]
                exact Bp.enc_more HMY.out HOK.out HOB.out HRK.out h
              obtain ⟨y, hy⟩ : ∃ y, Bp.enc Q l3 = y := ⟨_, rfl⟩
              rw [hy] at HE2 HLS HMR
              clear hm2 hy hQ HXE HMY HRK HL3
              have C7 := Lib.hid (pencode_any Q _ l3 _ _ V3 Fown_6.out Fb_6.out (Nat.le_refl _) HPQ.out HFW.out)
              rw [HE2.out] at C7
              go_wp2_with (fail)
              refine (C7.out).mono ?_
              rintro e w7 ⟨A7, c7, rfl, o7, b7⟩
              have HB7 := Lib.hid (HB6.out.trans (b7.mono HB6.out.size))
              have Fv_7 := Lib.hid ((Fv_6.out.below_ b7 (Nat.le_refl _)).mono_ b7.size)
              have Fb_7 := Lib.hid ((Fb_6.out.below_ b7 (Nat.le_refl _)).mono_ b7.size)
              have Fx_7 := Lib.hid ((Fx_6.out.below_ b7 (Nat.le_refl _)).mono_ b7.size)
              have Fbown_7 := Lib.hid ((Fbown_6.out.below_ b7 (Nat.le_refl _)).mono_ b7.size)
              have Fown_7 := Lib.hid ((Fown_6.out.below_ b7 (Nat.le_refl _)).mono_ b7.size)
              have dbown_7 := Fbown_7.out.2
              have Fy_7 := Lib.hid (o7.form_)
              clear C7 b7 HB6 Fv_6 Fb_6 Fx_6 Fbown_6 Fown_6 dbown_6 o7
              clear Fv_7
              clear Fb_7
              clear Fown_7
              simp only [Int.natCast_zero]
              go_wp2
              go_loopw [16] (fun i wr => ∃ k : Nat, (k = 0 ∨ k + 1 ≤ x.length) ∧ i = .int .i64 (k : Nat) ∧ Hid (∀ j, j < k → ¬ (x[j]? = some a1 ∧ x[j + 1]? = some a2)) ∧ Hid (Below w7.heap.size w7 wr)) (fun i _ => x.length - (intOf i).toNat)
              case atStart => exact ⟨0, .inl rfl, rfl, fun j hj => absurd hj (Nat.not_lt_zero j), Below.refl _ _⟩
              case round =>
                obtain ⟨k, hk, rfl, HNJ, hbr⟩ := hrel
                have hk60 := HLX.out
                have wk : IntKind.i64.wrap ((k : Int) + 1) = (k : Int) + 1 := by rw [IntKind.wrap_i64]; omega
                by_cases hlt : k + 1 < x.length
                · skip
                  have hki : (k : Int) + 1 < (x.length : Int) := by omega
                  have hk0 : (0 : Int) ≤ (k : Int) := by omega
                  have hk1 : (k : Int) < (x.length : Int) := by omega
                  have hk2 : (0 : Int) ≤ (k : Int) + 1 := by omega
                  have hk3 : ((k : Int) + 1).toNat = k + 1 := by omega
                  have HXR := Fx_7.out.below_ hbr.out (Nat.le_refl _)
                  obtain ⟨b2, o2, p, rfl, hb2, hp, hqp, hcp⟩ := HXR.int_ (k := k) (by omega)
                  obtain ⟨b2', o2', q, e2, hb2', hq, hqq, hcq⟩ := HXR.int_ (k := k + 1) hlt
                  injection e2 with e2
                  injection e2 with e3 e4
                  subst e3 e4
                  have HLT := Lib.hid hlt
                  have HNX : Hid (¬ (p = a1 ∧ q = a2) → ∀ j, j < k + 1 → ¬ (x[j]? = some a1 ∧ x[j + 1]? = some a2)) := fun hn j hj => by
                    by_cases hjk : j < k
                    · exact HNJ.out j hjk
                    · obtain rfl : j = k := by omega
                      rw [hqp, hqq]
                      exact fun ⟨h1, h2⟩ => hn ⟨Option.some.inj h1, Option.some.inj h2⟩
                  have HYX : Hid (p = a1 → q = a2 → y.length < x.length) := fun h1 h2 => HLS.out k (by rw [hqp, h1]) (by rw [hqq, h2])
                  clear hp hq hqp hqq hb2 hb2' hlt hk HXR HNJ HLS HMR
                  by_cases e1 : p = a1
                  · skip
                    have e1b : (p == a1) = true := beq_iff_eq.2 e1
                    by_cases e2 : q = a2
                    · skip
                      have e2b : (q == a2) = true := beq_iff_eq.2 e2
                      have hyx : (y.length : Int) < (x.length : Int) := by have := HYX.out e1 e2; omega
                      subst e1 e2
                      clear HYX HNX e1b e2b
                      have HB9 : Hid (Below w.heap.size w wr) := HB7.out.trans (hbr.out.mono HB7.out.size)
                      have C9 := Lib.hid (works_bp wr)
                      clear hbr
                      go_wp2_with (fail)
                      refine (C9.out).mono ?_
                      rintro e wz ⟨rfl, bz⟩
                      have HBy := Lib.hid (HB9.out.trans (bz.mono HB9.out.size))
                      clear C9 bz
                      go_wp2
                      go_ret
                      exact ⟨rfl, HBy.out⟩
                    · skip
                      have e2b : (q == a2) = false := beq_eq_false_iff_ne.2 e2
                      have HN2 := Lib.hid (HNX.out (fun h => e2 h.2))
                      clear HNX e1 e2
                      clear HYX
                      go_wp2
                      exact ⟨⟨k + 1, .inr HLT.out, by go_num, HN2.out, hbr⟩, by simp [intOf]; have := HLT.out; omega⟩
                  · skip
                    have e1b : (p == a1) = false := beq_eq_false_iff_ne.2 e1
                    have HN2 := Lib.hid (HNX.out (fun h => e1 h.1))
                    clear HNX e1
                    clear HYX
                    go_wp2
                    exact ⟨⟨k + 1, .inr HLT.out, by go_num, HN2.out, hbr⟩, by simp [intOf]; have := HLT.out; omega⟩
                · skip
                  have hki : ¬ (k : Int) + 1 < (x.length : Int) := by omega
                  have HEQ : Hid (y = x) := HMR.out (fun i hi => by
                    obtain ⟨h1, h2⟩ := hi
                    have := (List.getElem?_eq_some_iff.1 h2).1
                    exact HNJ.out i (by omega) ⟨h1, h2⟩)
                  clear HNJ HMR HLS hk hlt
                  have b8 := hbr.out
                  have HB8 := Lib.hid (HB7.out.trans (b8.mono HB7.out.size))
                  have Fx_8 := Lib.hid ((Fx_7.out.below_ b8 (Nat.le_refl _)).mono_ b8.size)
                  have Fbown_8 := Lib.hid ((Fbown_7.out.below_ b8 (Nat.le_refl _)).mono_ b8.size)
                  have Fy_8 := Lib.hid ((Fy_7.out.below_ b8 (Nat.le_refl _)).mono_ b8.size)
                  have dbown_8 := Fbown_8.out.2
                  clear b8 HB7 Fx_7 Fbown_7 Fy_7 dbown_7
                  clear hbr
                  have heq := HEQ.out
                  subst heq
                  have C9 := Lib.hid (ints_lv _ _ _ _ _ _ wr Fx_8.out Fy_8.out)
                  simp only [decide_true] at C9
                  go_wp2_with (fail)
                  refine (C9.out).mono ?_
                  rintro e w9 ⟨rfl, b9⟩
                  have HB9 := Lib.hid (HB8.out.trans (b9.mono HB8.out.size))
                  have Fx_9 := Lib.hid ((Fx_8.out.below_ b9 (Nat.le_refl _)).mono_ b9.size)
                  have Fbown_9 := Lib.hid ((Fbown_8.out.below_ b9 (Nat.le_refl _)).mono_ b9.size)
                  have Fy_9 := Lib.hid ((Fy_8.out.below_ b9 (Nat.le_refl _)).mono_ b9.size)
                  have dbown_9 := Fbown_9.out.2
                  clear C9 b9 HB8 Fx_8 Fbown_8 Fy_8 dbown_8
                  clear Fx_9
                  clear Fy_9
                  have C10 := Lib.hid (works_bp w9)
                  go_wp2_with (fail)
                  refine (C10.out).mono ?_
                  rintro e w10 ⟨rfl, b10⟩
                  have HB10 := Lib.hid (HB9.out.trans (b10.mono HB9.out.size))
                  have Fbown_10 := Lib.hid ((Fbown_9.out.below_ b10 (Nat.le_refl _)).mono_ b10.size)
                  have dbown_10 := Fbown_10.out.2
                  clear C10 b10 HB9 Fbown_9 dbown_9
                  go_wp2
                  go_ret
                  exact ⟨rfl, HB10.out⟩
            · skip
              have HE2 : Hid (Bp.encE Q l3 = ([], 11)) := if_neg hm2
              clear hm2 hQ HXE HMY HRK HL3
              have C7 := Lib.hid (pencode_any Q _ l3 _ _ V3 Fown_6.out Fb_6.out (Nat.le_refl _) HPQ.out HFW.out)
              rw [HE2.out] at C7
              go_wp2_with (fail)
              refine (C7.out).mono ?_
              rintro e w7 ⟨A7, c7, rfl, o7, b7⟩
              have HB7 := Lib.hid (HB6.out.trans (b7.mono HB6.out.size))
              have Fv_7 := Lib.hid ((Fv_6.out.below_ b7 (Nat.le_refl _)).mono_ b7.size)
              have Fb_7 := Lib.hid ((Fb_6.out.below_ b7 (Nat.le_refl _)).mono_ b7.size)
              have Fx_7 := Lib.hid ((Fx_6.out.below_ b7 (Nat.le_refl _)).mono_ b7.size)
              have Fbown_7 := Lib.hid ((Fbown_6.out.below_ b7 (Nat.le_refl _)).mono_ b7.size)
              have Fown_7 := Lib.hid ((Fown_6.out.below_ b7 (Nat.le_refl _)).mono_ b7.size)
              have dbown_7 := Fbown_7.out.2
              have Fy_7 := Lib.hid (o7.form_)
              clear C7 b7 HB6 Fv_6 Fb_6 Fx_6 Fbown_6 Fown_6 dbown_6 o7
              clear Fv_7
              clear Fb_7
              clear Fown_7
              clear Fx_7
              clear Fy_7
              have C8 := Lib.hid (works_bp w7)
              go_wp2_with (fail)
              refine (C8.out).mono ?_
              rintro e w8 ⟨rfl, b8⟩
              have HB8 := Lib.hid (HB7.out.trans (b8.mono HB7.out.size))
              have Fbown_8 := Lib.hid ((Fbown_7.out.below_ b8 (Nat.le_refl _)).mono_ b8.size)
              have dbown_8 := Fbown_8.out.2
              clear C8 b8 HB7 Fbown_7 dbown_7
              go_wp2
              go_ret
              exact ⟨rfl, HB8.out⟩
        · skip
          have hEi : ((E : Int) != 0) = true := by rw [bne_iff_ne]; omega
          have HX := Lib.hid hx
          clear hx hE
          have C3 := Lib.hid (pencode_any l0 _ l3 _ _ wr Fv_2.out Fb_2.out (Nat.le_refl _) HP1.out HFW.out)
          rw [HX.out] at C3
          go_wp2_with (fail)
          refine (C3.out).mono ?_
          rintro e w3 ⟨A3, c3, rfl, o3, b3⟩
          have HB3 := Lib.hid (HB2.out.trans (b3.mono HB2.out.size))
          have Fv_3 := Lib.hid ((Fv_2.out.below_ b3 (Nat.le_refl _)).mono_ b3.size)
          have Fbox_3 := Lib.hid ((Fbox_2.out.below_ b3 (Nat.le_refl _)).mono_ b3.size)
          have Fb_3 := Lib.hid ((Fb_2.out.below_ b3 (Nat.le_refl _)).mono_ b3.size)
          have dbox_3 := Fbox_3.out.2
          have Fx_3 := Lib.hid (o3.form_)
          clear C3 b3 HB2 Fv_2 Fbox_2 Fb_2 dbox_2 o3
          clear Fv_3
          clear Fb_3
          clear Fx_3
          have C4 := Lib.hid (works_bp w3)
          go_wp2_with (fail)
          refine (C4.out).mono ?_
          rintro e w4 ⟨rfl, b4⟩
          have HB4 := Lib.hid (HB3.out.trans (b4.mono HB3.out.size))
          have Fbox_4 := Lib.hid ((Fbox_3.out.below_ b4 (Nat.le_refl _)).mono_ b4.size)
          have dbox_4 := Fbox_4.out.2
          clear C4 b4 HB3 Fbox_3 dbox_3
          go_wp2
          go_ret
          exact ⟨rfl, HB4.out⟩

/-! ### From the walk to the row -/
set_option maxRecDepth 100000 in
theorem lifted (os : Os) (started : os.Started) (H : Type) (enc : TypeId × Value → H) :
    ReturnsInHanded {} Try.checked os 9 .any (Rows.bpeMoreSpec.pre6 enc Try.prog Try.f9 Rows.bpeMoreRow.domain false) (Rows.bpeMoreSpec.post enc Try.prog Try.f9 false true false false) := by
  refine returnsInHanded_of_change (C := Try.checked) own started (by kernel_rfl) Try.func9
    (ChangeSpec.witness6 (enc := enc) (C := Try.checked) false ⟨#[], #[.agg #[.slice none 0 0], .int .i64 0, .int .i64 0, .slice none 0 0], []⟩ 8 (by kernel_rfl) (by kernel_rfl) (by kernel_rfl) (by kernel_rfl)) ?_
  intro W base args ds gs before hval0 hW hcnd _
  have hval : ∀ (j : Nat) t v, Try.f9.params[j]? = some t → args[j]? = some v → Value.okWide Try.prog W .any base t v := hval0
  have hW' := hW
  obtain ⟨p, q, hA0, hV, rfl, hfz, hnd⟩ := hW
  have hA : DataW.TrodAll enc Try.prog W 0 (fun _ => true) true Try.f9.params.toList args.toList ds p := hA0
  rw [Try.params9] at hA hval
  obtain ⟨v0, vs0, d0, ds0, p0, q0, hargs, rfl, rfl, h0, r0⟩ := trodAll_cons hA
  obtain ⟨v1, vs1, d1, ds1, p1, q1, rfl, rfl, rfl, h1, r1⟩ := trodAll_cons r0
  obtain ⟨v2, vs2, d2, ds2, p2, q2, rfl, rfl, rfl, h2, r2⟩ := trodAll_cons r1
  obtain ⟨v3, vs3, d3, ds3, p3, q3, rfl, rfl, rfl, h3, r3⟩ := trodAll_cons r2
  obtain ⟨rfl, rfl, rfl⟩ := trodAll_nil r3
  obtain rfl : args = #[v0, v1, v2, v3] := by cases args; simp_all
  obtain ⟨rfl, rfl⟩ := trodVars_none hV
  have k0 := h0
  have lt0 : ∀ x ∈ p0, x.block < W.heap.size := by obtain ⟨m, hm⟩ := k0; exact DataW.trod_lt m _ _ _ hm
  obtain ⟨u0, l0, rfl, hb0⟩ := voc_in (hval 0 24 v0 rfl rfl) h0
  obtain ⟨a1, rfl, rfl, rfl, w1⟩ := open_int Try.underlying3 (hval 1 3 v1 rfl rfl) h1
  obtain ⟨a2, rfl, rfl, rfl, w2⟩ := open_int Try.underlying3 (hval 2 3 v2 rfl rfl) h2
  obtain ⟨a3, len3, cap3, rfl⟩ := okWide_slice Try.underlying25 (hval 3 25 v3 rfl rfl)
  have k3 := h3
  have lt3 : ∀ x ∈ p3, x.block < W.heap.size := by obtain ⟨m, hm⟩ := k3; exact DataW.trod_lt m _ _ _ hm
  obtain ⟨l3, len_3, hb3⟩ : ∃ l : List Nat, l.length = len3 ∧ Lv yK W W.heap.size (.slice a3 len3 cap3) l := by
    obtain ⟨fuel, hf⟩ := h3
    exact octs_in hf
  clear hA0 hval0
  refine (walk W u0 l0 hb0 a1 w1 a2 w2 (.slice a3 len3 cap3) l3 hb3).mono fun e W' ⟨he, bel⟩ => ?_
  subst he
  exact ⟨_, rfl, _, _, _, [], _, [], hW', trodAll_mk1 (shut_bool Try.underlying4 _), (trodAll_cons_mk (Below.trod laidOut (by kernel_rfl) (of_decide_eq_true (by kernel_rfl)) k0 bel lt0) (trodAll_cons_mk (shut_int Try.underlying3 w1) (trodAll_cons_mk (shut_int Try.underlying3 w2) (trodAll_cons_mk (Below.trod laidOut (by kernel_rfl) (of_decide_eq_true (by kernel_rfl)) k3 bel lt3) trodAll_mk0)))), rfl, bel.frame _, fun h => by cases h⟩

theorem proved : Rows.BpeMoreSaid :=
  OpenClaim.holds_of_wide 9 Try.f9 rfl rfl rfl rfl rfl rfl rfl ⟨rfl, rfl, rfl, rfl, rfl⟩ rfl rfl rfl rfl rfl (by kernel_rfl) Try.func9 (by kernel_rfl)
    (of_decide_eq_true (by kernel_rfl)) (by unfold Func.isWrapper; first | (rw [if_pos (by decide +kernel)]; kernel_rfl) | (rw [if_neg (by decide +kernel)]; exact ⟨rfl, rfl⟩))
    (fun os started H enc _ => lifted os started H enc)

end Go.Proofs.Ytaedhccmdbodlaa.bpeMore
