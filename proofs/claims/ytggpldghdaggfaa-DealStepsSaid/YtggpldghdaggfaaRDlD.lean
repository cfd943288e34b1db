/-
  stookref06.Back.
-/
import Derived.Test.YtggpldghdaggfaaRDlB
namespace Go.Proofs.Ytggpldghdaggfaa
open Go.RowKit
set_option linter.unusedVariables false

namespace Dl
/-- Where each number stands. -/
def inv (now whr : List Int) : Prop := whr.length = now.length ∧ ∀ y, y < now.length → whr[y]? = some ((pos now (y : Int) : Nat) : Int)
theorem inv_ids (n : Nat) : inv (ids n) (ids n) := by
  refine ⟨rfl, fun y hy => ?_⟩
  rw [ids_len] at hy
  rw [pos_at (ids_nodup n) (ids_at hy), ids_at hy]
theorem inv_swap {now whr : List Int} (ho : now.Perm (ids now.length)) (h : inv now whr) {i q x k : Nat} (hi : i < now.length) (hq : q < now.length) (hx : now[i]? = some (x : Int)) (hk : pos now (q : Int) = k) :
    inv (swap now i k) (((whr.set q (i : Int)).set x (k : Int))) ∨ i = k := by
  by_cases e : i = k
  · exact .inr e
  left
  have hn : now.Nodup := ho.nodup_iff.2 (ids_nodup _)
  have hqm : (q : Int) ∈ now := ho.mem_iff.2 (mem_ids.2 ⟨by omega, by omega⟩)
  have hkl : k < now.length := by rw [← hk]; exact pos_lt hqm
  have hkq : now[k]? = some (q : Int) := by rw [← hk]; exact at_pos hqm
  have hxb := mem_ids.1 (ho.mem_iff.1 (List.mem_of_getElem? hx))
  have hxl : x < now.length := by omega
  have hxq : x ≠ q := by
    intro e2
    subst e2
    exact e (nodup_at hn hx hkq)
  have hs := swap_perm hi hkl
  have hsn : (swap now i k).Nodup := hs.nodup_iff.2 hn
  refine ⟨by rw [List.length_set, List.length_set, swap_len]; exact h.1, fun y hy => ?_⟩
  rw [swap_len] at hy
  rw [List.getElem?_set, List.getElem?_set, List.length_set]
  by_cases e1 : x = y
  · subst e1
    rw [if_pos rfl, if_pos (by rw [h.1]; exact hxl)]
    congr 2
    refine (pos_at hsn ?_).symm
    rw [swap_at hi hkl, if_pos rfl, at_of hx]
  · rw [if_neg e1]
    by_cases e2 : q = y
    · subst e2
      rw [if_pos rfl, if_pos (by rw [h.1]; exact hq)]
      congr 2
      refine (pos_at hsn ?_).symm
      rw [swap_at hi hkl, if_neg (fun e3 => e e3.symm), if_pos rfl, at_of hkq]
    · rw [if_neg e2, h.2 y hy]
      have hym : (y : Int) ∈ now := ho.mem_iff.2 (mem_ids.2 ⟨by omega, by omega⟩)
      have hp := at_pos hym
      congr 2
      refine (pos_at hsn ?_).symm
      rw [swap_at hi hkl, if_neg ?_, if_neg ?_]
      · exact hp
      · intro e3
        rw [← e3, hx] at hp
        have := Option.some.inj hp
        omega
      · intro e3
        rw [← e3, hkq] at hp
        have := Option.some.inj hp
        omega
/-- The same where a number stands at its place: nothing is turned. -/
theorem inv_same {now whr : List Int} (ho : now.Perm (ids now.length)) (h : inv now whr) {i q : Nat} (hi : i < now.length) (hq : q < now.length) (hk : pos now (q : Int) = i) :
    swap now i i = now ∧ ((whr.set q (i : Int)).set q (i : Int)).set q (i : Int) = whr ∧ now[i]? = some (q : Int) := by
  have hqm : (q : Int) ∈ now := ho.mem_iff.2 (mem_ids.2 ⟨by omega, by omega⟩)
  have hkq : now[i]? = some (q : Int) := by rw [← hk]; exact at_pos hqm
  refine ⟨?_, ?_, hkq⟩
  · refine List.ext_getElem? fun j => ?_
    rw [swap_at hi hi]
    by_cases e : i = j
    · subst e; rw [if_pos rfl]; exact (get_at hi).symm
    · rw [if_neg e, if_neg e]
  · refine List.ext_getElem? fun j => ?_
    simp only [List.getElem?_set, List.length_set]
    by_cases e : q = j
    · subst e
      rw [if_pos rfl, if_pos (by rw [h.1]; exact hq), h.2 q hq, hk]
    · rw [if_neg e, if_neg e, if_neg e]
end Dl

theorem run_push_i (n : Nat) : Dl.ids n ++ [(n : Int)] = Dl.ids (n + 1) := (Dl.ids_succ n).symm

set_option maxHeartbeats 600000 in
theorem rback_any (v : Value) (p : List Int) (B : Nat) (w : World) (hB : B ≤ w.heap.size) (h : Lv iK w B v p) :
    Calls Try.prog 21 #[v] w (IsLE iK (Dl.backE p) w) := by
  have HY := Lib.hid (rwhy_any v p B w hB h)
  have H0 := Lib.hid h
  obtain ⟨A, c, rfl, h1, h2, _⟩ := h
  have hl : p.length ≤ 9223372036854775807 := by simp only [maxLen] at h2; omega
  clear h1 h2
  by_cases hy : Dl.why p = 0
  · obtain ⟨hm, ho⟩ := Dl.why_zero.1 hy
    have HX : Hid (Dl.backE p = (Dl.back p, 0)) := by unfold Hid Dl.backE; rw [if_pos hy]
    have HM := Lib.hid hm
    have HO := Lib.hid ho
    rw [hy] at HY
    clear hy hm ho
    go_enter Try.func21, Try.ntmps21
    go_wp2_with (fail)
    refine (HY.out).mono ?_
    rintro e w1 ⟨rfl, hb⟩
    have HB := Lib.hid hb
    clear hb HY
    go_wp2
    go_loopw [5, 6, 7] (fun u u2 i wr => ∃ k : Nat, k ≤ p.length ∧ i = .int .i64 k ∧ Hid (OwnL iK wr w.heap.size u (Dl.ids k)) ∧ Hid (OwnL iK wr w.heap.size u2 (Dl.ids k)) ∧ Hid (Apart u u2) ∧ Below w.heap.size w wr) (fun _ _ i _ => p.length - (intOf i).toNat)
    case atStart => exact ⟨0, by omega, rfl, OwnL.nil_ _ _ _, OwnL.nil_ _ _ _, Apart.nil_ _, HB.out⟩
    case round =>
      obtain ⟨k, hk, rfl, HT, HT2, HA, hbr⟩ := hrel
      have hbase : w.heap.size ≤ wr.heap.size := hbr.size
      clear HB
      by_cases hlt : k < p.length
      · have HI : Hid (I64 (k : Int)) := i64_nat (by omega)
        have HE := Lib.hid (Dl.ids_len k)
        have hmm := HM.out
        have HS8 : Hid ((Dl.ids k).length + 1 ≤ 1000000) := by unfold Hid; rw [HE.out]; omega
        clear hmm
        go_wp2_with (at_builtin; first | (refine wpList_push_m _ iK rfl _ _ rfl w.heap.size u5 rfl (Dl.ids k) HT.out rfl (k : Int) HI.out _ rfl _ rfl (by have := HS8.out; show _ * 8 ≤ _; omega) (by have := HS8.out; simp only [maxLen]; omega) hbase ?_; intro A3 c3 w2 hA hG hM; have HG := Lib.hid (hbr.grown hG hbase (fun k hk => (HT.out.lt_ k hk).1)); have HT3 := Lib.hid (HT2.out.kept_ hG HA.out.symm.ne_); have HA3 := Lib.hid (HA.out.symm.moved hM (fun k hk => (HT2.out.lt_ k hk).2)); have HS := Lib.hid hA; clear hA hG hM HT2 HA HT) | go_must (refine wpList_push_m _ iK rfl _ _ rfl w.heap.size u6 rfl (Dl.ids k) HT3.out rfl (k : Int) HI.out _ rfl _ rfl (by have := HS8.out; show _ * 8 ≤ _; omega) (by have := HS8.out; simp only [maxLen]; omega) HG.out.size ?_; intro A4 c4 w3 hA hG hM))
        have HG2 := Lib.hid (HG.out.grown hG HG.out.size (fun k hk => (HT3.out.lt_ k hk).1))
        have hs := HS.out
        have ha3 := HA3.out
        rw [run_push_i, HE.out] at hA hs
        rw [HE.out] at hM ha3 ⊢
        have HS2 := Lib.hid (hs.kept_ hG ha3.symm.ne_)
        have HA4 := Lib.hid (ha3.symm.moved hM (fun k hk => (hs.lt_ k hk).2))
        have HT4 := Lib.hid hA
        clear hA hG hM HT3 HA3 HS HG HE HI hs ha3
        go_roundw
        case rel => exact ⟨k + 1, by omega, by go_num, HS2.out, HT4.out, HA4.out, HG2.out⟩
        case measure => simp [intOf]; omega
      · have hkN : k = p.length := by omega
        subst hkN
        obtain ⟨A2, c2, rfl, _⟩ := HT.out.form_
        obtain ⟨A3, c3, rfl, _⟩ := HT2.out.form_
        have HE := Dl.ids_len p.length
        have HN0 := HT
        have HW0 := HT2
        have HAP := HA
        rw [HE] at HN0 HW0 HAP ⊢
        have HBr := Lib.hid hbr
        clear HE HT HT2 HA hbr hlt hk
        go_wp2
        go_loopw [8, 9] (fun u i wr => ∃ (I : Int) (out now whr : List Int), i = .int .i64 I ∧ -1 ≤ I ∧ I < p.length ∧ Hid (out ++ Dl.backs p I.toNat now = Dl.back p) ∧ Hid (now.length = p.length) ∧ Hid (now.Perm (Dl.ids now.length)) ∧ Hid (Dl.inv now whr) ∧ Hid (OwnL iK wr w.heap.size (.slice A2 p.length c2) now) ∧ Hid (OwnL iK wr w.heap.size (.slice A3 p.length c3) whr) ∧ Hid (OwnL iK wr w.heap.size u out) ∧ Hid (Apart u (.slice A2 p.length c2)) ∧ Hid (Apart u (.slice A3 p.length c3)) ∧ Hid ((out.length : Int) + I ≤ 65536) ∧ Below w.heap.size w wr) (fun _ i _ => (intOf i).toNat)
        case atStart =>
          refine ⟨(p.length : Int) - 1, [], Dl.ids p.length, Dl.ids p.length, rfl, by omega, by omega, ?_, Dl.ids_len _, ?_, Dl.inv_ids _, HN0.out, HW0.out, OwnL.nil_ _ _ _, Apart.nil_ _, Apart.nil_ _, ?_, HBr.out⟩
          · unfold Hid Dl.back; rw [show ((p.length : Int) - 1).toNat = p.length - 1 by omega]; simp
          · unfold Hid; rw [Dl.ids_len]
          · have := HM.out; unfold Hid; simp only [List.length_nil]; omega
        case round =>
          obtain ⟨I, out, now, whr, rfl, hI0, hI1, HE, HNl, HP, HV, HN, HW, HU, HA1, HA2, HL, hbr⟩ := hrel
          have hbase : w.heap.size ≤ wr.heap.size := hbr.size
          clear HN0 HW0 HBr
          by_cases hlt : 1 ≤ I
          · obtain ⟨j, rfl⟩ : ∃ j : Nat, I = (j : Int) + 1 := ⟨(I - 1).toNat, by omega⟩
            have hjp : j + 1 < p.length := by omega
            obtain ⟨pb, po, x0, rfl, hpb, hx0, hd, hcell⟩ := (H0.out.below_ hbr hB).int_ hjp
            have hq0 := HO.out.1 x0 (List.mem_of_getElem? hd)
            obtain ⟨q, rfl⟩ := Int.eq_ofNat_of_zero_le hq0.1
            have hq : q < p.length := by omega
            have hnl := HNl.out
            have hn := HP.out.nodup_iff.2 (Dl.ids_nodup _)
            -- what stands at place j + 1 of now
            obtain ⟨gn, y, en, -, hgn, hyI, hy, hcn, hfn⟩ := HN.out.int_ (k := j + 1) (by omega)
            have hyb := Dl.mem_ids.1 (HP.out.mem_iff.1 (List.mem_of_getElem? hy))
            obtain ⟨x, rfl⟩ := Int.eq_ofNat_of_zero_le hyb.1
            have hx : x < now.length := by omega
            -- where q stands
            have hwq := HV.out.2 q (by omega)
            obtain ⟨gw, z, ew, -, hgw, hzI, hz, hcw, hfw⟩ := HW.out.int_ (k := q) (by rw [HV.out.1]; omega)
            rw [hwq] at hz
            obtain ⟨k, hk⟩ : ∃ k, Dl.pos now (q : Int) = k := ⟨_, rfl⟩
            rw [hk] at hz hwq
            obtain rfl := (Option.some.inj hz).symm
            have hqm : (q : Int) ∈ now := HP.out.mem_iff.2 (Dl.mem_ids.2 ⟨by omega, by omega⟩)
            have hkl : k < now.length := by rw [← hk]; exact Dl.pos_lt hqm
            have hkq : now[k]? = some (q : Int) := by rw [← hk]; exact Dl.at_pos hqm
            subst en ew
            have hap : gn ≠ gw := fun e => HAP.out gn rfl (by rw [e]; rfl)
            have he := HE.out
            rw [show ((j : Int) + 1).toNat = j + 1 by omega, Dl.backs, Dl.at_of hd, hk] at he
            have HE2 : Hid ((out ++ [(k : Int)]) ++ Dl.backs p j (Dl.swap now (j + 1) k) = Dl.back p) := by unfold Hid; rw [List.append_assoc]; exact he
            have HI : Hid (I64 (k : Int)) := hzI
            have HLo : Hid (out.length ≤ 65536) := by have := HL.out; unfold Hid; omega
            have HL2 : Hid (((out ++ [(k : Int)]).length : Int) + (j : Int) ≤ 65536) := by have := HL.out; unfold Hid; simp; omega
            have hqi : (q : Int) < (p.length : Int) := by omega
            have hji : (j : Int) + 1 < (p.length : Int) := by omega
            have HD := Lib.hid hd
            have HYx := Lib.hid hy
            have HKQ := Lib.hid hkq
            have HK := Lib.hid hk
            clear he hd hy hwq hkq hz hx0 hq0 hyb hk HE HL hzI hn hqm
            go_wp2_with (at_builtin; go_must (refine wpList_push_m _ iK rfl _ _ rfl w.heap.size u8 rfl out HU.out rfl (k : Int) HI.out _ rfl _ rfl (by have := HLo.out; show _ * 8 ≤ _; omega) (by have := HLo.out; simp only [maxLen]; omega) hbase ?_))
            intro A5 c5 w2 hA hG hM
            have hbr2 := hbr.grown hG hbase (fun k hk => (HU.out.lt_ k hk).1)
            have hn2 := HN.out.kept_ hG HA1.out.symm.ne_
            have hw2 := HW.out.kept_ hG HA2.out.symm.ne_
            have HAa := Lib.hid ((HA1.out.symm.moved hM (fun k hk => (HN.out.lt_ k hk).2)).symm)
            have HAb := Lib.hid ((HA2.out.symm.moved hM (fun k hk => (HW.out.lt_ k hk).2)).symm)
            have hcn2 : w2.cell? ⟨gn, j + 1, none⟩ = some (.int .i64 (x : Int)) := hG.cell hcn (fun e => HA1.out gn e.symm rfl)
            have hne8 : some pb ≠ u8.ownBlock := fun e => by have := (HU.out.lt_ pb e.symm).1; omega
            have hcell2 : w2.cell? ⟨pb, po + (j + 1), none⟩ = some (.int .i64 (q : Int)) := hG.cell hcell hne8
            have hqI : I64 (q : Int) := i64_nat (by have := HM.out; omega)
            have hjI : I64 ((j : Int) + 1) := by have := HM.out; unfold I64; omega
            have hpb' : pb ≠ gn := by omega
            have hwl : q < whr.length := by rw [HV.out.1]; omega
            have hxl : x < whr.length := by rw [HV.out.1]; exact hx
            have hneW : (Value.slice (some ⟨gw, 0, none⟩) p.length c3).ownBlock ≠ some gn := fun e => hap (Option.some.inj e).symm
            have hneN : (Value.slice (some ⟨gn, 0, none⟩) p.length c2).ownBlock ≠ some gw := fun e => hap (Option.some.inj e)
            -- now: place j + 1
            have f1 := hn2.cool_ (j + 1)
            obtain ⟨s1, g1⟩ := hn2.setInt_ (j := j + 1) (by omega) hqI
            have b1 := hbr2.setCell (p := ⟨gn, j + 1, none⟩) hgn (.int .i64 (q : Int))
            obtain ⟨W1, hW1⟩ : ∃ W, w2.setCell ⟨gn, j + 1, none⟩ (.int .i64 (q : Int)) = W := ⟨_, rfl⟩
            rw [hW1] at s1 g1 b1
            -- now: place k
            have f2 := s1.cool_ k
            obtain ⟨z2, -, q2⟩ := s1.was_ (k := k) (by rw [List.length_set]; exact hkl)
            obtain ⟨s2, g2⟩ := s1.setInt_ (j := k) (by rw [List.length_set]; exact hkl) hyI
            have b2 := b1.setCell (p := ⟨gn, k, none⟩) hgn (.int .i64 (x : Int))
            obtain ⟨W2, hW2⟩ : ∃ W, W1.setCell ⟨gn, k, none⟩ (.int .i64 (x : Int)) = W := ⟨_, rfl⟩
            rw [hW2] at s2 g2 b2
            have hcell3 : W1.cell? ⟨pb, po + (j + 1), none⟩ = some (.int .i64 (q : Int)) := g1.cell hcell2 (fun e => hpb' (Option.some.inj e))
            have hcell4 : W2.cell? ⟨pb, po + (j + 1), none⟩ = some (.int .i64 (q : Int)) := g2.cell hcell3 (fun e => hpb' (Option.some.inj e))
            have hnow : (now.set (j + 1) (q : Int)).set k (x : Int) = Dl.swap now (j + 1) k := by unfold Dl.swap; rw [Dl.at_of HKQ.out, Dl.at_of HYx.out]
            rw [hnow] at s2
            have hw4 := (hw2.kept_ g1 (.inr hneW)).kept_ g2 (.inr hneW)
            -- where: place q, place x
            have f3 := hw4.cool_ q
            obtain ⟨z3, -, q3⟩ := hw4.was_ hwl
            obtain ⟨s3, g3⟩ := hw4.setInt_ (j := q) hwl hjI
            have b3 := b2.setCell (p := ⟨gw, q, none⟩) hgw (.int .i64 ((j : Int) + 1))
            obtain ⟨W3, hW3⟩ : ∃ W, W2.setCell ⟨gw, q, none⟩ (.int .i64 ((j : Int) + 1)) = W := ⟨_, rfl⟩
            rw [hW3] at s3 g3 b3
            have f4 := s3.cool_ x
            obtain ⟨z4, -, q4⟩ := s3.was_ (k := x) (by rw [List.length_set]; exact hxl)
            obtain ⟨s4, g4⟩ := s3.setInt_ (j := x) (by rw [List.length_set]; exact hxl) HI.out
            have b4 := b3.setCell (p := ⟨gw, x, none⟩) hgw (.int .i64 (k : Int))
            obtain ⟨W4, hW4⟩ : ∃ W, W3.setCell ⟨gw, x, none⟩ (.int .i64 (k : Int)) = W := ⟨_, rfl⟩
            rw [hW4] at s4 g4 b4
            have f5 := s4.cool_ x
            obtain ⟨z5, -, q5⟩ := s4.was_ (k := x) (by rw [List.length_set, List.length_set]; exact hxl)
            obtain ⟨s5, g5⟩ := s4.setInt_ (j := x) (by rw [List.length_set, List.length_set]; exact hxl) hjI
            have b5 := b4.setCell (p := ⟨gw, x, none⟩) hgw (.int .i64 ((j : Int) + 1))
            obtain ⟨W5, hW5⟩ : ∃ W, W4.setCell ⟨gw, x, none⟩ (.int .i64 ((j : Int) + 1)) = W := ⟨_, rfl⟩
            rw [hW5] at s5 g5 b5
            have HNl2 : Hid ((Dl.swap now (j + 1) k).length = p.length) := by unfold Hid; rw [Dl.swap_len]; exact hnl
            have HP2 : Hid ((Dl.swap now (j + 1) k).Perm (Dl.ids (Dl.swap now (j + 1) k).length)) := by unfold Hid; rw [Dl.swap_len]; exact (Dl.swap_perm (by omega) hkl).trans HP.out
            have hu5 := ((hA.kept_ g1 (HAa.out.ne_)).kept_ g2 HAa.out.ne_)
            have hu6 := (hu5.kept_ g3 HAb.out.ne_).kept_ g4 HAb.out.ne_
            have HU7 := Lib.hid (hu6.kept_ g5 HAb.out.ne_)
            have HU6 := Lib.hid hu6
            have hn6 := (s2.kept_ g3 (.inr hneN)).kept_ g4 (.inr hneN)
            have HN7 := Lib.hid (hn6.kept_ g5 (.inr hneN))
            have HN6 := Lib.hid hn6
            have HB7 := Lib.hid b5
            have HB6 := Lib.hid b4
            have HS4 := Lib.hid s4
            have HS5 := Lib.hid s5
            have hxli : (x : Int) < (p.length : Int) := by omega
            have hkli : (k : Int) < (p.length : Int) := by omega
            have hinv := Dl.inv_swap HP.out HV.out (i := j + 1) (q := q) (by omega) (by omega) HYx.out HK.out
            clear s1 s2 s3 s4 s5 g1 g2 g3 g4 g5 hn2 hw2 hw4 hu5 hu6 hn6 b1 b2 b3 b4 b5 hbr2 hbr hA hG hM hcell hcn hcw hfn hfw hqI hjI hnl hwl hxl hnow HA1 HA2 HN HW HU hne8 hneW hneN hpb' hcell3 hap
            by_cases hjk : (j : Int) + 1 = (k : Int)
            · obtain ⟨e1, e2, e3⟩ := Dl.inv_same HP.out HV.out (i := j + 1) (q := q) (by have := HNl.out; omega) (by have := HNl.out; omega) (by rw [HK.out]; omega)
              have exq : x = q := by
                rw [HYx.out] at e3
                have := Option.some.inj e3
                omega
              have HV7 : Hid (Dl.inv (Dl.swap now (j + 1) k) (((whr.set q ((j : Int) + 1)).set x (k : Int)).set x ((j : Int) + 1))) := by
                unfold Hid
                have ek : k = j + 1 := by omega
                rw [ek, e1, exq]
                have e4 : (((j + 1 : Nat)) : Int) = (j : Int) + 1 := by omega
                rw [e4] at e2 ⊢
                rw [e2]
                exact HV.out
              have hjkb : ((j : Int) + 1 == (k : Int)) = true := by rw [beq_iff_eq]; exact hjk
              clear hinv e1 e2 e3 exq hjk
              go_wp2_with (fail)
              exact ⟨⟨(j : Int), out ++ [(k : Int)], Dl.swap now (j + 1) k, _, by go_num, by omega, by omega, HE2.out, HNl2.out, HP2.out, HV7.out, HN7.out, HS5.out, by simpa [Hid] using HU7.out, HAa.out, HAb.out, HL2.out, HB7.out⟩, by simp [intOf] <;> omega⟩
            · have HV6 : Hid (Dl.inv (Dl.swap now (j + 1) k) ((whr.set q ((j : Int) + 1)).set x (k : Int))) := by
                rcases hinv with h | h
                · unfold Hid
                  have e4 : (((j + 1 : Nat)) : Int) = (j : Int) + 1 := by omega
                  rw [e4] at h
                  exact h
                · omega
              have hjkb : ((j : Int) + 1 == (k : Int)) = false := by rw [beq_eq_false_iff_ne]; exact hjk
              clear hinv hjk
              go_wp2_with (fail)
              exact ⟨⟨(j : Int), out ++ [(k : Int)], Dl.swap now (j + 1) k, _, by go_num, by omega, by omega, HE2.out, HNl2.out, HP2.out, HV6.out, HN6.out, HS4.out, by simpa [Hid] using HU6.out, HAa.out, HAb.out, HL2.out, HB6.out⟩, by simp [intOf] <;> omega⟩
          · have he := HE.out
            rw [show I.toNat = 0 by omega, Dl.backs, List.append_nil] at he
            obtain ⟨A5, c5, rfl, _⟩ := HU.out.form_
            subst he
            clear HE
            go_wp2
            go_ret2
            exact IsLE.of HX.out rfl rfl HU.out hbr
  · have HX : Hid (Dl.backE p = ([], Dl.why p)) := by unfold Hid Dl.backE; rw [if_neg hy]
    obtain ⟨y, hye⟩ : ∃ y, Dl.why p = y := ⟨_, rfl⟩
    rw [hye] at HX HY hy
    have hyb : ((y : Int) != 0) = true := by rw [bne_iff_ne]; omega
    clear hye hy
    go_enter Try.func21, Try.ntmps21
    go_wp2_with (fail)
    refine (HY.out).mono ?_
    rintro e w1 ⟨rfl, hb⟩
    have HB := Lib.hid hb
    clear hb
    go_wp2
    go_ret2
    exact IsLE.none_b HX.out rfl HB.out
end Go.Proofs.Ytggpldghdaggfaa
