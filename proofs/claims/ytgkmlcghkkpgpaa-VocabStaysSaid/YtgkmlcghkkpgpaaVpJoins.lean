/-
  vocab.Joins.
-/
import Derived.Test.YtgkmlcghkkpgpaaVpSort
namespace Go.Proofs.Ytgkmlcghkkpgpaa
open Go.RowKit
set_option linter.unusedVariables false

set_option maxHeartbeats 4000000 in
theorem pjoins_any (P : List Vo.Pc) (v : Value) (B : Nat) (w : World) (hv : Lv pK w B v P) (hB : B ≤ w.heap.size) (hP : P.length ≤ 700) :
    Calls Try.prog 28 #[.agg #[v]] w (IsL1 iK (Vo.joinsE P) w) := by
  obtain ⟨W, hW⟩ : ∃ W, w.alloc (.cells #[v] 24) = W := ⟨_, rfl⟩
  obtain ⟨d0, hsz, hb⟩ := boxed hW
  have HC := Lib.hid (pmay_any P v B W (hv.below_ hb hB) (Nat.le_trans hB hb.size))
  have HB := Lib.hid hb
  have HV := Lib.hid hv
  have HSZ := Lib.hid hsz
  have HD0 := Lib.hid d0
  obtain ⟨A, cc, rfl, h1, h2, _, _⟩ := hv
  have hl : P.length ≤ 9223372036854775807 := by omega
  clear h1 h2 hb hsz
  by_cases hm : Vo.May P
  · rw [decide_eq_true hm] at HC
    have HX : Hid (Vo.joinsE P = Vo.joinsTo P P.length) := by unfold Hid Vo.joinsE; rw [if_pos hm]
    have HG : Hid (Vo.Good P) := (Vo.may_iff.1 hm).2.1
    clear hm
    go_enter Try.func28, Try.ntmps28
    go_wp2_with (fail)
    refine (HC.out).mono ?_
    rintro e w1 ⟨rfl, hb⟩
    have HB1 := Lib.hid hb
    have HD1 : Hid (w1.cell? ⟨w.heap.size, 0, none⟩ = some (.slice A P.length cc)) := (hb.cell (p := ⟨w.heap.size, 0, none⟩) (by show w.heap.size < _; have := HSZ.out; omega)).trans d0
    have hd1 := HD1.out
    clear hb HC d0
    go_wp2
    go_loopw [3, 4, 5, 12] (fun u _ _ i wr => ∃ k : Nat, k ≤ P.length ∧ i = .int .i64 k ∧ Hid (OwnL iK wr W.heap.size u (Vo.joinsRaw P k)) ∧ Below W.heap.size W wr) (fun _ _ _ i _ => P.length - (intOf i).toNat)
    case atStart => exact ⟨0, by omega, rfl, OwnL.nil_ _ _ _, HB1.out⟩
    case round =>
      obtain ⟨k, hk, rfl, HO, hbr⟩ := hrel
      have HBr := Lib.hid hbr
      have HBw := Lib.hid (HB.out.trans (hbr.mono HB.out.size))
      have hsr := hbr.size
      have HDr : Hid (wr.cell? ⟨w.heap.size, 0, none⟩ = some (.slice A P.length cc)) := (hbr.cell (p := ⟨w.heap.size, 0, none⟩) (by show w.heap.size < _; have := HSZ.out; omega)).trans HD0.out
      obtain ⟨A3, k3, rfl, _⟩ := HO.out.form_
      have hdr := HDr.out
      clear hbr hd1
      by_cases hlt : k < P.length
      · obtain ⟨b, off, p, rfl, hbB, hpok, hq, c0, c1, c2, c3, c4⟩ := (HV.out.below_ HBw.out hB).piece_ hlt
        have hki : (k : Int) < (P.length : Int) := by omega
        obtain ⟨wp, hwp⟩ : ∃ wp, wr.alloc (.cells #[.bool p.join, .int .u8 (p.byte : Nat), .int .i64 p.left, .int .i64 p.right, .int .u32 (p.rank : Nat)] 33) = wp := ⟨_, rfl⟩
        obtain ⟨⟨_, hx⟩, hbx⟩ := pboxed hwp
        have x0 := hx 0 _ rfl
        have HOp := Lib.hid (HO.out.below_ hbx (Nat.le_refl _))
        have HBp := Lib.hid (HBr.out.trans (hbx.mono hsr))
        have hsp : W.heap.size ≤ wp.heap.size := Nat.le_trans hsr hbx.size
        have HK : Hid (k + 1 ≤ P.length) := hlt
        clear hx hbx HO
        cases hj : p.join with
        | false =>
          rw [hj] at c0 x0 hwp
          have HOn : Hid (OwnL iK wp W.heap.size (.slice A3 (Vo.joinsRaw P k).length k3) (Vo.joinsRaw P (k + 1))) := by unfold Hid; rw [Vo.joinsRaw_byte hq hj]; exact HOp.out
          clear hq hpok HOp hj
          go_wp2
          go_roundw
          case rel => exact ⟨k + 1, HK.out, by go_num, HOn.out, HBp.out⟩
          case measure => simp [intOf]; omega
        | true =>
          rw [hj] at c0 x0 hwp
          have HQ : Hid (Vo.joinsRaw P (k + 1) = Vo.joinsRaw P k ++ [(k : Int)]) := Vo.joinsRaw_join hq hj
          have HLn : Hid ((Vo.joinsRaw P k).length ≤ k) := Vo.joinsRaw_len P k
          have hI : I64 (k : Int) := by unfold I64; omega
          clear hq hpok hj
          go_wp2_with (at_builtin; go_must (refine wpList_push_m _ iK rfl _ _ rfl W.heap.size _ rfl (Vo.joinsRaw P k) HOp.out rfl (k : Int) hI _ rfl _ rfl (by have := HLn.out; show (_ + 1) * 8 ≤ _; omega) (by have := HLn.out; simp only [maxLen]; omega) hsp ?_; intro A3 c3 w3 hA hG hM))
          have HA : Hid (OwnL iK w3 W.heap.size (.slice A3 ((Vo.joinsRaw P k).length + 1) c3) (Vo.joinsRaw P (k + 1))) := by unfold Hid; rw [HQ.out]; exact hA
          have HB3 := Lib.hid (HBp.out.grown hG hsp (fun q hq => (HOp.out.lt_ q hq).1))
          obtain ⟨n1, hn1⟩ : ∃ n, (Vo.joinsRaw P k).length + 1 = n := ⟨_, rfl⟩
          rw [hn1] at HA ⊢
          clear hA hG hM hn1 HOp HQ HLn
          go_wp2
          go_roundw
          case rel => exact ⟨k + 1, HK.out, by go_num, HA.out, HB3.out⟩
          case measure => simp [intOf]; omega
      · obtain rfl : k = P.length := by omega
        have hsz := HSZ.out
        have HS := Lib.hid (psort_any P _ B w.heap.size W.heap.size k3 A3 (Vo.joinsRaw P P.length) wr (HV.out.below_ HBw.out hB) (by omega) (by omega) hdr hsr HO.out (fun t ht => Vo.joinsRaw_mem ht) (Nat.le_trans (Vo.joinsRaw_len P P.length) (by omega)))
        have HE : Hid (∀ l' : List Int, l'.Perm (Vo.joinsRaw P P.length) → l'.Pairwise (fun a b => Vo.rankAt P a ≤ Vo.rankAt P b) → l' = Vo.joinsTo P P.length) := fun l' h1 h2 => Vo.joins_sorted HG.out h1 h2
        obtain ⟨n, hn⟩ : ∃ n, (Vo.joinsRaw P P.length).length = n := ⟨_, rfl⟩
        rw [hn] at HS ⊢
        have HLn : Hid ((Vo.joinsTo P P.length).length = n) := by unfold Hid; rw [← (Vo.joinsRaw_perm P P.length).length_eq, hn]
        clear hn HO hsz
        go_wp2_with (fail)
        refine HS.out.mono ?_
        rintro e w2 ⟨rfl, l', _, hp, hs, ho, hb⟩
        obtain rfl := HE.out l' hp hs
        have HO2 := Lib.hid ho
        have HB2 := Lib.hid (HBw.out.trans (hb.mono HB.out.size))
        clear hp hs ho hb HS
        go_wp2
        go_ret
        rw [HX.out]
        refine ⟨A3, k3, by rw [HLn.out]; rfl, ?_, HB2.out⟩
        rw [HLn.out]
        exact HO2.out.mono_ HB.out.size
  · rw [decide_eq_false hm] at HC
    have HX : Hid (Vo.joinsE P = []) := by unfold Hid Vo.joinsE; rw [if_neg hm]
    clear hm
    go_enter Try.func28, Try.ntmps28
    go_wp2_with (fail)
    refine (HC.out).mono ?_
    rintro e w1 ⟨rfl, hb⟩
    have HB2 := Lib.hid (HB.out.trans (hb.mono HB.out.size))
    clear hb HC
    go_wp2
    go_ret
    rw [HX.out]
    exact ⟨none, 0, rfl, OwnL.nil_ _ _ _, HB2.out⟩
end Go.Proofs.Ytgkmlcghkkpgpaa
