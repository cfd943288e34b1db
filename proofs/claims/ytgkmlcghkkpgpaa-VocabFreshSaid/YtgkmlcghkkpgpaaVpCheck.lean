/-
  vocab.Check, mayBe.
-/
import Derived.Test.YtgkmlcghkkpgpaaVpAddP
import Derived.Test.YtgkmlcghkkpgpaaVpAdd
import Derived.Test.YtgkmlcghkkpgpaaVpNew
import Derived.Test.YtgkmlcghkkpgpaaRVoE
namespace Go.Proofs.Ytgkmlcghkkpgpaa
open Go.RowKit
set_option linter.unusedVariables false

namespace Vo
theorem bits_all {P : List Pc} (hg : Good P) (hok : ∀ q ∈ P, q.byte < 256) : (bits P).contains false = decide (bytesOf P < 256) := by
  have hlen : (theBytes P).length = bytesOf P := by simp [theBytes, bytesOf]
  rw [Bool.eq_iff_iff, decide_eq_true_eq, List.elem_iff]
  constructor
  · intro h
    obtain ⟨b, hb⟩ := List.getElem?_of_mem h
    have hb2 : b < 256 := by have := (List.getElem?_eq_some_iff.1 hb).1; rwa [bits_len] at this
    rw [bits_at hb2] at hb
    have hno : b ∉ theBytes P := fun hm => by
      obtain ⟨q, hq, hj, e⟩ := theBytes_mem.1 hm
      have : P.any (fun q => !q.join && q.byte == b) = true := List.any_eq_true.2 ⟨q, hq, by simp [hj, e]⟩
      rw [this] at hb
      cases hb
    have := List.Nodup.length_le_of_subset (l₁ := b :: theBytes P) (l₂ := List.range 256) (List.nodup_cons.2 ⟨hno, theBytes_nodup hg⟩) (by
      intro y hy
      rcases List.mem_cons.1 hy with rfl | hy
      · exact List.mem_range.2 hb2
      · obtain ⟨q, hq, _, rfl⟩ := theBytes_mem.1 hy
        exact List.mem_range.2 (hok q hq))
    rw [List.length_range, List.length_cons] at this
    omega
  · intro h
    apply Decidable.byContradiction
    intro hno
    have := List.Nodup.length_le_of_subset (l₁ := List.range 256) (l₂ := theBytes P) List.nodup_range (by
      intro b hb
      have hb2 := List.mem_range.1 hb
      have hx := bits_at (D := P) hb2
      cases hany : P.any (fun q => !q.join && q.byte == b) with
      | false => rw [hany] at hx; exact absurd (List.mem_of_getElem? hx) hno
      | true =>
        obtain ⟨q, hq, hs⟩ := List.any_eq_true.1 hany
        simp at hs
        exact theBytes_mem.2 ⟨q, hq, by simpa using hs.1, hs.2⟩)
    rw [List.length_range] at this
    omega
end Vo

set_option maxRecDepth 100000 in
set_option maxHeartbeats 4000000 in
theorem pcheck_any (P : List Vo.Pc) (v : Value) (B : Nat) (w : World) (hv : Lv pK w B v P) (hB : B ≤ w.heap.size) :
    Calls Try.prog 12 #[.agg #[v]] w (IsCheck (Vo.check P) w) := by
  have hv0 := hv
  obtain ⟨A, c, rfl, h1, h2, _, _⟩ := hv
  have hl : P.length ≤ 9223372036854775807 := by simp only [maxLen] at h2; omega
  clear h1 h2
  obtain ⟨W, hW⟩ : ∃ W, w.alloc (.cells #[.slice A P.length c] 24) = W := ⟨_, rfl⟩
  obtain ⟨d0, hsz, hb⟩ := boxed hW
  have HB0 := Lib.hid hb
  by_cases hbig : 4096 < P.length
  · have HX : Hid (Vo.check P = (3, 0)) := by unfold Hid Vo.check; rw [if_pos hbig]
    clear hsz hb hv0
    go_enter Try.func12, Try.ntmps12
    go_wp2
    go_ret2
    exact ⟨by rw [HX.out]; rfl, HB0.out⟩
  · have HBig := Lib.hid hbig
    have hle : P.length ≤ 4096 := by omega
    have HN := Lib.hid (pnewSeen_any W P.length hle)
    have HV0 := Lib.hid hv0
    have hpb : w.heap.size < W.heap.size := by omega
    clear hbig hb hv0
    go_enter Try.func12, Try.ntmps12
    go_wp2_with (fail)
    refine HN.out.mono ?_
    rintro e w1 ⟨sb, rfl, hS1, hb1⟩
    have HS1 := Lib.hid hS1
    have HB1 := Lib.hid (HB0.out.trans (hb1.mono HB0.out.size))
    have d1 : w1.cell? ⟨w.heap.size, 0, none⟩ = some (.slice A P.length c) := (hb1.cell (p := ⟨w.heap.size, 0, none⟩) hpb).trans d0
    have HZ1 : Hid (W.heap.size ≤ w1.heap.size) := hb1.size
    clear hS1 hb1 HN d0
    go_wp2
    go_loopw [5, 6, 7, 19] (fun _ _ _ i wr => ∃ k : Nat, k ≤ P.length ∧ i = .int .i64 k ∧ Hid (Vo.Good (P.take k)) ∧ Hid (Vo.scan [] P = Vo.scan (P.take k) (P.drop k)) ∧ Hid (SeenD wr sb W.heap.size (P.take k)) ∧ Below W.heap.size w1 wr) (fun _ _ _ i _ => P.length - (intOf i).toNat)
    case atStart => exact ⟨0, by omega, rfl, by intro i p h; simp at h, rfl, HS1.out, Below.refl _ _⟩
    case round =>
      obtain ⟨k, hk, rfl, HG, HSc, HS, hbr⟩ := hrel
      have HBr := Lib.hid hbr
      have HBw := Lib.hid (HB1.out.trans (hbr.mono HB0.out.size))
      have hdr : wr.cell? ⟨w.heap.size, 0, none⟩ = some (.slice A P.length c) := (hbr.cell (p := ⟨w.heap.size, 0, none⟩) hpb).trans d1
      have hsr : W.heap.size ≤ wr.heap.size := Nat.le_trans HZ1.out hbr.size
      have HVr := Lib.hid (HV0.out.below_ HBw.out hB)
      clear HS1 hbr d1
      by_cases hlt : k < P.length
      · obtain ⟨b, off, p, rfl, hbB, hpok, hq, c0, c1, c2, c3, c4⟩ := HVr.out.piece_ hlt
        have hki : (k : Int) < (P.length : Int) := by omega
        obtain ⟨wp, hwp⟩ : ∃ wp, wr.alloc (.cells #[.bool p.join, .int .u8 (p.byte : Nat), .int .i64 p.left, .int .i64 p.right, .int .u32 (p.rank : Nat)] 33) = wp := ⟨_, rfl⟩
        obtain ⟨⟨_, hx⟩, hbx⟩ := pboxed hwp
        have x0 := hx 0 _ rfl
        have x1 := hx 1 _ rfl
        have x2 := hx 2 _ rfl
        have x3 := hx 3 _ rfl
        have x4 := hx 4 _ rfl
        have HBp := Lib.hid (HBr.out.trans (hbx.mono hsr))
        have HBwp := Lib.hid (HBw.out.trans (hbx.mono (Nat.le_trans HB0.out.size hsr)))
        have HC := Lib.hid (padd_any (HS.out.to_ hbx) p hpok (by rw [List.length_take]; omega) HG.out (Nat.le_trans hsr hbx.size))
        unfold pcV at HC
        clear hx hbx
        by_cases he : Vo.errAt (P.take k) p = 0
        · have HG2 := Lib.hid (Vo.good_snoc HG.out hq he)
          have HSc2 : Hid (Vo.scan [] P = Vo.scan (P.take (k + 1)) (P.drop (k + 1))) := by unfold Hid; rw [HSc.out, Vo.scan_step hq, if_pos he]
          have HQ := Lib.hid (take_snoc hq)
          have HE := Lib.hid he
          clear he hq HG HSc
          go_wp2_with (fail)
          refine (HC.out).mono ?_
          rintro e w2 ⟨he, hs, hb⟩
          rw [HE.out] at he
          obtain rfl := he
          have HS2 : Hid (SeenD w2 sb W.heap.size (P.take (k + 1))) := by unfold Hid; rw [HQ.out]; exact hs HE.out
          have HB2 := Lib.hid (HBp.out.trans hb)
          clear hs hb HC
          go_wp2
          go_roundw
          case rel => exact ⟨k + 1, hlt, by go_num, HG2.out, HSc2.out, HS2.out, HB2.out⟩
          case measure => simp [intOf]; omega
        · obtain ⟨E, hE⟩ : ∃ E, Vo.errAt (P.take k) p = E := ⟨_, rfl⟩
          have HX : Hid (Vo.check P = (E, k)) := Vo.check_scan HBig.out (by rw [HSc.out, Vo.scan_step hq, if_neg he, hE]) (by rw [← hE]; exact he)
          have HE := Lib.hid hE
          rw [hE] at he
          have heb : ((E : Int) != 0) = true := by rw [bne_iff_ne]; omega
          clear he hE hq HG HSc
          go_wp2_with (fail)
          refine (HC.out).mono ?_
          rintro e w2 ⟨he, _, hb⟩
          rw [HE.out] at he
          obtain rfl := he
          have HB2 := Lib.hid (HBwp.out.trans (hb.mono HB0.out.size))
          clear hb HC
          go_wp2
          go_ret2
          exact ⟨by rw [HX.out]; rfl, HB2.out⟩
      · obtain rfl : k = P.length := by omega
        have hG := HG.out
        rw [List.take_length] at hG
        have HX := Lib.hid (Vo.check_good HBig.out hG)
        have hS := HS.out
        rw [List.take_length] at hS
        have hA := pallBytes_any hS
        rw [Vo.bits_all hG (fun q hq => (HVr.out.ok_ q hq).1)] at hA
        clear hG hS
        by_cases hmany : Vo.bytesOf P < 256
        · rw [if_pos hmany] at HX
          rw [decide_eq_true hmany] at hA
          have HA := Lib.hid hA
          clear hmany hA
          go_wp2_with (fail)
          refine HA.out.mono ?_
          rintro e w' ⟨rfl, rfl⟩
          clear HA
          go_wp2
          go_quiet (fail)
          go_wp2
          go_ret2
          exact ⟨by rw [HX.out]; rfl, below_drewN HBw.out _⟩
        · rw [if_neg hmany] at HX
          rw [decide_eq_false hmany] at hA
          have HA := Lib.hid hA
          clear hmany hA
          go_wp2_with (fail)
          refine HA.out.mono ?_
          rintro e w' ⟨rfl, rfl⟩
          clear HA
          go_wp2
          go_ret2
          exact ⟨by rw [HX.out]; rfl, HBw.out⟩

set_option maxHeartbeats 1000000 in
theorem pmay_any (P : List Vo.Pc) (v : Value) (B : Nat) (w : World) (hv : Lv pK w B v P) (hB : B ≤ w.heap.size) :
    Calls Try.prog 40 #[.agg #[v]] w (IsBool (decide (Vo.May P)) w) := by
  obtain ⟨W, hW⟩ : ∃ W, w.alloc (.cells #[v] 24) = W := ⟨_, rfl⟩
  obtain ⟨d0, hsz, hb⟩ := boxed hW
  have HC := Lib.hid (pcheck_any P v B W (hv.below_ hb hB) (Nat.le_trans hB hb.size))
  have HB := Lib.hid hb
  obtain ⟨A, c, rfl, _, _, _, _⟩ := hv
  obtain ⟨E, hE⟩ : ∃ E, (Vo.check P).1 = E := ⟨_, rfl⟩
  have HX : Hid (decide (Vo.May P) = ((E : Int) == 0)) := by
    unfold Hid
    rw [Bool.eq_iff_iff, decide_eq_true_eq, beq_iff_eq]
    unfold Vo.May
    rw [hE]
    omega
  unfold IsCheck at HC
  rw [hE] at HC
  clear hsz hb hE
  go_enter Try.func40, Try.ntmps40
  go_wp2_with (fail)
  refine (HC.out).mono ?_
  rintro e w1 ⟨rfl, hb⟩
  have HB2 := Lib.hid (HB.out.trans (hb.mono HB.out.size))
  clear hb HC
  go_wp2
  go_ret
  exact ⟨by rw [HX.out]; rfl, HB2.out⟩
end Go.Proofs.Ytgkmlcghkkpgpaa
