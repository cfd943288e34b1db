/-
  sha.spread: the words of all rounds.
-/
import Derived.Test.YtejipcnihgpdhaaSpWords
import Derived.Test.YtejipcnihgpdhaaSpMath
import Derived.BigQuiet
import Derived.StillTailTactics
namespace Go.Proofs.Ytejipcnihgpdhaa
open Go.RowKit
set_option linter.unusedVariables false

set_option maxHeartbeats 4000000 in
set_option maxRecDepth 100000 in
theorem spread_any (b : List Nat) (hb : b.length = 64) (hb8 : ∀ x ∈ b, x < 256) (w : World) :
    Calls Try.prog 30 #[.agg (bvs b)] w (fun e w' => e = .returned (.agg (sch b 64)) ∧ Below w.heap.size w w') := by
  have HL := Lib.hid hb
  have H8 := Lib.hid hb8
  clear hb hb8
  have hbsz : (bvs b).size = 64 := by rw [bvs_size]; exact HL.out
  obtain ⟨bc, hbc⟩ : ∃ c, bvs b = c := ⟨_, rfl⟩
  rw [hbc] at hbsz ⊢
  have HBC := Lib.hid hbc
  clear hbc
  have hzero := (zero_of_info zero52).1
  go_enter Try.func30, Try.ntmps30
  go_wp2_with (refine wpList_load_row rfl _ _ rfl w.heap.size rfl 24 bc (0, 0) _ (((Rw.new w _ _).old _).old _) Try.underlying24 rfl (by rw [hbsz]; exact size24) ?_)
  go_loopw [14] (fun i wr => ∃ k : Nat, k ≤ 64 ∧ i = .int .i64 k ∧ Hid (Rw wr (w.heap.size + 1) 53 noughts52) ∧ Hid (Rw wr (w.heap.size + 2) 53 (wsv b k)) ∧ Hid (Below w.heap.size w wr)) (fun i _ => 64 - (intOf i).toNat)
  case atStart =>
    refine ⟨0, by omega, rfl, ?_, ?_, ?_⟩
    · exact (Rw.at_ (by simp) _ _).old _
    · rw [wsv_zero]; exact Rw.at_ (by simp) _ _
    · exact (((Below.refl w.heap.size w).alloc (Nat.le_refl _) _).alloc (by simp) _).alloc (by simp; omega) _
  case round =>
    obtain ⟨k, hk, rfl, HZ, HW, HB⟩ := hrel
    by_cases h64 : k < 64
    · have hbk : bc[k]? = some (.int .u8 (nt (BitVec.ofNat 32 (b.getD k 0)) : Nat)) := by rw [← HBC.out]; exact byte_at HL.out H8.out h64
      have c0 : wr.cell? ⟨w.heap.size + 2, k / 4, none⟩ = some (.int .u32 (nt ((Sh.ws b k).getD (k / 4) 0) : Nat)) := (HW.out.cell _).trans (wsv_at b (by omega))
      have hf : wr.frozen? ⟨w.heap.size + 2, k / 4, none⟩ = false := HW.out.frozen _
      obtain ⟨y, hy⟩ : ∃ y, BitVec.ofNat 32 (b.getD k 0) = y := ⟨_, rfl⟩
      obtain ⟨z, hz⟩ : ∃ z, (Sh.ws b k).getD (k / 4) 0 = z := ⟨_, rfl⟩
      have HX : Hid ((wsv b k).setIfInBounds (k / 4) (.int .u32 (nt (z <<< 8 ||| y) : Nat)) = wsv b (k + 1)) := wsv_set b k _ (by rw [hy, hz])
      rw [hy] at hbk
      rw [hz] at c0
      have hsh := shl8w
      have hor := or_bv
      have hm := wrap_nt
      have hi0 : (k : Int) < 64 := by omega
      have hi1 : (0 : Int) ≤ (k : Int) / 4 := by omega
      have hi2 : (k : Int) / 4 < 64 := by omega
      have hi3 : ((k : Int) / 4).toNat = k / 4 := by omega
      have hi4 : IntKind.i64.wrap ((k : Int) / 4) = (k : Int) / 4 := by rw [IntKind.wrap_i64]; omega
      have hix := index64 bc k _ h64 hbk
      clear hy hz hbk
      go_wp2
      have hw := HW.out.set (k / 4) (.int .u32 (nt (z <<< 8 ||| y) : Nat))
      rw [HX.out] at hw
      exact ⟨⟨k + 1, by omega, by go_num, HZ.out.setOther (by omega) _ _, hw, HB.out.setCell (show w.heap.size ≤ w.heap.size + 2 by omega) _⟩, by simp [intOf]; omega⟩
    · have hkk : k = 64 := by omega
      subst hkk
      rw [wsv_sch] at HW
      rw [show ((64 : Nat) : Int) = (64 : Int) from rfl]
      go_wp2
      go_loopw [6] (fun i wr => ∃ k : Nat, 16 ≤ k ∧ k ≤ 64 ∧ i = .int .i64 k ∧ Hid (Rw wr (w.heap.size + 1) 53 noughts52) ∧ Hid (Rw wr (w.heap.size + 2) 53 (sch b k)) ∧ Hid (Below w.heap.size w wr)) (fun i _ => 64 - (intOf i).toNat)
      case atStart => exact ⟨16, by omega, by omega, rfl, HZ.out, HW.out, HB.out⟩
      case round =>
        clear HZ HW HB
        obtain ⟨k, hk1, hk, rfl, HZ, HW, HB⟩ := hrel
        by_cases h64 : k < 64
        · have hc : ∀ j, j < k → wr.cell? ⟨w.heap.size + 2, j, none⟩ = some (.int .u32 (nt ((Sh.sched b k).getD j 0) : Nat)) := fun j hj => (HW.out.cell j).trans (sch_at b hj)
          have c16 := hc (k - 16) (by omega)
          have c7 := hc (k - 7) (by omega)
          have c15 := hc (k - 15) (by omega)
          have c2 := hc (k - 2) (by omega)
          have HX := Lib.hid (sched_mix b (show ¬ k < 16 by omega))
          obtain ⟨x16, e16⟩ : ∃ y, (Sh.sched b k).getD (k - 16) 0 = y := ⟨_, rfl⟩
          obtain ⟨x7, e7⟩ : ∃ y, (Sh.sched b k).getD (k - 7) 0 = y := ⟨_, rfl⟩
          obtain ⟨x15, e15⟩ : ∃ y, (Sh.sched b k).getD (k - 15) 0 = y := ⟨_, rfl⟩
          obtain ⟨x2, e2⟩ : ∃ y, (Sh.sched b k).getD (k - 2) 0 = y := ⟨_, rfl⟩
          rw [e16, e7, e15, e2] at HX
          rw [e16] at c16
          rw [e7] at c7
          rw [e15] at c15
          rw [e2] at c2
          have HWn := Lib.hid (sch_set b h64 _ HX.out)
          have i5 : (k : Int) < 64 := by omega
          have w16 : IntKind.i64.wrap ((k : Int) - 16) = (k : Int) - 16 := by rw [IntKind.wrap_i64]; omega
          have w7 : IntKind.i64.wrap ((k : Int) - 7) = (k : Int) - 7 := by rw [IntKind.wrap_i64]; omega
          have w15 : IntKind.i64.wrap ((k : Int) - 15) = (k : Int) - 15 := by rw [IntKind.wrap_i64]; omega
          have w2 : IntKind.i64.wrap ((k : Int) - 2) = (k : Int) - 2 := by rw [IntKind.wrap_i64]; omega
          have n16 : ((k : Int) - 16).toNat = k - 16 := by omega
          have n7 : ((k : Int) - 7).toNat = k - 7 := by omega
          have n15 : ((k : Int) - 15).toNat = k - 15 := by omega
          have n2 : ((k : Int) - 2).toNat = k - 2 := by omega
          have p16 : (0 : Int) ≤ (k : Int) - 16 := by omega
          have p7 : (0 : Int) ≤ (k : Int) - 7 := by omega
          have p15 : (0 : Int) ≤ (k : Int) - 15 := by omega
          have p2 : (0 : Int) ≤ (k : Int) - 2 := by omega
          have r16 : (16 : Int) ≤ (k : Int) := by omega
          have r7 : (7 : Int) ≤ (k : Int) := by omega
          have r15 : (15 : Int) ≤ (k : Int) := by omega
          have r2 : (2 : Int) ≤ (k : Int) := by omega
          have q16 : (k : Int) - 16 < 64 := by omega
          have q7 : (k : Int) - 7 < 64 := by omega
          have q15 : (k : Int) - 15 < 64 := by omega
          have q2 : (k : Int) - 2 < 64 := by omega
          clear e16 e7 e15 e2 HX hc
          go_wp2
          go_quiet (fail)
          generalize hW9 : wr.drewN _ = w9
          have d16 : w9.cell? ⟨w.heap.size + 2, k - 16, none⟩ = some (.int .u32 (nt x16 : Nat)) := by rw [← hW9]; exact c16
          have d7 : w9.cell? ⟨w.heap.size + 2, k - 7, none⟩ = some (.int .u32 (nt x7 : Nat)) := by rw [← hW9]; exact c7
          have HZ9 := Lib.hid (HZ.out.via hW9)
          have HW9 := Lib.hid (HW.out.via hW9)
          have HB9 : Hid (Below w.heap.size w w9) := by unfold Hid; rw [← hW9]; exact below_drewN HB.out _
          clear hW9 c16 c7 c15 c2 HZ HW HB
          go_wp2_with (fail)
          refine (turning_any x15 w9).mono ?_
          rintro e' w10 ⟨rfl, hw10⟩
          obtain ⟨ga, hga⟩ : ∃ ga, w9.heap.size = ga := ⟨_, rfl⟩
          have hg9 := HB9.out.size
          have HA10 : Hid (Rw w10 ga 22 #[.int .u32 (nt x15 : Nat)]) := by unfold Hid; rw [hw10]; exact Rw.at_ hga.symm _ _
          have HZ10 : Hid (Rw w10 (w.heap.size + 1) 53 noughts52) := by unfold Hid; rw [hw10]; exact HZ9.out.old _
          have HW10 : Hid (Rw w10 (w.heap.size + 2) 53 (sch b k)) := by unfold Hid; rw [hw10]; exact HW9.out.old _
          have HB10 : Hid (Below w.heap.size w w10) := by unfold Hid; rw [hw10]; exact HB9.out.alloc hg9 _
          have c16 : w10.cell? ⟨w.heap.size + 2, k - 16, none⟩ = some (.int .u32 (nt x16 : Nat)) := ((HW10.out.cell _).trans (HW9.out.cell _).symm).trans d16
          have c7 : w10.cell? ⟨w.heap.size + 2, k - 7, none⟩ = some (.int .u32 (nt x7 : Nat)) := ((HW10.out.cell _).trans (HW9.out.cell _).symm).trans d7
          rw [hga]
          clear hw10 hga hg9 HZ9 HW9 HB9 d16 d7
          go_wp2_with (fail)
          refine (turning_any x2 w10).mono ?_
          rintro e' w11 ⟨rfl, hw11⟩
          obtain ⟨ge, hge⟩ : ∃ ge, w10.heap.size = ge := ⟨_, rfl⟩
          have hg10 := HB10.out.size
          have HE11 : Hid (Rw w11 ge 22 #[.int .u32 (nt x2 : Nat)]) := by unfold Hid; rw [hw11]; exact Rw.at_ hge.symm _ _
          have HA11 : Hid (Rw w11 ga 22 #[.int .u32 (nt x15 : Nat)]) := by unfold Hid; rw [hw11]; exact HA10.out.old _
          have HZ11 : Hid (Rw w11 (w.heap.size + 1) 53 noughts52) := by unfold Hid; rw [hw11]; exact HZ10.out.old _
          have HW11 : Hid (Rw w11 (w.heap.size + 2) 53 (sch b k)) := by unfold Hid; rw [hw11]; exact HW10.out.old _
          have HB11 : Hid (Below w.heap.size w w11) := by unfold Hid; rw [hw11]; exact HB10.out.alloc hg10 _
          have d16 : w11.drew.cell? ⟨w.heap.size + 2, k - 16, none⟩ = some (.int .u32 (nt x16 : Nat)) := ((HW11.out.cell _).trans (HW10.out.cell _).symm).trans c16
          have d7 : w11.drew.cell? ⟨w.heap.size + 2, k - 7, none⟩ = some (.int .u32 (nt x7 : Nat)) := ((HW11.out.cell _).trans (HW10.out.cell _).symm).trans c7
          have do_ : w11.drew.cell? ⟨w.heap.size + 2, k, none⟩ = some (.int .u32 0) := (HW11.out.cell _).trans (sch_old b h64)
          have df : w11.drew.frozen? ⟨w.heap.size + 2, k, none⟩ = false := HW11.out.frozen k
          rw [hge]
          clear hw11 hge hg10 HZ10 HW10 HB10 HA10 c16 c7
          have T7 : Hid (Calls Try.prog 45 #[.int .u64 7, .pointer (some ⟨ga, 0, none⟩)] w11 (IsW (Sh.rot x15 7) w11)) := turn1_any x15 7 ga (by omega) w11 (HA11.out.cell 0)
          have T18 : Hid (Calls Try.prog 45 #[.int .u64 18, .pointer (some ⟨ga, 0, none⟩)] w11 (IsW (Sh.rot x15 18) w11)) := turn1_any x15 18 ga (by omega) w11 (HA11.out.cell 0)
          have T17 : Hid (Calls Try.prog 45 #[.int .u64 17, .pointer (some ⟨ge, 0, none⟩)] w11 (IsW (Sh.rot x2 17) w11)) := turn1_any x2 17 ge (by omega) w11 (HE11.out.cell 0)
          have T19 : Hid (Calls Try.prog 45 #[.int .u64 19, .pointer (some ⟨ge, 0, none⟩)] w11 (IsW (Sh.rot x2 19) w11)) := turn1_any x2 19 ge (by omega) w11 (HE11.out.cell 0)
          have hax := addw
          have hax3 := add_bv
          have hxo := xor_bv
          have h3s := shr3
          have h10s := shr10
          go_wp2_with (go_at_call 45; (first
              | (with_reducible refine (T7.out).mono ?_) | (with_reducible refine (T18.out).mono ?_)
              | (with_reducible refine (T17.out).mono ?_) | (with_reducible refine (T19.out).mono ?_)); rintro e' w' ⟨rfl, rfl⟩)
          go_still_tail 15, (by kernel_rfl)
          change wpList _ _ _ _ _ w11.drew
          go_wp2
          have hw := HW11.out.set k (.int .u32 (nt (x16 + x7 + Sh.sig0 x15 + Sh.sig1 x2) : Nat))
          rw [HWn.out] at hw
          have hmx : nt (x16 + (Sh.rot x15 7 ^^^ Sh.rot x15 18 ^^^ x15 >>> 3) + x7 + (Sh.rot x2 17 ^^^ Sh.rot x2 19 ^^^ x2 >>> 10)) = nt (x16 + x7 + Sh.sig0 x15 + Sh.sig1 x2) := congrArg nt (Sh.mix _ _ _ _)
          rw [hmx]
          exact ⟨⟨k + 1, by omega, by omega, by go_num, HZ11.out.setOther (by omega) _ _, hw, (HB11.out.setCell (show w.heap.size ≤ w.heap.size + 2 by omega) _).drew⟩, by simp [intOf]; omega⟩
        · have hkk : k = 64 := by omega
          subst hkk
          have hsz : (sch b 64).size = 64 := sch_size b (by omega)
          have hone : (sch b 64).all (·.oneCell') = true := one_of _
          obtain ⟨pv, hpv⟩ : ∃ pv, sch b 64 = pv := ⟨_, rfl⟩
          rw [hpv] at HW hsz hone
          have HPV := Lib.hid hpv
          clear hpv
          rw [show ((64 : Nat) : Int) = (64 : Int) from rfl]
          go_wp2_with (first
            | (refine wpList_load_row rfl _ _ rfl (w.heap.size + 2) rfl 53 pv (0, 0) _ HW.out Try.underlying53 rfl (by rw [hsz]; exact size52) ?_)
            | (refine wpList_store_row rfl _ _ _ rfl (w.heap.size + 1) pv rfl rfl 53 _ HZ.out (by rw [hsz]; exact size52) (by rw [hsz]; rfl) hone ?_))
          refine bodyPost_ret (v := .agg pv) (results_cell_row rfl _ _ (w.heap.size + 1) 53 pv (0, 0) _ rfl (Rw.row HZ.out pv) Try.underlying53 rfl (by rw [hsz]; exact size52)) rfl ⟨by rw [HPV.out], HB.out.trans (below_setRow (Below.refl _ _) (by omega) _)⟩
end Go.Proofs.Ytejipcnihgpdhaa
