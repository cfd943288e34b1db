/-
  ShPress: stookref04.Press presses a block into a state.
  ShBehind: stookref04.Behind: what stands behind so many bytes.
  SpDigest: sha.digest: the words' bytes.
  SpBehind: sha.behind, sha.Behind: what stands behind so many bytes.
-/
import Derived.Test.YtkialijipcbgkaaPk34
import Derived.Deep.RegionHeld3
import Derived.Deep.QuietTactic
import Derived.BigQuiet
import Derived.StillTailTactics
import Derived.Test.YtkialijipcbgkaaPk01
import Derived.Test.YtkialijipcbgkaaPk32
import Derived.Test.YtkialijipcbgkaaPk33
import Derived.Test.YtkialijipcbgkaaPk02
import Derived.Test.YtkialijipcbgkaaPk22
namespace Go.Proofs.Ytkialijipcbgkaa
open Go.RowKit
set_option linter.unusedVariables false

set_option maxHeartbeats 4000000 in
set_option maxRecDepth 100000 in
theorem rpress_any (s : Sh.St) (b : List Nat) (hb : b.length = 64) (hb8 : ∀ x ∈ b, x < 256) (w : World) :
    Calls Try.prog 73 #[.agg (stv s), .agg (bvs b)] w (IsSt (Sh.press s b) w) := by
  have HL := Lib.hid hb
  have H8 := Lib.hid hb8
  clear hb hb8
  obtain ⟨sc, hsc⟩ : ∃ c, stv s = c := ⟨_, rfl⟩
  obtain ⟨bc, hbc⟩ : ∃ c, bvs b = c := ⟨_, rfl⟩
  rw [hsc, hbc]
  go_enter Try.func73, Try.ntmps73
  go_wp2
  go_loopw [6] (fun i wr => ∃ k : Nat, k ≤ 64 ∧ i = .int .i64 k ∧ Hid (Rw wr w.heap.size 100 sc) ∧ Hid (Rw wr (w.heap.size + 1) 102 bc) ∧ Hid (Rw wr (w.heap.size + 2) 100 #[.int .u32 0, .int .u32 0, .int .u32 0, .int .u32 0, .int .u32 0, .int .u32 0, .int .u32 0, .int .u32 0]) ∧ Hid (Rw wr (w.heap.size + 3) 138 (sch b k)) ∧ Below w.heap.size w wr) (fun i _ => 64 - (intOf i).toNat)
  case atStart =>
    refine ⟨0, by omega, rfl, ?_, ?_, ?_, ?_, ?_⟩
    · exact (((Rw.at_ rfl _ _).old _).old _).old _
    · exact ((Rw.at_ (by simp) _ _).old _).old _
    · exact (Rw.at_ (by simp) _ _).old _
    · exact Rw.at_ (by simp) _ (sch b 0)
    · exact ((((Below.refl w.heap.size w).alloc (Nat.le_refl _) _).alloc (by simp) _).alloc (by simp; omega) _).alloc (by simp; omega) _
  case round =>
    obtain ⟨k, hk, rfl, HS, HB, HZ, HW, hbr⟩ := hrel
    by_cases h64 : k < 64
    · by_cases h16 : k < 16
      · have hb4 : ∀ j, j < 64 → wr.cell? ⟨w.heap.size + 1, j, none⟩ = some (.int .u8 (nt (BitVec.ofNat 32 (b.getD j 0)) : Nat)) := fun j hj => by
          rw [HB.out.cell j, ← hbc]
          exact byte_at HL.out H8.out hj
        have c0 := hb4 (4 * k) (by omega)
        have c1 := hb4 (4 * k + 1) (by omega)
        have c2 := hb4 (4 * k + 2) (by omega)
        have c3 := hb4 (4 * k + 3) (by omega)
        have HX := Lib.hid (sched_word b h16)
        obtain ⟨y0, hy0⟩ : ∃ y, BitVec.ofNat 32 (b.getD (4 * k) 0) = y := ⟨_, rfl⟩
        obtain ⟨y1, hy1⟩ : ∃ y, BitVec.ofNat 32 (b.getD (4 * k + 1) 0) = y := ⟨_, rfl⟩
        obtain ⟨y2, hy2⟩ : ∃ y, BitVec.ofNat 32 (b.getD (4 * k + 2) 0) = y := ⟨_, rfl⟩
        obtain ⟨y3, hy3⟩ : ∃ y, BitVec.ofNat 32 (b.getD (4 * k + 3) 0) = y := ⟨_, rfl⟩
        rw [hy0, hy1, hy2, hy3] at HX
        rw [hy0] at c0
        rw [hy1] at c1
        rw [hy2] at c2
        rw [hy3] at c3
        have hs0 : wr.drew.cell? ⟨w.heap.size + 1, 4 * k, none⟩ = some (.int .u8 (nt y0 : Nat)) ∧ wr.drew.cell? ⟨w.heap.size + 1, 4 * k + 1, none⟩ = some (.int .u8 (nt y1 : Nat)) ∧ wr.drew.cell? ⟨w.heap.size + 1, 4 * k + 2, none⟩ = some (.int .u8 (nt y2 : Nat)) ∧ wr.drew.cell? ⟨w.heap.size + 1, 4 * k + 3, none⟩ = some (.int .u8 (nt y3 : Nat)) := ⟨c0, c1, c2, c3⟩
        have co : wr.drew.cell? ⟨w.heap.size + 3, k, none⟩ = some (.int .u32 0) := (HW.out.cell k).trans (sch_old b h64)
        have cf : wr.drew.frozen? ⟨w.heap.size + 3, k, none⟩ = false := HW.out.frozen k
        have HWn := Lib.hid (sch_set b h64 _ HX.out)
        have hm := wrap_nt
        have h24 := shl24w
        have h16s := shl16w
        have h8s := shl8w
        have hor := or_bv
        have i0 : (0 : Int) ≤ 4 * (k : Int) := by omega
        have i1 : 4 * (k : Int) < 64 := by omega
        have i2 : 4 * (k : Int) + 1 < 64 := by omega
        have i3 : 4 * (k : Int) + 2 < 64 := by omega
        have i4 : 4 * (k : Int) + 3 < 64 := by omega
        have i5 : (k : Int) < 64 := by omega
        have i6 : (k : Int) < 16 := by omega
        have w0 : IntKind.i64.wrap (4 * (k : Int)) = 4 * (k : Int) := by rw [IntKind.wrap_i64]; omega
        have w1 : IntKind.i64.wrap (4 * (k : Int) + 1) = 4 * (k : Int) + 1 := by rw [IntKind.wrap_i64]; omega
        have w2 : IntKind.i64.wrap (4 * (k : Int) + 2) = 4 * (k : Int) + 2 := by rw [IntKind.wrap_i64]; omega
        have w3 : IntKind.i64.wrap (4 * (k : Int) + 3) = 4 * (k : Int) + 3 := by rw [IntKind.wrap_i64]; omega
        have n0 : (4 * (k : Int)).toNat = 4 * k := by omega
        have n1 : (4 * (k : Int) + 1).toNat = 4 * k + 1 := by omega
        have n2 : (4 * (k : Int) + 2).toNat = 4 * k + 2 := by omega
        have n3 : (4 * (k : Int) + 3).toNat = 4 * k + 3 := by omega
        have p1 : (0 : Int) ≤ 4 * (k : Int) + 1 := by omega
        have p2 : (0 : Int) ≤ 4 * (k : Int) + 2 := by omega
        have p3 : (0 : Int) ≤ 4 * (k : Int) + 3 := by omega
        clear hy0 hy1 hy2 hy3 c0 c1 c2 c3 HX hb4 hsc hbc
        go_wp2
        go_still_tail 31, (by kernel_rfl)
        change wpList _ _ _ _ _ wr.drew
        go_wp2
        rw [show Sh.word y0 y1 y2 y3 = y0 <<< 24 ||| y1 <<< 16 ||| y2 <<< 8 ||| y3 from rfl] at HWn
        have hw := HW.out.set k (.int .u32 (nt (y0 <<< 24 ||| y1 <<< 16 ||| y2 <<< 8 ||| y3) : Nat))
        rw [HWn.out] at hw
        exact ⟨⟨k + 1, by omega, by go_num, HS.out.setOther (by omega) _ _, HB.out.setOther (by omega) _ _, HZ.out.setOther (by omega) _ _, hw, (hbr.setCell (show w.heap.size ≤ w.heap.size + 3 by omega) _).drew⟩, by simp [intOf]; omega⟩
      · have hc : ∀ j, j < k → wr.cell? ⟨w.heap.size + 3, j, none⟩ = some (.int .u32 (nt ((Sh.sched b k).getD j 0) : Nat)) := fun j hj => (HW.out.cell j).trans (sch_at b hj)
        have c16 := hc (k - 16) (by omega)
        have c7 := hc (k - 7) (by omega)
        have c15 := hc (k - 15) (by omega)
        have c2 := hc (k - 2) (by omega)
        have HX := Lib.hid (sched_mix b h16)
        obtain ⟨x16, e16⟩ : ∃ y, (Sh.sched b k).getD (k - 16) 0 = y := ⟨_, rfl⟩
        obtain ⟨x7, e7⟩ : ∃ y, (Sh.sched b k).getD (k - 7) 0 = y := ⟨_, rfl⟩
        obtain ⟨x15, e15⟩ : ∃ y, (Sh.sched b k).getD (k - 15) 0 = y := ⟨_, rfl⟩
        obtain ⟨x2, e2⟩ : ∃ y, (Sh.sched b k).getD (k - 2) 0 = y := ⟨_, rfl⟩
        rw [e16, e7, e15, e2] at HX
        rw [e16] at c16
        rw [e7] at c7
        rw [e15] at c15
        rw [e2] at c2
        have co : wr.cell? ⟨w.heap.size + 3, k, none⟩ = some (.int .u32 0) := (HW.out.cell k).trans (sch_old b h64)
        have cf : wr.frozen? ⟨w.heap.size + 3, k, none⟩ = false := HW.out.frozen k
        have HWn := Lib.hid (sch_set b h64 _ HX.out)
        have T7 : Hid (∀ w, Calls Try.prog 96 #[.int .u32 (nt x15 : Nat), .int .i64 7] w (fun e w'' => e = .returned (.int .u32 (nt (Sh.rot x15 7) : Nat)) ∧ w'' = w)) := fun w => (turn_any x15 7 (by omega) w).mono (by rintro e w' ⟨h, rfl⟩; exact ⟨h, rfl⟩)
        have T18 : Hid (∀ w, Calls Try.prog 96 #[.int .u32 (nt x15 : Nat), .int .i64 18] w (fun e w'' => e = .returned (.int .u32 (nt (Sh.rot x15 18) : Nat)) ∧ w'' = w)) := fun w => (turn_any x15 18 (by omega) w).mono (by rintro e w' ⟨h, rfl⟩; exact ⟨h, rfl⟩)
        have T17 : Hid (∀ w, Calls Try.prog 96 #[.int .u32 (nt x2 : Nat), .int .i64 17] w (fun e w'' => e = .returned (.int .u32 (nt (Sh.rot x2 17) : Nat)) ∧ w'' = w)) := fun w => (turn_any x2 17 (by omega) w).mono (by rintro e w' ⟨h, rfl⟩; exact ⟨h, rfl⟩)
        have T19 : Hid (∀ w, Calls Try.prog 96 #[.int .u32 (nt x2 : Nat), .int .i64 19] w (fun e w'' => e = .returned (.int .u32 (nt (Sh.rot x2 19) : Nat)) ∧ w'' = w)) := fun w => (turn_any x2 19 (by omega) w).mono (by rintro e w' ⟨h, rfl⟩; exact ⟨h, rfl⟩)
        have hax := addw
        have hax3 := add3_bv
        have hxo := xor_bv
        have h3s := shr3
        have h10s := shr10
        have i5 : (k : Int) < 64 := by omega
        have i6 : ¬ ((k : Int) < 16) := by omega
        have w16 : IntKind.i64.wrap ((k : Int) - 16) = (k : Int) - 16 := by rw [IntKind.wrap_i64]; omega
        have w7 : IntKind.i64.wrap ((k : Int) - 7) = (k : Int) - 7 := by rw [IntKind.wrap_i64]; omega
        have w15 : IntKind.i64.wrap ((k : Int) - 15) = (k : Int) - 15 := by rw [IntKind.wrap_i64]; omega
        have w2 : IntKind.i64.wrap ((k : Int) - 2) = (k : Int) - 2 := by rw [IntKind.wrap_i64]; omega
        have n16 : ((k : Int) - 16).toNat = k - 16 := by omega
        have n7 : ((k : Int) - 7).toNat = k - 7 := by omega
        have n15 : ((k : Int) - 15).toNat = k - 15 := by omega
        have n2 : ((k : Int) - 2).toNat = k - 2 := by omega
        have p16 : (0 : Int) ≤ (k : Int) - 16 := by omega
        have p7 : (0 : Int) ≤ (k : Int) - 7 := by omega
        have p15 : (0 : Int) ≤ (k : Int) - 15 := by omega
        have p2 : (0 : Int) ≤ (k : Int) - 2 := by omega
        have r7 : (7 : Int) ≤ (k : Int) := by omega
        have r15 : (15 : Int) ≤ (k : Int) := by omega
        have r2 : (2 : Int) ≤ (k : Int) := by omega
        have q16 : (k : Int) - 16 < 64 := by omega
        have q7 : (k : Int) - 7 < 64 := by omega
        have q15 : (k : Int) - 15 < 64 := by omega
        have q2 : (k : Int) - 2 < 64 := by omega
        clear e16 e7 e15 e2 HX hc hsc hbc
        go_wp2
        go_quiet (fail)
        go_wp2
        generalize hW9 : wr.drewN _ = w9
        have d16 : w9.drew.cell? ⟨w.heap.size + 3, k - 16, none⟩ = some (.int .u32 (nt x16 : Nat)) := by rw [← hW9]; exact c16
        have d7 : w9.drew.cell? ⟨w.heap.size + 3, k - 7, none⟩ = some (.int .u32 (nt x7 : Nat)) := by rw [← hW9]; exact c7
        have do_ : w9.drew.cell? ⟨w.heap.size + 3, k, none⟩ = some (.int .u32 0) := by rw [← hW9]; exact co
        have df : w9.drew.frozen? ⟨w.heap.size + 3, k, none⟩ = false := by rw [← hW9]; exact cf
        have HW9 := Lib.hid hW9
        clear hW9 c16 c7 c15 c2 co cf
        go_still_tail 29, (by kernel_rfl)
        still_call (T7.out _)
        repeat still_step
        still_call (T18.out _)
        repeat still_step
        still_call (T17.out _)
        repeat still_step
        still_call (T19.out _)
        repeat still_step
        refine wpStill_nil ?_
        change wpList _ _ _ _ _ w9.drew
        go_wp2
        have hw := (HW.out.via HW9.out).set k (.int .u32 (nt (x16 + x7 + (Sh.rot x15 7 ^^^ Sh.rot x15 18 ^^^ x15 >>> 3) + (Sh.rot x2 17 ^^^ Sh.rot x2 19 ^^^ x2 >>> 10)) : Nat))
        rw [show Sh.sig0 x15 = Sh.rot x15 7 ^^^ Sh.rot x15 18 ^^^ x15 >>> 3 from rfl, show Sh.sig1 x2 = Sh.rot x2 17 ^^^ Sh.rot x2 19 ^^^ x2 >>> 10 from rfl] at HWn
        rw [HWn.out] at hw
        have hs9 := HS.out.via HW9.out
        have hb9 := HB.out.via HW9.out
        have hz9 := HZ.out.via HW9.out
        have hbl9 : Below w.heap.size w w9 := by rw [← HW9.out]; exact below_drewN hbr _
        exact ⟨⟨k + 1, by omega, by go_num, hs9.setOther (by omega) _ _, hb9.setOther (by omega) _ _, hz9.setOther (by omega) _ _, hw, (hbl9.setCell (show w.heap.size ≤ w.heap.size + 3 by omega) _).drew⟩, by simp [intOf]; omega⟩
    · have hkk : k = 64 := by omega
      subst hkk
      have hgv := HW.out.lt
      have hscs : sc.size = 8 := by rw [← hsc]; rfl
      have hsc1 : sc.all (·.oneCell') = true := by rw [← hsc]; exact stv_one s
      go_wp2_with (first
        | (refine wpList_load_row rfl _ _ rfl w.heap.size rfl 100 sc (0, 0) _ HS.out Try.underlying100 rfl (by rw [hscs]; exact size23) ?_)
        | (refine wpList_store_row rfl _ _ _ rfl wr.heap.size sc rfl rfl 100 _ (heap_alloc_new wr _) (by rw [hscs]; exact size23) (by rw [hscs]; rfl) hsc1 ?_
           rw [World.setRow_alloc_new]))
      obtain ⟨gv, hgve⟩ : ∃ g, wr.heap.size = g := ⟨_, rfl⟩
      have HS2 : Hid (Rw (wr.alloc (.cells sc 100)) w.heap.size 100 sc) := HS.out.old _
      have HZ2 := Lib.hid (HZ.out.old (.cells sc 100))
      have HW2 := Lib.hid (HW.out.old (.cells sc 100))
      have HV2 : Hid (Rw (wr.alloc (.cells sc 100)) gv 100 (stv (Sh.rounds s (Sh.sched b 64) 0))) := by
        have := Rw.new wr 100 sc
        rw [hgve] at this
        rw [show Sh.rounds s (Sh.sched b 64) 0 = s from rfl, hsc]
        exact this
      have HB2 := Lib.hid (hbr.alloc hbr.size (.cells sc 100))
      rw [hgve] at hgv ⊢
      clear HS HZ HW HB hbr hgve
      go_loopw [10] (fun i wr => ∃ k : Nat, k ≤ 64 ∧ i = .int .i64 k ∧ Hid (Rw wr w.heap.size 100 sc) ∧ Hid (Rw wr (w.heap.size + 2) 100 #[.int .u32 0, .int .u32 0, .int .u32 0, .int .u32 0, .int .u32 0, .int .u32 0, .int .u32 0, .int .u32 0]) ∧ Hid (Rw wr (w.heap.size + 3) 138 (sch b 64)) ∧ Hid (Rw wr gv 100 (stv (Sh.rounds s (Sh.sched b 64) k))) ∧ Below w.heap.size w wr) (fun i _ => 64 - (intOf i).toNat)
      case atStart => exact ⟨0, by omega, rfl, HS2.out, HZ2.out, HW2.out, HV2.out, HB2.out⟩
      case round =>
        obtain ⟨k, hk, rfl, HS, HZ, HW, HV, hbr⟩ := hrel
        clear HS2 HZ2 HW2 HV2 HB2
        by_cases h64 : k < 64
        · have HR : Hid (Sh.rounds s (Sh.sched b 64) (k + 1) = Sh.round (Sh.rounds s (Sh.sched b 64) k) (Sh.kc k) ((Sh.sched b 64).getD k 0)) := rfl
          have HCW := Lib.hid (sch_at b h64)
          obtain ⟨x, hx⟩ : ∃ x, (Sh.sched b 64).getD k 0 = x := ⟨_, rfl⟩
          obtain ⟨S, hS⟩ : ∃ S, Sh.rounds s (Sh.sched b 64) k = S := ⟨_, rfl⟩
          rw [hx] at HCW
          rw [hx, hS] at HR
          rw [hS] at HV
          obtain ⟨a, b', c, d, e, f, g, h⟩ := S
          have v0 : ∀ m, (wr.drewN m).cell? ⟨gv, 0, none⟩ = some (.int .u32 (nt a : Nat)) := fun m => HV.out.cell 0
          have v1 : ∀ m, (wr.drewN m).cell? ⟨gv, 1, none⟩ = some (.int .u32 (nt b' : Nat)) := fun m => HV.out.cell 1
          have v2 : ∀ m, (wr.drewN m).cell? ⟨gv, 2, none⟩ = some (.int .u32 (nt c : Nat)) := fun m => HV.out.cell 2
          have v4 : ∀ m, (wr.drewN m).cell? ⟨gv, 4, none⟩ = some (.int .u32 (nt e : Nat)) := fun m => HV.out.cell 4
          have v5 : ∀ m, (wr.drewN m).cell? ⟨gv, 5, none⟩ = some (.int .u32 (nt f : Nat)) := fun m => HV.out.cell 5
          have v6 : ∀ m, (wr.drewN m).cell? ⟨gv, 6, none⟩ = some (.int .u32 (nt g : Nat)) := fun m => HV.out.cell 6
          have i5 : (k : Int) < 64 := by omega
          have u0 := v0 0
          have u1 := v1 0
          have u2 := v2 0
          clear hsc hbc hx hS
          go_wp2
          go_quiet (fail)
          go_wp2
          generalize hW5 : wr.drewN _ = w5
          have t4 : w5.cell? ⟨gv, 4, none⟩ = some (.int .u32 (nt e : Nat)) := by rw [← hW5]; exact v4 _
          have t5 : w5.cell? ⟨gv, 5, none⟩ = some (.int .u32 (nt f : Nat)) := by rw [← hW5]; exact v5 _
          have t6 : w5.cell? ⟨gv, 6, none⟩ = some (.int .u32 (nt g : Nat)) := by rw [← hW5]; exact v6 _
          have HV5 := Lib.hid (HV.out.via hW5)
          have HW5 := Lib.hid (HW.out.via hW5)
          have HS5 := Lib.hid (HS.out.via hW5)
          have HZ5 := Lib.hid (HZ.out.via hW5)
          have HB5 : Hid (Below w.heap.size w w5) := by unfold Hid; rw [← hW5]; exact below_drewN hbr _
          clear hW5 v0 v1 v2 v4 v5 v6 u0 u1 u2 HV HW HS HZ hbr
          go_quiet (fail)
          go_wp2
          generalize hW6 : w5.drewN _ = w6
          have HV6 := Lib.hid (HV5.out.via hW6)
          have HW6 := Lib.hid (HW5.out.via hW6)
          have HS6 := Lib.hid (HS5.out.via hW6)
          have HZ6 := Lib.hid (HZ5.out.via hW6)
          have HB6 : Hid (Below w.heap.size w w6) := by unfold Hid; rw [← hW6]; exact below_drewN HB5.out _
          have hs0 : w6.drew.cell? ⟨gv, 7, none⟩ = some (.int .u32 (nt h : Nat)) ∧ w6.drew.cell? ⟨w.heap.size + 1 + 1 + 1, k, none⟩ = some (.int .u32 (nt x : Nat)) := ⟨HV6.out.cell 7, (HW6.out.cell k).trans HCW.out⟩
          have HCE : Hid (∀ w', Below w6.drew.heap.size w6.drew w' → w'.cell? ⟨gv, 7, none⟩ = some (.int .u32 (nt h : Nat)) ∧ w'.cell? ⟨w.heap.size + 1 + 1 + 1, k, none⟩ = some (.int .u32 (nt x : Nat))) := fun w' hw =>
            ⟨((HV6.out.drew.below hw HV6.out.lt).cell 7), ((HW6.out.drew.below hw HW6.out.lt).cell k).trans HCW.out⟩
          have HBd := Lib.hid HB6.out.drew
          have HK : Hid (∀ w, Calls Try.prog 97 #[.int .i64 k] w (fun e w' => e = .returned (.int .u32 (nt (Sh.kc k) : Nat)) ∧ Below w.heap.size w w')) := fun w => constant_any k h64 w
          have T6 : Hid (∀ w, Calls Try.prog 96 #[.int .u32 (nt e : Nat), .int .i64 6] w (IsW (Sh.rot e 6) w)) := fun w => turn_any e 6 (by omega) w
          obtain ⟨r6, hr6⟩ : ∃ r, Sh.rot e 6 = r := ⟨_, rfl⟩
          rw [hr6] at T6
          have T11 : Hid (∀ w, Calls Try.prog 96 #[.int .u32 (nt e : Nat), .int .i64 11] w (IsW (Sh.rot e 11) w)) := fun w => turn_any e 11 (by omega) w
          obtain ⟨r11, hr11⟩ : ∃ r, Sh.rot e 11 = r := ⟨_, rfl⟩
          rw [hr11] at T11
          have T25 : Hid (∀ w, Calls Try.prog 96 #[.int .u32 (nt e : Nat), .int .i64 25] w (IsW (Sh.rot e 25) w)) := fun w => turn_any e 25 (by omega) w
          obtain ⟨r25, hr25⟩ : ∃ r, Sh.rot e 25 = r := ⟨_, rfl⟩
          rw [hr25] at T25
          obtain ⟨kk, hkk⟩ : ∃ r, Sh.kc k = r := ⟨_, rfl⟩
          rw [hkk] at HK
          have HKK := Lib.hid hkk
          have HR6 := Lib.hid hr6
          have HR11 := Lib.hid hr11
          have HR25 := Lib.hid hr25
          have hax := addw
          have hxo := xor_bv
          have han := and_bv
          have hor := or_bv
          have hno := unary_eq
          clear hW6 t4 t5 t6 HV5 HW5 HS5 HZ5 HB5 hkk hr6 hr11 hr25
          go_region_held3 (fun w' => w'.cell? ⟨gv, 7, none⟩ = some (.int .u32 (nt h : Nat)) ∧ w'.cell? ⟨w.heap.size + 1 + 1 + 1, k, none⟩ = some (.int .u32 (nt x : Nat)))
            (first | exact hs0 | exact hs1)
            (first
              | (go_at_call 96; (with_reducible refine (T6.out _).mono ?_); rintro e' w' ⟨rfl, rfl⟩)
              | (go_at_call 96; (with_reducible refine (T11.out _).mono ?_); rintro e' w' ⟨rfl, rfl⟩)
              | (go_at_call 96; (with_reducible refine (T25.out _).mono ?_); rintro e' w' ⟨rfl, rfl⟩)
              | (go_at_call 97; (with_reducible refine (HK.out _).mono ?_); rintro e' w7 ⟨rfl, hb7⟩; have HB7 := Lib.hid (HBd.out.trans (hb7.mono HBd.out.size)); have hs1 := HCE.out w7 hb7))
          have HV7 := Lib.hid (HV6.out.drew.below hb7 HV6.out.lt)
          have HW7 := Lib.hid (HW6.out.drew.below hb7 HW6.out.lt)
          have HS7 := Lib.hid (HS6.out.drew.below hb7 HS6.out.lt)
          have HZ7 := Lib.hid (HZ6.out.drew.below hb7 HZ6.out.lt)
          have HSZ : Hid (gv < w7.heap.size) := HV7.out.lt
          obtain rfl := HR6.out
          obtain rfl := HR11.out
          obtain rfl := HR25.out
          obtain rfl := HKK.out
          have c3 : w7.cell? ⟨gv, 3, none⟩ = some (.int .u32 (nt d : Nat)) := HV7.out.cell 3
          have T2 : Hid (∀ w, Calls Try.prog 96 #[.int .u32 (nt a : Nat), .int .i64 2] w (IsW (Sh.rot a 2) w)) := fun w => turn_any a 2 (by omega) w
          have T13 : Hid (∀ w, Calls Try.prog 96 #[.int .u32 (nt a : Nat), .int .i64 13] w (IsW (Sh.rot a 13) w)) := fun w => turn_any a 13 (by omega) w
          have T22 : Hid (∀ w, Calls Try.prog 96 #[.int .u32 (nt a : Nat), .int .i64 22] w (IsW (Sh.rot a 22) w)) := fun w => turn_any a 22 (by omega) w
          clear hs0 HCE HV6 HW6 HS6 HZ6 HB6 HBd hb7 hs1 T6 T11 T25 HK HKK HR6 HR11 HR25 hno
          go_wp2_with (first
            | (go_at_call 96; (first
                | (with_reducible refine (T2.out _).mono ?_) | (with_reducible refine (T13.out _).mono ?_) | (with_reducible refine (T22.out _).mono ?_)); rintro e' w' ⟨rfl, rfl⟩)
            | (refine wpList_build_at rfl _ _ rfl _ (by rfl) ?_)
            | (refine wpList_store_row rfl _ _ _ rfl gv (stv (Sh.round ⟨a, b', c, d, e, f, g, h⟩ (Sh.kc k) x)) rfl rfl 100 _ HV7.out (by rw [stv_size]; exact size23) (by rw [stv_size]; rfl) (stv_one _) ?_))
          have hv : Rw (w7.setRow gv (stv (Sh.round ⟨a, b', c, d, e, f, g, h⟩ (Sh.kc k) x))) gv 100 (stv (Sh.rounds s (Sh.sched b 64) (k + 1))) := by rw [HR.out]; exact HV7.out.row _
          exact ⟨⟨k + 1, by omega, by go_num, HS7.out.rowOther (by omega) _, HZ7.out.rowOther (by omega) _, HW7.out.rowOther (by omega) _, hv, HB7.out.trans (below_setRow (Below.refl _ _) (by omega) _)⟩, by simp [intOf]; omega⟩
        · have hkk : k = 64 := by omega
          subst hkk
          have HP : Hid (Sh.press s b = s.add (Sh.rounds s (Sh.sched b 64) 64)) := rfl
          obtain ⟨R, hRe⟩ : ∃ R, Sh.rounds s (Sh.sched b 64) 64 = R := ⟨_, rfl⟩
          rw [hRe] at HV HP
          rw [← hsc] at HS
          clear hRe HW
          rw [show ((64 : Nat) : Int) = (64 : Int) from rfl]
          go_wp2
          go_loopw [19] (fun i wr => ∃ k : Nat, k ≤ 8 ∧ i = .int .i64 k ∧ Hid (Rw wr w.heap.size 100 (addk s R k)) ∧ Hid (Rw wr (w.heap.size + 2) 100 #[.int .u32 0, .int .u32 0, .int .u32 0, .int .u32 0, .int .u32 0, .int .u32 0, .int .u32 0, .int .u32 0]) ∧ Hid (Rw wr gv 100 (stv R)) ∧ Below w.heap.size w wr) (fun i _ => 8 - (intOf i).toNat)
          case atStart => exact ⟨0, by omega, rfl, HS.out, HZ.out, HV.out, hbr⟩
          case round =>
            obtain ⟨k, hk, rfl, HA, HZ3, HV3, hbr3⟩ := hrel
            clear HS HZ HV hbr
            by_cases h8 : k < 8
            · obtain ⟨x, y, hx, hy, hset⟩ := addk_step s R h8
              have HST := Lib.hid hset
              have c0 : wr.drew.cell? ⟨w.heap.size, k, none⟩ = some (.int .u32 (nt x : Nat)) := (HA.out.cell k).trans hx
              have c1 : wr.drew.cell? ⟨gv, k, none⟩ = some (.int .u32 (nt y : Nat)) := (HV3.out.cell k).trans hy
              have cf : wr.drew.frozen? ⟨w.heap.size, k, none⟩ = false := HA.out.frozen k
              have i0 : (k : Int) < 8 := by omega
              have hax := addw
              clear hx hy hset hsc hbc
              go_wp2
              go_still_tail 9, (by kernel_rfl)
              change wpList _ _ _ _ _ wr.drew
              go_wp2
              have hw := HA.out.set k (.int .u32 (nt (x + y) : Nat))
              rw [HST.out] at hw
              go_roundw
              case rel => exact ⟨k + 1, by omega, by go_num, hw, HZ3.out.setOther (by omega) _ _, HV3.out.setOther (by omega) _ _, (hbr3.setCell (show w.heap.size ≤ w.heap.size from Nat.le_refl _) _).drew⟩
              case measure => simp [intOf]; omega
            · have hk8 : k = 8 := by omega
              subst hk8
              rw [addk_end] at HA
              have hsz := stv_size8 (s.add R)
              have hone := stv_one (s.add R)
              obtain ⟨pv, hpv⟩ : ∃ pv, stv (s.add R) = pv := ⟨_, rfl⟩
              have HPV := Lib.hid hpv
              have hps : pv.size = 8 := by rw [← hpv]; rfl
              rw [hpv] at HA hsz hone
              clear hpv
              go_wp2_with (first
                | (refine wpList_load_row rfl _ _ rfl w.heap.size rfl 100 pv (0, 0) _ HA.out Try.underlying100 rfl hsz ?_)
                | (refine wpList_store_row rfl _ _ _ rfl (w.heap.size + 2) pv rfl rfl 100 _ HZ3.out hsz (by rw [hps]; rfl) hone ?_))
              refine bodyPost_ret (v := .agg pv) (results_cell_row rfl _ _ (w.heap.size + 2) 100 pv (0, 0) _ rfl (Rw.row HZ3.out pv) Try.underlying100 rfl hsz) rfl ⟨by rw [HP.out, HPV.out], hbr3.trans (below_setRow (Below.refl _ _) (by omega) _)⟩
end Go.Proofs.Ytkialijipcbgkaa
namespace Go.Proofs.Ytkialijipcbgkaa
open Go.RowKit
set_option linter.unusedVariables false

namespace Sh
/-- What Behind tells. -/
def behindOf (a : Int) : List Nat × Nat := if a < 0 ∨ 1099511627776 < a then ([], 2) else (behind a.toNat, 0)
theorem behindOf_out {a : Int} (h : a < 0 ∨ 1099511627776 < a) : behindOf a = ([], 2) := by unfold behindOf; rw [if_pos h]
theorem behindOf_in {n : Nat} (h : n ≤ 1099511627776) : behindOf (n : Int) = (behind n, 0) := by unfold behindOf; rw [if_neg (by omega), Int.toNat_natCast]
theorem noughts_lt (n : Nat) : noughts n < 64 := by unfold noughts; omega
theorem noughts_iff {n j : Nat} (h : j ≤ noughts n) : (n + (1 + j) + 8) % 64 = 0 ↔ j = noughts n := by unfold noughts at *; omega
def lenV : Value → Nat
  | .slice _ l _ => l
  | _ => 0
theorem eight_at {n j : Nat} (h : j < 8) : (eight n).take (j + 1) = (eight n).take j ++ [n / 2 ^ (8 * (7 - j)) % 256] := by
  rcases j with _|_|_|_|_|_|_|_|j
  all_goals first | rfl | (exfalso; omega) | simp [eight]
end Sh

set_option maxHeartbeats 1000000 in
set_option maxRecDepth 100000 in
theorem rbehind_any (a : Int) (w : World) : Calls Try.prog 71 #[.int .i64 a] w (IsBE (Sh.behindOf a) w) := by
  by_cases ho : a < 0 ∨ 1099511627776 < a
  · have HX := Lib.hid (Sh.behindOf_out ho)
    rcases ho with h | h
    · go_enter Try.func71, Try.ntmps71
      go_wp2
      go_ret2
      exact IsBE.none_ HX.out
    · have h2 : ¬ a < 0 := by omega
      go_enter Try.func71, Try.ntmps71
      go_wp2
      go_ret2
      exact IsBE.none_ HX.out
  · obtain ⟨n, rfl⟩ := Int.eq_ofNat_of_zero_le (a := a) (by omega)
    have hn : n ≤ 1099511627776 := by omega
    have HX := Lib.hid (Sh.behindOf_in hn)
    have hb := Sh.noughts_lt n
    have HO0 := Lib.hid (OwnB.lit_ w (Nat.le_refl w.heap.size) (c := 128) (x := 128) rfl (by omega))
    clear ho
    go_enter Try.func71, Try.ntmps71
    go_wp2
    go_loopw [4] (fun v wr => ∃ j : Nat, j ≤ Sh.noughts n ∧ Hid (OwnB wr w.heap.size v (128 :: List.replicate j 0)) ∧ Below w.heap.size w wr) (fun v _ => 100 - Sh.lenV v)
    case atStart => exact ⟨0, by omega, HO0.out, (Below.refl w.heap.size w).alloc (Nat.le_refl _) _⟩
    case round =>
      obtain ⟨j, hj, HO, hbr⟩ := hrel
      obtain ⟨L, hL⟩ : ∃ L, 128 :: List.replicate j 0 = L := ⟨_, rfl⟩
      have hLl : L.length = 1 + j := by rw [← hL]; simp; omega
      have HLe := Lib.hid hL
      rw [hL] at HO
      obtain ⟨A, c, rfl, _⟩ := HO.out.form_
      have hbase := hbr.size
      have HLl := Lib.hid hLl
      have hfit : L.length + 1 ≤ 140737488355328 := by omega
      clear hL HO0
      by_cases hjn : j = Sh.noughts n
      · have hq : (((n : Int) + ((L.length : Nat) : Int) + 8) % 64 != 0) = false := by
          have := (Sh.noughts_iff hj).2 hjn
          rw [bne_eq_false_iff_eq]; omega
        clear hLl
        have HE : Hid (L ++ Sh.eight (8 * n) = Sh.behind n) := by
          unfold Hid; rw [← HLe.out, hjn]; rfl
        have HLm : Hid (L.length ≤ 70) := by have := HLl.out; unfold Hid; omega
        go_wp2
        clear hq
        go_loopw [4, 5] (fun v i wr => ∃ m : Nat, m ≤ 8 ∧ i = .int .i64 (7 - (m : Int)) ∧ Hid (OwnB wr w.heap.size v (L ++ (Sh.eight (8 * n)).take m)) ∧ Below w.heap.size w wr) (fun _ i _ => (intOf i + 1).toNat)
        case atStart => exact ⟨0, by omega, rfl, by simpa [Hid] using HO.out, hbr⟩
        case round =>
          obtain ⟨m, hm, rfl, HO2, hbr2⟩ := hrel
          clear HO hbr
          have hbase2 := hbr2.size
          obtain ⟨A2, c2, rfl, _⟩ := HO2.out.form_
          by_cases h8 : m < 8
          · have HT := Lib.hid (Sh.eight_at (n := 8 * n) h8)
            obtain ⟨q, hqe⟩ : ∃ q, 7 - m = q := ⟨_, rfl⟩
            have hqi : (7 : Int) - (m : Int) = (q : Nat) := by omega
            rw [hqe] at HT
            obtain ⟨y, hy⟩ : ∃ y, 8 * n / 2 ^ (8 * q) % 256 = y := ⟨_, rfl⟩
            have hy8 : y < 256 := by omega
            have hyi : (8 * (n : Int)) / 2 ^ (8 * q) % 256 = (y : Nat) := by rw [← hy]; simp
            rw [hy] at HT
            obtain ⟨M, hM⟩ : ∃ M, L ++ (Sh.eight (8 * n)).take m = M := ⟨_, rfl⟩
            have hMl : M.length ≤ 78 := by rw [← hM, List.length_append, List.length_take]; have := HLm.out; omega
            have HMe := Lib.hid hM
            rw [hM] at HO2 ⊢
            have HO3 : Hid (OwnB (wr.alloc (.cells #[.int .u8 (y : Int)] 5)) w.heap.size (.slice A2 M.length c2) M) := HO2.out.alloc_ _
            have HN3 : Hid (Bv (wr.alloc (.cells #[.int .u8 (y : Int)] 5)) (wr.heap.size + 1) (.slice (some ⟨wr.heap.size, 0, none⟩) 1 1) [y]) := Bv.one_ wr (x := (y : Int)) (c := y) rfl hy8
            have hz3 : w.heap.size ≤ (wr.alloc (.cells #[.int .u8 (y : Int)] 5)).heap.size := by simp; omega
            have HB3 := Lib.hid (hbr2.alloc hbase2 (.cells #[.int .u8 (y : Int)] 5))
            have hfit3 : M.length + [y].length ≤ 140737488355328 := by simp; omega
            rw [hqi]
            have hq7 : q ≤ 7 := by omega
            have HQ : Hid (7 - m = q ∧ m < 8) := ⟨hqe, h8⟩
            have hq8 : (8 * (q : Int)).toNat = 8 * q := by omega
            clear hqe hy hM hqi
            go_wp2_with (at_builtin; go_must (refine wpList_append_bytes _ rfl _ _ rfl rfl w.heap.size _ rfl M HO3.out _ rfl _ [y] HN3.out hfit3 hz3 ?_; intro A4 c4 w4 hA))
            have ho4 := hA.own
            have hb4 := HB3.out.grown hA.grown hz3 (fun k hk => (HO3.out.lt_ k hk).1)
            rw [← HMe.out, List.append_assoc, ← HT.out] at ho4
            have hl4 : (L ++ List.take (m + 1) (Sh.eight (8 * n))).length = M.length + 1 := by
              rw [HT.out, ← List.append_assoc, HMe.out, List.length_append]; rfl
            rw [hl4] at ho4
            have hqo := HQ.out
            refine ⟨⟨m + 1, by omega, congrArg (Value.int IntKind.i64) (by omega), ho4, hb4⟩, ?_⟩
            show (intOf (Value.int IntKind.i64 ((q : Int) - 1)) + 1).toNat < (intOf (Value.int IntKind.i64 (q : Int)) + 1).toNat
            simp only [intOf]
            omega
          · have h0 : m = 8 := by omega
            subst h0
            rw [show (Sh.eight (8 * n)).take 8 = Sh.eight (8 * n) from rfl, HE.out] at HO2 ⊢
            go_wp2
            go_ret2
            exact IsBE.of HX.out HO2.out hbr2
      · have hq : (((n : Int) + ((L.length : Nat) : Int) + 8) % 64 != 0) = true := by
          have : ¬ ((n + (1 + j) + 8) % 64 = 0) := fun h => hjn ((Sh.noughts_iff hj).1 h)
          rw [bne_iff_ne]; omega
        have HO1 : Hid (OwnB (wr.alloc (.cells #[.int .u8 0] 5)) w.heap.size (.slice A L.length c) L) := HO.out.alloc_ _
        have HN1 : Hid (Bv (wr.alloc (.cells #[.int .u8 0] 5)) (wr.heap.size + 1) (.slice (some ⟨wr.heap.size, 0, none⟩) 1 1) [0]) := Bv.one_ wr (x := 0) (c := 0) rfl (by omega)
        have hz1 : w.heap.size ≤ (wr.alloc (.cells #[.int .u8 0] 5)).heap.size := by simp; omega
        have HB1 := Lib.hid (hbr.alloc hbase (.cells #[.int .u8 0] 5))
        clear hLl
        go_wp2_with (at_builtin; go_must (refine wpList_append_bytes _ rfl _ _ rfl rfl w.heap.size _ rfl L HO1.out _ rfl _ [0] HN1.out (by simpa using hfit) hz1 ?_; intro A2 c2 w2 hA))
        have ho2 := hA.own
        have hb2 := HB1.out.grown hA.grown hz1 (fun k hk => (HO1.out.lt_ k hk).1)
        have hl2 : L ++ [0] = 128 :: List.replicate (j + 1) 0 := by rw [← HLe.out, List.replicate_succ']; rfl
        refine ⟨⟨j + 1, by omega, ?_, hb2⟩, ?_⟩
        · rw [← hl2]; simpa [Hid] using ho2
        · have := HLl.out
          simp [Sh.lenV]
          omega
end Go.Proofs.Ytkialijipcbgkaa
namespace Go.Proofs.Ytkialijipcbgkaa
open Go.RowKit
set_option linter.unusedVariables false

theorem St.byte_of (s : Sh.St) {i : Nat} (h : i < 32) : s.bytes.getD i 0 = nt (s.list.getD (i / 4) 0) / 2 ^ (24 - 8 * (i % 4)) % 256 := by
  have h' : i = 0 ∨ i = 1 ∨ i = 2 ∨ i = 3 ∨ i = 4 ∨ i = 5 ∨ i = 6 ∨ i = 7 ∨ i = 8 ∨ i = 9 ∨ i = 10 ∨ i = 11 ∨ i = 12 ∨ i = 13 ∨ i = 14 ∨ i = 15 ∨ i = 16 ∨ i = 17 ∨ i = 18 ∨ i = 19 ∨ i = 20 ∨ i = 21 ∨ i = 22 ∨ i = 23 ∨ i = 24 ∨ i = 25 ∨ i = 26 ∨ i = 27 ∨ i = 28 ∨ i = 29 ∨ i = 30 ∨ i = 31 := by omega
  obtain ⟨a, b, c, d, e, f, g, k⟩ := s
  rcases h' with rfl | rfl | rfl | rfl | rfl | rfl | rfl | rfl | rfl | rfl | rfl | rfl | rfl | rfl | rfl | rfl | rfl | rfl | rfl | rfl | rfl | rfl | rfl | rfl | rfl | rfl | rfl | rfl | rfl | rfl | rfl | rfl
  all_goals first | rfl | (show _ = _ / 1 % 256; rw [Nat.div_one]; rfl)
theorem St.bytes_len (s : Sh.St) : s.bytes.length = 32 := by obtain ⟨a, b, c, d, e, f, g, k⟩ := s; rfl
theorem St.bytes_lt (s : Sh.St) : ∀ x ∈ s.bytes, x < 256 := by
  intro x hx
  unfold Sh.St.bytes at hx
  obtain ⟨y, _, hy⟩ := List.mem_flatMap.1 hx
  simp only [Sh.hi, List.mem_cons, List.not_mem_nil, or_false] at hy
  omega
/-- The digest's array, the first k bytes of it written. -/
def dg (l : List Nat) (k : Nat) : Array Value := bvs (l.take k ++ List.replicate (32 - k) 0)
theorem dg_zero (l : List Nat) : dg l 0 = none32 := by unfold dg none32; rw [List.take_zero]; rfl
theorem dg_end {l : List Nat} (h : l.length = 32) : dg l 32 = bvs l := by unfold dg; rw [List.take_of_length_le (by omega)]; simp
theorem dg_old (l : List Nat) {k : Nat} (h : k < 32) (hl : l.length = 32) : (dg l k)[k]? = some (.int .u8 (0 : Nat)) := by
  refine bvs_some ?_
  have hk : (l.take k).length = k := by rw [List.length_take]; omega
  rw [List.getElem?_append_right (by omega), hk, Nat.sub_self]
  obtain ⟨m, hm⟩ : ∃ m, 32 - k = m + 1 := ⟨31 - k, by omega⟩
  rw [hm]; rfl
theorem dg_set (l : List Nat) {k x : Nat} (h : k < 32) (hl : l.length = 32) (hx : l.getD k 0 = x) : (dg l k).setIfInBounds k (.int .u8 (x : Nat)) = dg l (k + 1) := by
  unfold dg bvs
  apply Array.ext'
  have hm : 32 - k = (32 - (k + 1)) + 1 := by omega
  have hg : l[k]? = some x := by rw [List.getElem?_eq_getElem (by omega), ← hx, List.getD_eq_getElem?_getD, List.getElem?_eq_getElem (by omega)]; rfl
  have hk : (l.take k).length = k := by rw [List.length_take]; omega
  rw [Array.toList_setIfInBounds, hm, List.replicate_succ, List.take_add_one, hg]
  simp only [List.map_append, List.map_cons]
  rw [List.set_append_right _ _ (by rw [List.length_map]; omega)]
  simp [u8]
  rw [show k - min k l.length = 0 by omega, List.set_cons_zero]
theorem stv_at (s : Sh.St) {j : Nat} (h : j < 8) : (stv s)[j]? = some (.int .u32 (nt (s.list.getD j 0) : Nat)) := wvs_at s.list h

set_option maxHeartbeats 1000000 in
set_option maxRecDepth 100000 in
theorem digest_any (s : Sh.St) (w : World) : Calls Try.prog 91 #[.agg (stv s)] w (fun e w' => e = .returned (.agg (bvs s.bytes)) ∧ Below w.heap.size w w') := by
  have HSA : Hid (∀ j, j < 8 → (stv s)[j]? = some (.int .u32 (nt (s.list.getD j 0) : Nat))) := fun j hj => stv_at s hj
  obtain ⟨sc, hsc⟩ : ∃ c, stv s = c := ⟨_, rfl⟩
  rw [hsc] at HSA ⊢
  clear hsc
  have HBY : Hid (∀ i, i < 32 → s.bytes.getD i 0 = nt (s.list.getD (i / 4) 0) / 2 ^ (24 - 8 * (i % 4)) % 256) := fun i hi => St.byte_of s hi
  have HL := Lib.hid (St.bytes_len s)
  obtain ⟨l, hl⟩ : ∃ l, s.bytes = l := ⟨_, rfl⟩
  rw [hl] at HBY HL ⊢
  clear hl
  have hzero : ∀ w, (zeroValue 23).run Try.prog w = .ok (.agg none32) w := (zero_of_info (n := 32) (by kernel_rfl)).1
  go_enter Try.func91, Try.ntmps91
  go_wp2
  go_loopw [5] (fun i wr => ∃ k : Nat, k ≤ 32 ∧ i = .int .i64 k ∧ Hid (Rw wr w.heap.size 100 sc) ∧ Hid (Rw wr (w.heap.size + 1) 23 none32) ∧ Hid (Rw wr (w.heap.size + 2) 23 (dg l k)) ∧ Hid (Below w.heap.size w wr)) (fun i _ => 32 - (intOf i).toNat)
  case atStart =>
    refine ⟨0, by omega, rfl, ?_, ?_, ?_, ?_⟩
    · exact ((Rw.at_ rfl _ _).old _).old _
    · exact (Rw.at_ (by simp) _ _).old _
    · rw [dg_zero]; exact Rw.at_ (by simp) _ _
    · exact (((Below.refl w.heap.size w).alloc (Nat.le_refl _) _).alloc (by simp) _).alloc (by simp; omega) _
  case round =>
    obtain ⟨k, hk, rfl, HS, HN, HD, HB⟩ := hrel
    by_cases h32 : k < 32
    · obtain ⟨x, hx⟩ : ∃ x, s.list.getD (k / 4) 0 = x := ⟨_, rfl⟩
      obtain ⟨q, hq⟩ : ∃ q, 24 - 8 * (k % 4) = q := ⟨_, rfl⟩
      obtain ⟨y, hy⟩ : ∃ y, nt x / 2 ^ q % 256 = y := ⟨_, rfl⟩
      have hby := HBY.out k h32
      rw [hx, hq, hy] at hby
      have hy8 : y < 256 := by omega
      have hyi : ((nt x : Nat) : Int) / 2 ^ q % 256 = (y : Nat) := by rw [← hy]; simp
      have HST := Lib.hid (dg_set l h32 HL.out hby)
      have c0 : wr.cell? ⟨w.heap.size, k / 4, none⟩ = some (.int .u32 (nt x : Nat)) := by rw [← hx]; exact (HS.out.cell _).trans (HSA.out _ (by omega))
      have co : wr.cell? ⟨w.heap.size + 2, k, none⟩ = some (.int .u8 (0 : Nat)) := (HD.out.cell _).trans (dg_old l h32 HL.out)
      have cf : wr.frozen? ⟨w.heap.size + 2, k, none⟩ = false := HD.out.frozen _
      have i0 : (k : Int) < 32 := by omega
      have i1 : (0 : Int) ≤ (k : Int) / 4 := by omega
      have i2 : (k : Int) / 4 < 8 := by omega
      have i3 : ((k : Int) / 4).toNat = k / 4 := by omega
      have i5 : (24 : Int) - 8 * ((k : Int) % 4) = (q : Nat) := by omega
      clear hx hq hy hby
      go_wp2
      have hd := HD.out.set k (.int .u8 (y : Nat))
      rw [HST.out] at hd
      exact ⟨⟨k + 1, by omega, by go_num, HS.out.setOther (by omega) _ _, HN.out.setOther (by omega) _ _, hd, HB.out.setCell (show w.heap.size ≤ w.heap.size + 1 + 1 by omega) _⟩, by simp [intOf]; omega⟩
    · have hkk : k = 32 := by omega
      subst hkk
      rw [dg_end HL.out] at HD
      have hsz := size35l HL.out
      have hone := bvs_one l
      have hds : none32.size = (bvs l).size := by rw [bvs_size, HL.out]; rfl
      obtain ⟨dv, hdv⟩ : ∃ dv, bvs l = dv := ⟨_, rfl⟩
      rw [hdv] at HD hsz hone hds
      have HDV := Lib.hid hdv
      clear hdv
      rw [show ((32 : Nat) : Int) = (32 : Int) from rfl]
      go_wp2_with (first
        | (refine wpList_load_row rfl _ _ rfl (w.heap.size + 2) rfl 23 dv (0, 0) _ HD.out Try.underlying23 rfl hsz ?_)
        | (refine wpList_store_row rfl _ _ _ rfl (w.heap.size + 1) dv rfl rfl 23 _ HN.out hsz hds hone ?_))
      refine bodyPost_ret (v := .agg dv) (results_cell_row rfl _ _ (w.heap.size + 1) 23 dv (0, 0) _ rfl (Rw.row HN.out dv) Try.underlying23 rfl hsz) rfl ⟨by rw [HDV.out], HB.out.trans (below_setRow (Below.refl _ _) (by omega) _)⟩
end Go.Proofs.Ytkialijipcbgkaa
namespace Go.Proofs.Ytkialijipcbgkaa
open Go.RowKit
set_option linter.unusedVariables false

namespace Sh
/-- What stands behind, the last k bytes of the number written. -/
def tl (n k : Nat) : List Nat := List.replicate (8 - k) 0 ++ (eight (8 * n)).drop (8 - k)
def bh (n k : Nat) : List Nat := (128 :: List.replicate (noughts n) 0) ++ tl n k
theorem tl_len (n k : Nat) (h : k ≤ 8) : (tl n k).length = 8 := by simp [tl, eight]
theorem bh_len (n k : Nat) (h : k ≤ 8) : (bh n k).length = noughts n + 9 := by simp [bh, tl_len n k h]
theorem tl_set (n k : Nat) (h : k < 8) : (tl n k).set (7 - k) (8 * n / 2 ^ (8 * k) % 256) = tl n (k + 1) := by
  rcases k with _|_|_|_|_|_|_|_|k
  all_goals first | (exfalso; omega) | simp [tl, eight, List.replicate]
theorem bh_set (n k : Nat) (h : k < 8) : (bh n k).set (noughts n + 8 - k) (8 * n / 2 ^ (8 * k) % 256) = bh n (k + 1) := by
  unfold bh
  rw [List.set_append_right _ _ (by simp; omega)]
  have e : noughts n + 8 - k - (128 :: List.replicate (noughts n) 0).length = 7 - k := by simp; omega
  rw [e, tl_set n k h]
theorem bh_end (n : Nat) : bh n 8 = behind n := rfl
theorem bh_zero (n : Nat) : (List.replicate (noughts n + 9) 0).set 0 128 = bh n 0 := by
  have e : noughts n + 9 = noughts n + 8 + 1 := by omega
  rw [e, List.replicate_succ, List.set_cons_zero]
  have e2 : tl n 0 = List.replicate 8 0 := by simp [tl, eight]
  rw [bh, e2, List.cons_append, List.replicate_append_replicate]
end Sh
theorem bvs_set (l : List Nat) (j c : Nat) : (bvs l).setIfInBounds j (.int .u8 (c : Nat)) = bvs (l.set j c) := by
  unfold bvs
  apply Array.ext'
  rw [Array.toList_setIfInBounds, List.map_set]
  rfl
theorem bvs_zero (n : Nat) : (List.replicate n (Value.int .u8 0)).toArray = bvs (List.replicate n 0) := by
  unfold bvs
  rw [List.map_replicate]; rfl
theorem bvs_first (z : Nat) : (bvs (List.replicate (z + 9) 0))[0]? = some (.int .u8 0) := by simp [bvs, u8]
theorem Rw.own {w : World} {base g : Nat} {l : List Nat} (h : Rw w g 5 (bvs l)) (hb : base ≤ g) (hl : ∀ x ∈ l, x < 256) (hm : l.length ≤ maxLen) : OwnB w base (.slice (some ⟨g, 0, none⟩) l.length l.length) l := OwnB.of_heap hb hl hm h

/-- A call that answers these bytes in new memory. -/
def IsB (l : List Nat) (w : World) (e : Ending) (w' : World) : Prop :=
  ∃ A c, e = .returned (.slice A l.length c) ∧ OwnB w' w.heap.size (.slice A l.length c) l ∧ Below w.heap.size w w'

set_option maxHeartbeats 1000000 in
set_option maxRecDepth 100000 in
theorem behind_any (n : Nat) (hn : n ≤ 1099511627776) (w : World) : Calls Try.prog 90 #[.int .u64 n] w (IsB (Sh.behind n) w) := by
  obtain ⟨z, hz⟩ : ∃ z, Sh.noughts n = z := ⟨_, rfl⟩
  have hz64 : z < 64 := by rw [← hz]; exact Sh.noughts_lt n
  have h1 : ((64 : Int) - ((n : Int) + 1 + 8) % 64) % 64 = (z : Nat) := by rw [← hz]; unfold Sh.noughts; omega
  have h2 : (0 : Int) ≤ (64 : Int) - ((n : Int) + 1 + 8) % 64 := by omega
  have h3 : (64 : Int) - ((n : Int) + 1 + 8) % 64 < 65 := by omega
  go_enter Try.func90, Try.ntmps90
  obtain ⟨i0, hi, hz0, hz1, hz2⟩ := info_parts info5
  have hby : i0.bytes * (z + 9) ≤ 281474976710656 := by rw [hz2]; omega
  have hml : z + 9 ≤ maxLen := by simp only [maxLen]; omega
  go_wp2_with (at_make; go_must (refine wpList_make_full _ rfl _ _ 28 rfl w.heap.size 5 i0 (.int .u8 0) 1 Try.underlying28 hi hz0 hz1 .u64 .u64 _ _ (z + 9) rfl rfl (by omega) (by omega) hby hml (Nat.le_refl _) ?_; intro w1 hown hgrow); have HB1 : Hid (Below w.heap.size w w1) := (Below.refl _ _).grown hgrow (Nat.le_refl _) (by intro k hk; cases hk); have hr1 : Rw w1 w.heap.size 5 (bvs (List.replicate (z + 9) 0)) := (bvs_zero _) ▸ zeros_heap hown; have c0 : w1.cell? ⟨w.heap.size, 0, none⟩ = some (.int .u8 0) := (hr1.cell 0).trans (bvs_first z); have f0 := hr1.frozen 0; have HR1 := Lib.hid hr1; clear hr1 hown hgrow)
  have HR2 : Hid (Rw (w1.setCell ⟨w.heap.size, 0, none⟩ (.int .u8 128)) w.heap.size 5 (bvs (Sh.bh n 0))) := by
    have := HR1.out.set 0 (.int .u8 (128 : Nat))
    rw [bvs_set, ← hz, Sh.bh_zero] at this
    exact this
  have HB2 : Hid (Below w.heap.size w (w1.setCell ⟨w.heap.size, 0, none⟩ (.int .u8 128))) := HB1.out.setCell (Nat.le_refl _) _
  clear HR1 HB1 c0 f0 hi hz0 hz1 hz2 hby h1 h2 h3
  go_loopw [23] (fun i wr => ∃ k : Nat, k ≤ 8 ∧ i = .int .i64 k ∧ Hid (Rw wr w.heap.size 5 (bvs (Sh.bh n k))) ∧ Hid (Below w.heap.size w wr)) (fun i _ => 8 - (intOf i).toNat)
  case atStart => exact ⟨0, by omega, rfl, HR2.out, HB2.out⟩
  case round =>
    clear HR2 HB2
    obtain ⟨k, hk, rfl, HR, HB⟩ := hrel
    by_cases h8 : k < 8
    · have hlen := Sh.bh_len n k hk
      have hst := Sh.bh_set n k h8
      rw [hz] at hlen hst
      obtain ⟨y, hy⟩ : ∃ y, 8 * n / 2 ^ (8 * k) % 256 = y := ⟨_, rfl⟩
      have hy8 : y < 256 := by omega
      have hyi : (8 * (n : Int)) / 2 ^ (8 * k) % 256 = (y : Nat) := by rw [← hy]; simp
      rw [hy] at hst
      have HST := Lib.hid hst
      have co : wr.cell? ⟨w.heap.size, z + 8 - k, none⟩ = some (.int .u8 ((Sh.bh n k).getD (z + 8 - k) 0 : Nat)) := (HR.out.cell _).trans (bvs_at _ (by omega))
      have cf : wr.frozen? ⟨w.heap.size, z + 8 - k, none⟩ = false := HR.out.frozen _
      have i1 : (z : Int) + 9 - 1 - (k : Int) = (z + 8 - k : Nat) := by omega
      have i2 : ((8 : Int) * (k : Int)).toNat = 8 * k := by omega
      have i3 : (k : Int) < 8 := by omega
      have i4 : z + 8 - k < z + 9 := by omega
      clear hy hst
      go_wp2
      have hr := HR.out.set (z + 8 - k) (.int .u8 (y : Nat))
      rw [bvs_set, HST.out] at hr
      exact ⟨⟨k + 1, by omega, by go_num, hr, HB.out.setCell (Nat.le_refl _) _⟩, by simp [intOf]; omega⟩
    · have h0 : k = 8 := by omega
      subst h0
      rw [Sh.bh_end] at HR
      have hl : (Sh.behind n).length = z + 9 := by rw [Sh.behind_len, hz]
      have ho : OwnB wr w.heap.size (.slice (some ⟨w.heap.size, 0, none⟩) (Sh.behind n).length (Sh.behind n).length) (Sh.behind n) := HR.out.own (Nat.le_refl _) (Sh.behind_lt n) (by rw [hl]; exact hml)
      have HO : Hid (IsB (Sh.behind n) w (.returned (.slice (some ⟨w.heap.size, 0, none⟩) (z + 9) (z + 9))) wr) := by
        unfold Hid IsB
        rw [← hl]
        exact ⟨_, _, rfl, ho, HB.out⟩
      clear ho hl HR HB
      rw [show ((8 : Nat) : Int) = (8 : Int) from rfl]
      go_wp2
      go_ret
      exact HO.out

end Go.Proofs.Ytkialijipcbgkaa
