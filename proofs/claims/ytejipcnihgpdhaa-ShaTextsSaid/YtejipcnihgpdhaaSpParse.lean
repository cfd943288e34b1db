/-
  sha.Parse: a text as a digest.
-/
import Derived.Test.YtejipcnihgpdhaaSpIndex
import Derived.Laws.ResultCell
namespace Go.Proofs.Ytejipcnihgpdhaa
open Go.RowKit
set_option linter.unusedVariables false

set_option maxHeartbeats 2000000 in
set_option maxRecDepth 100000 in
theorem parse_any (s : ByteArray) (w : World) :
    Calls Try.prog 18 #[.string s] w (fun e w' => e = .returned (.tuple #[.agg (bvs (Sh.parse (chars s)).1), .int .i64 (Sh.parse (chars s)).2]) ∧ Below w.heap.size w w') := by
  have hcl : (chars s).length = s.size := by simp [chars]
  by_cases h64 : s.size = 64
  · have HC := Lib.hid (hcl.trans h64)
    have hq : ((s.size : Int) != 64) = false := by rw [bne_eq_false_iff_eq]; omega
    clear hcl
    go_enter Try.func18, Try.ntmps18
    go_wp2
    go_loopw [12] (fun i wr => ∃ k : Nat, k ≤ 32 ∧ i = .int .i64 k ∧ Hid (Rw wr w.heap.size 35 none32) ∧ Hid (Rw wr (w.heap.size + 1) 35 (dk (chars s) k)) ∧ Hid (Sh.good (chars s) k) ∧ Below w.heap.size w wr) (fun i _ => 32 - (intOf i).toNat)
    case atStart => exact ⟨0, by omega, rfl, (Rw.at_ rfl _ _).old _, Rw.at_ (by simp) _ (dk (chars s) 0), (fun j hj => by omega), ((Below.refl w.heap.size w).alloc (Nat.le_refl _) _).alloc (by simp) _⟩
    case round =>
      obtain ⟨k, hk, rfl, HN, HD, HG, hbr⟩ := hrel
      by_cases h32 : k < 32
      · have i0 : (k : Int) < 32 := by omega
        have w0 : IntKind.i64.wrap (2 * (k : Int)) = 2 * (k : Int) := by rw [IntKind.wrap_i64]; omega
        have w1 : IntKind.i64.wrap (2 * (k : Int) + 1) = 2 * (k : Int) + 1 := by rw [IntKind.wrap_i64]; omega
        have n0 : (2 * (k : Int)).toNat = 2 * k := by omega
        have n1 : (2 * (k : Int) + 1).toNat = 2 * k + 1 := by omega
        have k0 : 2 * k < s.size := by omega
        have k1 : 2 * k + 1 < s.size := by omega
        obtain ⟨c0, e0⟩ : ∃ c, (s[2 * k]'k0).toNat = c := ⟨_, rfl⟩
        obtain ⟨c1, e1⟩ : ∃ c, (s[2 * k + 1]'k1).toNat = c := ⟨_, rfl⟩
        have c08 : c0 < 256 := by rw [← e0]; exact UInt8.toNat_lt _
        have c18 : c1 < 256 := by rw [← e1]; exact UInt8.toNat_lt _
        have g0 : (chars s).getD (2 * k) 0 = c0 := (chars_at k0).trans e0
        have g1 : (chars s).getD (2 * k + 1) 0 = c1 := (chars_at k1).trans e1
        have HV0 := Lib.hid (fun w => sign_any c0 c08 w)
        have HV1 := Lib.hid (fun w => sign_any c1 c18 w)
        have HA0 : Hid (Sh.val c0 = 16 → Sh.at_ c0 = -1) := fun h => at_none h
        have HA1 : Hid (Sh.val c1 = 16 → Sh.at_ c1 = -1) := fun h => at_none h
        have HB0 : Hid (Sh.val c0 < 16 → Sh.at_ c0 = (Sh.val c0 : Int)) := fun h => at_val h
        have HB1 : Hid (Sh.val c1 < 16 → Sh.at_ c1 = (Sh.val c1 : Int)) := fun h => at_val h
        have hle0 := Sh.val_le c0
        have hle1 := Sh.val_le c1
        have HGb : Hid (Sh.val c0 = 16 ∨ Sh.val c1 = 16 → Sh.parse (chars s) = (List.replicate 32 0, 5)) := by
          intro h
          refine Sh.parse_bad (fun hh => ?_)
          rcases h with h | h
          · exact hh.2 (2 * k) (by omega) (by rw [g0]; exact h)
          · exact hh.2 (2 * k + 1) (by omega) (by rw [g1]; exact h)
        have HGo : Hid (Sh.val c0 ≠ 16 → Sh.val c1 ≠ 16 → Sh.good (chars s) (k + 1)) := fun h0 h1 => Sh.good_succ HG.out (by rw [g0]; exact h0) (by rw [g1]; exact h1)
        have HVs : Hid (Sh.vals (chars s) (k + 1) = Sh.vals (chars s) k ++ [16 * Sh.val c0 + Sh.val c1]) := by
          unfold Hid; rw [Sh.vals_succ, g0, g1]
        obtain ⟨p, hp⟩ : ∃ p, Sh.val c0 = p := ⟨_, rfl⟩
        obtain ⟨q, hqq⟩ : ∃ q, Sh.val c1 = q := ⟨_, rfl⟩
        rw [hp] at hle0 HGb HGo HVs HA0 HB0
        rw [hqq] at hle1 HGb HGo HVs HA1 HB1
        obtain ⟨x0, hx0⟩ : ∃ x, Sh.at_ c0 = x := ⟨_, rfl⟩
        obtain ⟨x1, hx1⟩ : ∃ x, Sh.at_ c1 = x := ⟨_, rfl⟩
        rw [hx0] at HV0 HA0 HB0
        rw [hx1] at HV1 HA1 HB1
        clear g0 g1 hp hqq hx0 hx1
        by_cases hbad : p = 16 ∨ q = 16
        · have HX := Lib.hid (HGb.out hbad)
          have hd : p = 16 ∨ p < 16 ∧ q = 16 := by omega
          clear hbad
          rcases hd with hd | ⟨hd, hd2⟩
          · obtain rfl := HA0.out hd
            clear hd
            go_wp2_with (first
          | (go_at_call 36; (with_reducible refine (HV0.out _).mono ?_); rintro e' w' ⟨rfl, rfl⟩)
          | (go_at_call 36; (with_reducible refine (HV1.out _).mono ?_); rintro e' w' ⟨rfl, rfl⟩)
          | (refine wpList_build_at rfl _ _ rfl none32 (by kernel_rfl) ?_)
          | (refine wpList_store_row rfl _ _ _ rfl w.heap.size none32 rfl rfl 35 none32 HN.out none32_size rfl none32_one ?_))
            refine bodyPost_ret (v := .tuple #[.agg none32, .int .i64 5]) ?_ rfl ⟨by rw [HX.out]; rfl, hbr.trans (below_setRow (Below.refl _ _) (Nat.le_refl _) _)⟩
            exact results_row_tmp (fn := Try.f18) (p := 2) (u := 3) (ty := 35) rfl _ _ w.heap.size 35 none32 _ _ rfl (Rw.row HN.out none32) Try.underlying35 none32_size
          · obtain rfl := HB0.out hd
            obtain rfl := HA1.out hd2
            have hq1 : ¬ ((p : Int) < 0) := by omega
            clear hd hd2
            go_wp2_with (first
          | (go_at_call 36; (with_reducible refine (HV0.out _).mono ?_); rintro e' w' ⟨rfl, rfl⟩)
          | (go_at_call 36; (with_reducible refine (HV1.out _).mono ?_); rintro e' w' ⟨rfl, rfl⟩)
          | (refine wpList_build_at rfl _ _ rfl none32 (by kernel_rfl) ?_)
          | (refine wpList_store_row rfl _ _ _ rfl w.heap.size none32 rfl rfl 35 none32 HN.out none32_size rfl none32_one ?_))
            refine bodyPost_ret (v := .tuple #[.agg none32, .int .i64 5]) ?_ rfl ⟨by rw [HX.out]; rfl, hbr.trans (below_setRow (Below.refl _ _) (Nat.le_refl _) _)⟩
            exact results_row_tmp (fn := Try.f18) (p := 2) (u := 3) (ty := 35) rfl _ _ w.heap.size 35 none32 _ _ rfl (Rw.row HN.out none32) Try.underlying35 none32_size
        · have hp16 : p < 16 := by omega
          have hq16 : q < 16 := by omega
          obtain rfl := HB0.out hp16
          obtain rfl := HB1.out hq16
          have hq1 : ¬ ((p : Int) < 0) := by omega
          have hq2 : ¬ ((q : Int) < 0) := by omega
          have HG2 := Lib.hid (HGo.out (by omega) (by omega))
          have co : wr.cell? ⟨w.heap.size + 1, k, none⟩ = some (.int .u8 (0 : Nat)) := (HD.out.cell k).trans (dk_old _ h32)
          have cf : wr.frozen? ⟨w.heap.size + 1, k, none⟩ = false := HD.out.frozen k
          have HDn := Lib.hid (dk_set (chars s) h32 HVs.out)
          clear hbad
          go_wp2_with (first
          | (go_at_call 36; (with_reducible refine (HV0.out _).mono ?_); rintro e' w' ⟨rfl, rfl⟩)
          | (go_at_call 36; (with_reducible refine (HV1.out _).mono ?_); rintro e' w' ⟨rfl, rfl⟩)
          | (refine wpList_build_at rfl _ _ rfl none32 (by kernel_rfl) ?_)
          | (refine wpList_store_row rfl _ _ _ rfl w.heap.size none32 rfl rfl 35 none32 HN.out none32_size rfl none32_one ?_))
          have hw := HD.out.set k (.int .u8 ((16 * p + q : Nat) : Int))
          rw [HDn.out] at hw
          have hmod : bits BinOp.or IntKind.i64 ((p : Int) * 16) (q : Int) % 256 = ((16 * p + q : Nat) : Int) := by rw [two_bits p hp16 q hq16]; omega
          rw [hmod]
          exact ⟨⟨k + 1, by omega, by go_num, HN.out.setOther (by omega) _ _, hw, HG2.out, hbr.setCell (show w.heap.size ≤ w.heap.size + 1 by omega) _⟩, by simp [intOf]; omega⟩
      · have hk32 : k = 32 := by omega
        subst hk32
        have HX := Lib.hid (Sh.parse_ok HC.out HG.out)
        have hdv : dk (chars s) 32 = bvs (Sh.vals (chars s) 32) := by simp [dk]
        rw [hdv] at HD
        have hsz : (Try.prog.info? 35).map (·.size) = some (bvs (Sh.vals (chars s) 32)).size := size35l (Sh.vals_len _ _)
        obtain ⟨dv, hdve⟩ : ∃ dv, bvs (Sh.vals (chars s) 32) = dv := ⟨_, rfl⟩
        have hd1 : dv.all (·.oneCell') = true := by rw [← hdve]; exact bvs_one _
        have hds : none32.size = dv.size := by rw [← hdve, bvs_size, Sh.vals_len]; rfl
        have HDV := Lib.hid hdve
        rw [hdve] at HD hsz
        clear hdv hdve
        go_wp2_with (first
          | (refine wpList_load_row rfl _ _ rfl (w.heap.size + 1) rfl 35 dv (0, 0) _ HD.out Try.underlying35 rfl hsz ?_)
          | (refine wpList_store_row rfl _ _ _ rfl w.heap.size dv rfl rfl 35 none32 HN.out hsz hds hd1 ?_))
        refine bodyPost_ret (v := .tuple #[.agg dv, .int .i64 0]) ?_ rfl ⟨by rw [HX.out, ← HDV.out]; rfl, hbr.trans (below_setRow (Below.refl _ _) (Nat.le_refl _) _)⟩
        exact results_row_tmp (fn := Try.f18) (p := 2) (u := 3) (ty := 35) rfl _ _ w.heap.size 35 dv _ _ rfl (Rw.row HN.out dv) Try.underlying35 hsz
  · have HX := Lib.hid (Sh.parse_bad (c := chars s) (by rw [hcl]; exact fun h => h64 h.1))
    have hq : ((s.size : Int) != 64) = true := by rw [bne_iff_ne]; omega
    clear hcl
    go_enter Try.func18, Try.ntmps18
    have HN : Hid (Rw ((w.alloc (.cells none32 35)).alloc (.cells none32 35)) w.heap.size 35 none32) := (Rw.at_ rfl _ _).old _
    have HB := Lib.hid (((Below.refl w.heap.size w).alloc (Nat.le_refl _) (.cells none32 35)).alloc (by simp) (.cells none32 35))
    go_wp2_with (first
      | (refine wpList_build_at rfl _ _ rfl none32 (by kernel_rfl) ?_)
      | (refine wpList_store_row rfl _ _ _ rfl w.heap.size none32 rfl rfl 35 none32 HN.out none32_size rfl none32_one ?_))
    refine bodyPost_ret (v := .tuple #[.agg none32, .int .i64 5]) ?_ rfl ⟨by rw [HX.out]; rfl, HB.out.trans (below_setRow (Below.refl _ _) (Nat.le_refl _) _)⟩
    exact results_row_tmp (fn := Try.f18) (p := 2) (u := 3) (ty := 35) rfl _ _ w.heap.size 35 none32 _ _ rfl (Rw.row HN.out none32) Try.underlying35 none32_size
end Go.Proofs.Ytejipcnihgpdhaa
