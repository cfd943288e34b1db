/-
  SpRound: sha.round: one round.
  SpMath: Mathematics of the program's way through a block: words grown byte by byte.
  SpSpread: sha.spread: the words of all rounds.
  SpPress: sha.Press presses a block into a state.
-/
import Derived.Test.YtkialijipcbgkaaPk38
import Derived.BigQuiet
import Derived.Test.YtkialijipcbgkaaPk33
import Derived.StillTailTactics
import Derived.Test.YtkialijipcbgkaaPk24
import Derived.Test.YtkialijipcbgkaaPk34
namespace Go.Proofs.Ytkialijipcbgkaa
open Go.RowKit
set_option linter.unusedVariables false

theorem z8_eq : (Array.replicate 8 (Value.int .u32 0)) = #[.int .u32 0, .int .u32 0, .int .u32 0, .int .u32 0, .int .u32 0, .int .u32 0, .int .u32 0, .int .u32 0] := rfl

set_option maxHeartbeats 2000000 in
set_option maxRecDepth 100000 in
theorem round_any (s : Sh.St) (k x : Sh.W32) (w : World) : Calls Try.prog 105 #[.agg (stv s), .int .u32 (nt k : Nat), .int .u32 (nt x : Nat)] w (IsSt (Sh.round s k x) w) := by
  obtain ⟨a, b, c, d, e, f, g, h⟩ := s
  obtain ⟨sc, hsc⟩ : ∃ c', stv ⟨a, b, c, d, e, f, g, h⟩ = c' := ⟨_, rfl⟩
  rw [hsc]
  go_enter Try.func105, Try.ntmps105
  go_wp2
  generalize hW0 : (w.alloc _).alloc _ = w0
  have HS0 : Hid (Rw w0 w.heap.size 100 sc) := by unfold Hid; rw [← hW0]; exact (Rw.new w _ _).old _
  have HZ0 : Hid (Rw w0 (w.heap.size + 1) 100 #[.int .u32 0, .int .u32 0, .int .u32 0, .int .u32 0, .int .u32 0, .int .u32 0, .int .u32 0, .int .u32 0]) := by
    unfold Hid; rw [← hW0]; exact Rw.at_ (by simp) _ _
  have HB0 : Hid (Below w.heap.size w w0) := by unfold Hid; rw [← hW0]; exact (((Below.refl w.heap.size w).alloc (Nat.le_refl _) _).alloc (by simp) _)
  clear hW0
  rw [← hsc] at HS0
  clear hsc
  have v0 : ∀ m, (w0.drewN m).cell? ⟨w.heap.size, 0, none⟩ = some (.int .u32 (nt a : Nat)) := fun m => HS0.out.cell 0
  have v1 : ∀ m, (w0.drewN m).cell? ⟨w.heap.size, 1, none⟩ = some (.int .u32 (nt b : Nat)) := fun m => HS0.out.cell 1
  have v2 : ∀ m, (w0.drewN m).cell? ⟨w.heap.size, 2, none⟩ = some (.int .u32 (nt c : Nat)) := fun m => HS0.out.cell 2
  have v3 : ∀ m, (w0.drewN m).cell? ⟨w.heap.size, 3, none⟩ = some (.int .u32 (nt d : Nat)) := fun m => HS0.out.cell 3
  have v4 : ∀ m, (w0.drewN m).cell? ⟨w.heap.size, 4, none⟩ = some (.int .u32 (nt e : Nat)) := fun m => HS0.out.cell 4
  have v5 : ∀ m, (w0.drewN m).cell? ⟨w.heap.size, 5, none⟩ = some (.int .u32 (nt f : Nat)) := fun m => HS0.out.cell 5
  have v6 : ∀ m, (w0.drewN m).cell? ⟨w.heap.size, 6, none⟩ = some (.int .u32 (nt g : Nat)) := fun m => HS0.out.cell 6
  have v7 : ∀ m, (w0.drewN m).cell? ⟨w.heap.size, 7, none⟩ = some (.int .u32 (nt h : Nat)) := fun m => HS0.out.cell 7
  have u0 := v0 0
  have u1 := v1 0
  have u2 := v2 0
  have u3 := v3 0
  go_quiet (fail)
  go_wp2
  generalize hW1 : w0.drewN _ = w1
  have t4 : w1.cell? ⟨w.heap.size, 4, none⟩ = some (.int .u32 (nt e : Nat)) := by rw [← hW1]; exact v4 _
  have t5 : w1.cell? ⟨w.heap.size, 5, none⟩ = some (.int .u32 (nt f : Nat)) := by rw [← hW1]; exact v5 _
  have t6 : w1.cell? ⟨w.heap.size, 6, none⟩ = some (.int .u32 (nt g : Nat)) := by rw [← hW1]; exact v6 _
  have t7 : w1.cell? ⟨w.heap.size, 7, none⟩ = some (.int .u32 (nt h : Nat)) := by rw [← hW1]; exact v7 _
  have HZ1 := Lib.hid (HZ0.out.via hW1)
  have HB1 : Hid (Below w.heap.size w w1) := by unfold Hid; rw [← hW1]; exact below_drewN HB0.out _
  clear hW1 v0 v1 v2 v3 v4 v5 v6 v7 u0 u1 u2 u3 HS0 HZ0 HB0
  go_quiet (fail)
  generalize hW2 : w1.drewN _ = w2
  have HZ2 := Lib.hid (HZ1.out.via hW2)
  have HB2 : Hid (Below w.heap.size w w2) := by unfold Hid; rw [← hW2]; exact below_drewN HB1.out _
  clear hW2 t4 t5 t6 t7 HZ1 HB1
  have hax := addw
  have hax3 := add_bv
  have hxo := xor_bv
  go_wp2_with (fail)
  refine (turning_any a w2).mono ?_
  rintro e' w3 ⟨rfl, hw3⟩
  obtain ⟨ga, hga⟩ : ∃ ga, w2.heap.size = ga := ⟨_, rfl⟩
  have hg2 := HB2.out.size
  have HA3 : Hid (Rw w3 ga 83 #[.int .u32 (nt a : Nat)]) := by unfold Hid; rw [hw3]; exact Rw.at_ hga.symm _ _
  have HZ3 : Hid (Rw w3 (w.heap.size + 1) 100 #[.int .u32 0, .int .u32 0, .int .u32 0, .int .u32 0, .int .u32 0, .int .u32 0, .int .u32 0, .int .u32 0]) := by unfold Hid; rw [hw3]; exact HZ2.out.old _
  have HB3 : Hid (Below w.heap.size w w3) := by unfold Hid; rw [hw3]; exact HB2.out.alloc hg2 _
  rw [hga]
  clear hw3 hga hg2 HZ2 HB2
  go_wp2_with (fail)
  refine (turning_any e w3).mono ?_
  rintro e' w4 ⟨rfl, hw4⟩
  obtain ⟨ge, hge⟩ : ∃ ge, w3.heap.size = ge := ⟨_, rfl⟩
  have hg3 := HB3.out.size
  have HE4 : Hid (Rw w4 ge 83 #[.int .u32 (nt e : Nat)]) := by unfold Hid; rw [hw4]; exact Rw.at_ hge.symm _ _
  have HA4 : Hid (Rw w4 ga 83 #[.int .u32 (nt a : Nat)]) := by unfold Hid; rw [hw4]; exact HA3.out.old _
  have HZ4 : Hid (Rw w4 (w.heap.size + 1) 100 #[.int .u32 0, .int .u32 0, .int .u32 0, .int .u32 0, .int .u32 0, .int .u32 0, .int .u32 0, .int .u32 0]) := by unfold Hid; rw [hw4]; exact HZ3.out.old _
  have HB4 : Hid (Below w.heap.size w w4) := by unfold Hid; rw [hw4]; exact HB3.out.alloc hg3 _
  rw [hge]
  clear hw4 hge hg3 HZ3 HB3 HA3
  have T6 : Hid (Calls Try.prog 121 #[.int .u64 6, .pointer (some ⟨ge, 0, none⟩)] w4 (IsW (Sh.rot e 6) w4)) := turn1_any e 6 ge (by omega) w4 (HE4.out.cell 0)
  have T11 : Hid (Calls Try.prog 121 #[.int .u64 11, .pointer (some ⟨ge, 0, none⟩)] w4 (IsW (Sh.rot e 11) w4)) := turn1_any e 11 ge (by omega) w4 (HE4.out.cell 0)
  have T25 : Hid (Calls Try.prog 121 #[.int .u64 25, .pointer (some ⟨ge, 0, none⟩)] w4 (IsW (Sh.rot e 25) w4)) := turn1_any e 25 ge (by omega) w4 (HE4.out.cell 0)
  have T2 : Hid (Calls Try.prog 121 #[.int .u64 2, .pointer (some ⟨ga, 0, none⟩)] w4 (IsW (Sh.rot a 2) w4)) := turn1_any a 2 ga (by omega) w4 (HA4.out.cell 0)
  have T13 : Hid (Calls Try.prog 121 #[.int .u64 13, .pointer (some ⟨ga, 0, none⟩)] w4 (IsW (Sh.rot a 13) w4)) := turn1_any a 13 ga (by omega) w4 (HA4.out.cell 0)
  have T22 : Hid (Calls Try.prog 121 #[.int .u64 22, .pointer (some ⟨ga, 0, none⟩)] w4 (IsW (Sh.rot a 22) w4)) := turn1_any a 22 ga (by omega) w4 (HA4.out.cell 0)
  have HC := Lib.hid (choice_any e f g w4)
  have HM := Lib.hid (majority_any a b c w4)
  go_wp2_with (first
    | (go_at_call 121; (first
        | (with_reducible refine (T6.out).mono ?_) | (with_reducible refine (T11.out).mono ?_) | (with_reducible refine (T25.out).mono ?_)
        | (with_reducible refine (T2.out).mono ?_) | (with_reducible refine (T13.out).mono ?_) | (with_reducible refine (T22.out).mono ?_)); rintro e' w' ⟨rfl, rfl⟩)
    | (go_at_call 114; (with_reducible refine (HC.out).mono ?_); rintro e' w' ⟨rfl, rfl⟩)
    | (go_at_call 115; (with_reducible refine (HM.out).mono ?_); rintro e' w' ⟨rfl, rfl⟩)
    | (refine wpList_build_at rfl _ _ rfl _ (by rfl) ?_)
    | (refine wpList_store_row rfl _ _ _ rfl (w.heap.size + 1) (stv (Sh.round ⟨a, b, c, d, e, f, g, h⟩ k x)) rfl rfl 100 _ HZ4.out (by rw [stv_size]; exact size23) (by rw [stv_size]; rfl) (stv_one _) ?_))
  refine bodyPost_ret (v := .agg (stv (Sh.round ⟨a, b, c, d, e, f, g, h⟩ k x))) (results_cell_row rfl _ _ (w.heap.size + 1) 100 _ (0, 0) _ rfl (Rw.row HZ4.out _) Try.underlying100 rfl (by rw [stv_size]; exact size23)) rfl ⟨rfl, HB4.out.trans (below_setRow (Below.refl _ _) (by omega) _)⟩
end Go.Proofs.Ytkialijipcbgkaa
namespace Go.Proofs.Ytkialijipcbgkaa
open Go.RowKit
set_option linter.unusedVariables false

namespace Sh
/-- The 64 words behind the first i bytes. -/
def ws (b : List Nat) : Nat → List W32
  | 0 => List.replicate 64 0
  | i + 1 => (ws b i).set (i / 4) ((ws b i).getD (i / 4) 0 <<< 8 ||| BitVec.ofNat 32 (b.getD i 0))
theorem ws_len (b : List Nat) (i : Nat) : (ws b i).length = 64 := by
  induction i with
  | zero => rfl
  | succ i ih => rw [ws, List.length_set, ih]
theorem four (x c0 c1 c2 c3 : W32) (hx : x = 0) : ((((x <<< 8 ||| c0) <<< 8 ||| c1) <<< 8 ||| c2) <<< 8 ||| c3) = word c0 c1 c2 c3 := by
  subst hx
  unfold word
  have hz : ∀ n : Nat, (0 : W32) <<< n = 0 := fun n => by simp
  have hz2 : ∀ c : W32, (0 : W32) ||| c = c := fun c => by simp
  simp only [BitVec.shiftLeft_or_distrib, ← BitVec.shiftLeft_add, hz, hz2, Nat.reduceAdd]
theorem ws_four (b : List Nat) {m : Nat} (h : m < 64) (h0 : (ws b (4 * m)).getD m 0 = 0) :
    ws b (4 * (m + 1)) = (ws b (4 * m)).set m (word (BitVec.ofNat 32 (b.getD (4 * m) 0)) (BitVec.ofNat 32 (b.getD (4 * m + 1) 0)) (BitVec.ofNat 32 (b.getD (4 * m + 2) 0)) (BitVec.ofNat 32 (b.getD (4 * m + 3) 0))) := by
  have e : 4 * (m + 1) = 4 * m + 1 + 1 + 1 + 1 := by omega
  have hl := ws_len b (4 * m)
  have d0 : 4 * m / 4 = m := by omega
  have d1 : (4 * m + 1) / 4 = m := by omega
  have d2 : (4 * m + 1 + 1) / 4 = m := by omega
  have d3 : (4 * m + 1 + 1 + 1) / 4 = m := by omega
  have g (l : List W32) (hl : l.length = 64) (x y : W32) : (l.set m x).set m ((l.set m x).getD m 0 <<< 8 ||| y) = l.set m (x <<< 8 ||| y) := by
    rw [List.getD_eq_getElem?_getD, List.getElem?_set_self (by omega), List.set_set]; rfl
  have e1 : ws b (4 * m + 1) = (ws b (4 * m)).set m ((ws b (4 * m)).getD m 0 <<< 8 ||| BitVec.ofNat 32 (b.getD (4 * m) 0)) := by rw [ws, d0]
  have e2 : ws b (4 * m + 1 + 1) = (ws b (4 * m)).set m (((ws b (4 * m)).getD m 0 <<< 8 ||| BitVec.ofNat 32 (b.getD (4 * m) 0)) <<< 8 ||| BitVec.ofNat 32 (b.getD (4 * m + 1) 0)) := by
    rw [ws, d1, e1, g _ hl]
  have e3 : ws b (4 * m + 1 + 1 + 1) = (ws b (4 * m)).set m ((((ws b (4 * m)).getD m 0 <<< 8 ||| BitVec.ofNat 32 (b.getD (4 * m) 0)) <<< 8 ||| BitVec.ofNat 32 (b.getD (4 * m + 1) 0)) <<< 8 ||| BitVec.ofNat 32 (b.getD (4 * m + 1 + 1) 0)) := by
    rw [ws, d2, e2, g _ hl]
  rw [e, ws, d3, e3, g _ hl, four _ _ _ _ _ h0]
theorem ws_sched (b : List Nat) : ∀ m, m ≤ 16 → ws b (4 * m) = sched b m ++ List.replicate (64 - m) 0
  | 0, _ => rfl
  | m + 1, h => by
    have ih := ws_sched b m (by omega)
    have hm : 64 - m = (64 - (m + 1)) + 1 := by omega
    have h0 : (ws b (4 * m)).getD m 0 = 0 := by
      rw [ih, List.getD_eq_getElem?_getD, List.getElem?_append_right (by rw [sched_len]; omega), sched_len, Nat.sub_self, hm]; rfl
    rw [ws_four b (by omega) h0, sched_word b (by omega), ih, hm, List.replicate_succ, List.set_append_right _ _ (by rw [sched_len]; omega), sched_len, Nat.sub_self, List.set_cons_zero, List.append_assoc]
    rfl
theorem mix (a b c d : W32) : a + c + b + d = a + b + c + d := by
  rw [BitVec.add_assoc a c b, BitVec.add_comm c b, ← BitVec.add_assoc]
end Sh

/-- The words' array behind i bytes. -/
def wsv (b : List Nat) (i : Nat) : Array Value := wvs (Sh.ws b i)
theorem wsv_zero (b : List Nat) : wsv b 0 = noughts52 := by rfl
theorem wsv_sch (b : List Nat) : wsv b 64 = sch b 16 := by
  unfold wsv sch
  rw [Sh.ws_sched b 16 (by omega)]
theorem wsv_at (b : List Nat) {i j : Nat} (h : j < 64) : (wsv b i)[j]? = some (.int .u32 (nt ((Sh.ws b i).getD j 0) : Nat)) := wvs_at _ (by rw [Sh.ws_len]; exact h)
theorem wsv_set (b : List Nat) (i : Nat) (x : Sh.W32) (hx : (Sh.ws b i).getD (i / 4) 0 <<< 8 ||| BitVec.ofNat 32 (b.getD i 0) = x) : (wsv b i).setIfInBounds (i / 4) (.int .u32 (nt x : Nat)) = wsv b (i + 1) := by
  unfold wsv wvs
  rw [Sh.ws, hx]
  apply Array.ext'
  rw [Array.toList_setIfInBounds, List.map_set]
  rfl
theorem wsv_size (b : List Nat) (i : Nat) : (wsv b i).size = 64 := by simp [wsv, wvs, Sh.ws_len]
end Go.Proofs.Ytkialijipcbgkaa
namespace Go.Proofs.Ytkialijipcbgkaa
open Go.RowKit
set_option linter.unusedVariables false

set_option maxHeartbeats 4000000 in
set_option maxRecDepth 100000 in
theorem spread_any (b : List Nat) (hb : b.length = 64) (hb8 : ∀ x ∈ b, x < 256) (w : World) :
    Calls Try.prog 104 #[.agg (bvs b)] w (fun e w' => e = .returned (.agg (sch b 64)) ∧ Below w.heap.size w w') := by
  have HL := Lib.hid hb
  have H8 := Lib.hid hb8
  clear hb hb8
  have hbsz : (bvs b).size = 64 := by rw [bvs_size]; exact HL.out
  obtain ⟨bc, hbc⟩ : ∃ c, bvs b = c := ⟨_, rfl⟩
  rw [hbc] at hbsz ⊢
  have HBC := Lib.hid hbc
  clear hbc
  have hzero := (zero_of_info zero52).1
  go_enter Try.func104, Try.ntmps104
  go_wp2_with (refine wpList_load_row rfl _ _ rfl w.heap.size rfl 102 bc (0, 0) _ (((Rw.new w _ _).old _).old _) Try.underlying102 rfl (by rw [hbsz]; exact size24) ?_)
  go_loopw [14] (fun i wr => ∃ k : Nat, k ≤ 64 ∧ i = .int .i64 k ∧ Hid (Rw wr (w.heap.size + 1) 138 noughts52) ∧ Hid (Rw wr (w.heap.size + 2) 138 (wsv b k)) ∧ Hid (Below w.heap.size w wr)) (fun i _ => 64 - (intOf i).toNat)
  case atStart =>
    refine ⟨0, by omega, rfl, ?_, ?_, ?_⟩
    · exact (Rw.at_ (by simp) _ _).old _
    · rw [wsv_zero]; exact Rw.at_ (by simp) _ _
    · exact (((Below.refl w.heap.size w).alloc (Nat.le_refl _) _).alloc (by simp) _).alloc (by simp; omega) _
  case round =>
    obtain ⟨k, hk, rfl, HZ, HW, HB⟩ := hrel
    by_cases h64 : k < 64
    · have hbk : bc[k]? = some (.int .u8 (nt (BitVec.ofNat 32 (b.getD k 0)) : Nat)) := by rw [← HBC.out]; exact byte_at HL.out H8.out h64
      have c0 : wr.cell? ⟨w.heap.size + 2, k / 4, none⟩ = some (.int .u32 (nt ((Sh.ws b k).getD (k / 4) 0) : Nat)) := (HW.out.cell _).trans (wsv_at b (by omega))
      have hf : wr.frozen? ⟨w.heap.size + 2, k / 4, none⟩ = false := HW.out.frozen _
      obtain ⟨y, hy⟩ : ∃ y, BitVec.ofNat 32 (b.getD k 0) = y := ⟨_, rfl⟩
      obtain ⟨z, hz⟩ : ∃ z, (Sh.ws b k).getD (k / 4) 0 = z := ⟨_, rfl⟩
      have HX : Hid ((wsv b k).setIfInBounds (k / 4) (.int .u32 (nt (z <<< 8 ||| y) : Nat)) = wsv b (k + 1)) := wsv_set b k _ (by rw [hy, hz])
      rw [hy] at hbk
      rw [hz] at c0
      have hsh := shl8w
      have hor := or_bv
      have hm := wrap_nt
      have hi0 : (k : Int) < 64 := by omega
      have hi1 : (0 : Int) ≤ (k : Int) / 4 := by omega
      have hi2 : (k : Int) / 4 < 64 := by omega
      have hi3 : ((k : Int) / 4).toNat = k / 4 := by omega
      have hi4 : IntKind.i64.wrap ((k : Int) / 4) = (k : Int) / 4 := by rw [IntKind.wrap_i64]; omega
      have hix := index64 bc k _ h64 hbk
      clear hy hz hbk
      go_wp2
      have hw := HW.out.set (k / 4) (.int .u32 (nt (z <<< 8 ||| y) : Nat))
      rw [HX.out] at hw
      exact ⟨⟨k + 1, by omega, by go_num, HZ.out.setOther (by omega) _ _, hw, HB.out.setCell (show w.heap.size ≤ w.heap.size + 2 by omega) _⟩, by simp [intOf]; omega⟩
    · have hkk : k = 64 := by omega
      subst hkk
      rw [wsv_sch] at HW
      rw [show ((64 : Nat) : Int) = (64 : Int) from rfl]
      go_wp2
      go_loopw [6] (fun i wr => ∃ k : Nat, 16 ≤ k ∧ k ≤ 64 ∧ i = .int .i64 k ∧ Hid (Rw wr (w.heap.size + 1) 138 noughts52) ∧ Hid (Rw wr (w.heap.size + 2) 138 (sch b k)) ∧ Hid (Below w.heap.size w wr)) (fun i _ => 64 - (intOf i).toNat)
      case atStart => exact ⟨16, by omega, by omega, rfl, HZ.out, HW.out, HB.out⟩
      case round =>
        clear HZ HW HB
        obtain ⟨k, hk1, hk, rfl, HZ, HW, HB⟩ := hrel
        by_cases h64 : k < 64
        · have hc : ∀ j, j < k → wr.cell? ⟨w.heap.size + 2, j, none⟩ = some (.int .u32 (nt ((Sh.sched b k).getD j 0) : Nat)) := fun j hj => (HW.out.cell j).trans (sch_at b hj)
          have c16 := hc (k - 16) (by omega)
          have c7 := hc (k - 7) (by omega)
          have c15 := hc (k - 15) (by omega)
          have c2 := hc (k - 2) (by omega)
          have HX := Lib.hid (sched_mix b (show ¬ k < 16 by omega))
          obtain ⟨x16, e16⟩ : ∃ y, (Sh.sched b k).getD (k - 16) 0 = y := ⟨_, rfl⟩
          obtain ⟨x7, e7⟩ : ∃ y, (Sh.sched b k).getD (k - 7) 0 = y := ⟨_, rfl⟩
          obtain ⟨x15, e15⟩ : ∃ y, (Sh.sched b k).getD (k - 15) 0 = y := ⟨_, rfl⟩
          obtain ⟨x2, e2⟩ : ∃ y, (Sh.sched b k).getD (k - 2) 0 = y := ⟨_, rfl⟩
          rw [e16, e7, e15, e2] at HX
          rw [e16] at c16
          rw [e7] at c7
          rw [e15] at c15
          rw [e2] at c2
          have HWn := Lib.hid (sch_set b h64 _ HX.out)
          have i5 : (k : Int) < 64 := by omega
          have w16 : IntKind.i64.wrap ((k : Int) - 16) = (k : Int) - 16 := by rw [IntKind.wrap_i64]; omega
          have w7 : IntKind.i64.wrap ((k : Int) - 7) = (k : Int) - 7 := by rw [IntKind.wrap_i64]; omega
          have w15 : IntKind.i64.wrap ((k : Int) - 15) = (k : Int) - 15 := by rw [IntKind.wrap_i64]; omega
          have w2 : IntKind.i64.wrap ((k : Int) - 2) = (k : Int) - 2 := by rw [IntKind.wrap_i64]; omega
          have n16 : ((k : Int) - 16).toNat = k - 16 := by omega
          have n7 : ((k : Int) - 7).toNat = k - 7 := by omega
          have n15 : ((k : Int) - 15).toNat = k - 15 := by omega
          have n2 : ((k : Int) - 2).toNat = k - 2 := by omega
          have p16 : (0 : Int) ≤ (k : Int) - 16 := by omega
          have p7 : (0 : Int) ≤ (k : Int) - 7 := by omega
          have p15 : (0 : Int) ≤ (k : Int) - 15 := by omega
          have p2 : (0 : Int) ≤ (k : Int) - 2 := by omega
          have r16 : (16 : Int) ≤ (k : Int) := by omega
          have r7 : (7 : Int) ≤ (k : Int) := by omega
          have r15 : (15 : Int) ≤ (k : Int) := by omega
          have r2 : (2 : Int) ≤ (k : Int) := by omega
          have q16 : (k : Int) - 16 < 64 := by omega
          have q7 : (k : Int) - 7 < 64 := by omega
          have q15 : (k : Int) - 15 < 64 := by omega
          have q2 : (k : Int) - 2 < 64 := by omega
          clear e16 e7 e15 e2 HX hc
          go_wp2
          go_quiet (fail)
          generalize hW9 : wr.drewN _ = w9
          have d16 : w9.cell? ⟨w.heap.size + 2, k - 16, none⟩ = some (.int .u32 (nt x16 : Nat)) := by rw [← hW9]; exact c16
          have d7 : w9.cell? ⟨w.heap.size + 2, k - 7, none⟩ = some (.int .u32 (nt x7 : Nat)) := by rw [← hW9]; exact c7
          have HZ9 := Lib.hid (HZ.out.via hW9)
          have HW9 := Lib.hid (HW.out.via hW9)
          have HB9 : Hid (Below w.heap.size w w9) := by unfold Hid; rw [← hW9]; exact below_drewN HB.out _
          clear hW9 c16 c7 c15 c2 HZ HW HB
          go_wp2_with (fail)
          refine (turning_any x15 w9).mono ?_
          rintro e' w10 ⟨rfl, hw10⟩
          obtain ⟨ga, hga⟩ : ∃ ga, w9.heap.size = ga := ⟨_, rfl⟩
          have hg9 := HB9.out.size
          have HA10 : Hid (Rw w10 ga 83 #[.int .u32 (nt x15 : Nat)]) := by unfold Hid; rw [hw10]; exact Rw.at_ hga.symm _ _
          have HZ10 : Hid (Rw w10 (w.heap.size + 1) 138 noughts52) := by unfold Hid; rw [hw10]; exact HZ9.out.old _
          have HW10 : Hid (Rw w10 (w.heap.size + 2) 138 (sch b k)) := by unfold Hid; rw [hw10]; exact HW9.out.old _
          have HB10 : Hid (Below w.heap.size w w10) := by unfold Hid; rw [hw10]; exact HB9.out.alloc hg9 _
          have c16 : w10.cell? ⟨w.heap.size + 2, k - 16, none⟩ = some (.int .u32 (nt x16 : Nat)) := ((HW10.out.cell _).trans (HW9.out.cell _).symm).trans d16
          have c7 : w10.cell? ⟨w.heap.size + 2, k - 7, none⟩ = some (.int .u32 (nt x7 : Nat)) := ((HW10.out.cell _).trans (HW9.out.cell _).symm).trans d7
          rw [hga]
          clear hw10 hga hg9 HZ9 HW9 HB9 d16 d7
          go_wp2_with (fail)
          refine (turning_any x2 w10).mono ?_
          rintro e' w11 ⟨rfl, hw11⟩
          obtain ⟨ge, hge⟩ : ∃ ge, w10.heap.size = ge := ⟨_, rfl⟩
          have hg10 := HB10.out.size
          have HE11 : Hid (Rw w11 ge 83 #[.int .u32 (nt x2 : Nat)]) := by unfold Hid; rw [hw11]; exact Rw.at_ hge.symm _ _
          have HA11 : Hid (Rw w11 ga 83 #[.int .u32 (nt x15 : Nat)]) := by unfold Hid; rw [hw11]; exact HA10.out.old _
          have HZ11 : Hid (Rw w11 (w.heap.size + 1) 138 noughts52) := by unfold Hid; rw [hw11]; exact HZ10.out.old _
          have HW11 : Hid (Rw w11 (w.heap.size + 2) 138 (sch b k)) := by unfold Hid; rw [hw11]; exact HW10.out.old _
          have HB11 : Hid (Below w.heap.size w w11) := by unfold Hid; rw [hw11]; exact HB10.out.alloc hg10 _
          have d16 : w11.drew.cell? ⟨w.heap.size + 2, k - 16, none⟩ = some (.int .u32 (nt x16 : Nat)) := ((HW11.out.cell _).trans (HW10.out.cell _).symm).trans c16
          have d7 : w11.drew.cell? ⟨w.heap.size + 2, k - 7, none⟩ = some (.int .u32 (nt x7 : Nat)) := ((HW11.out.cell _).trans (HW10.out.cell _).symm).trans c7
          have do_ : w11.drew.cell? ⟨w.heap.size + 2, k, none⟩ = some (.int .u32 0) := (HW11.out.cell _).trans (sch_old b h64)
          have df : w11.drew.frozen? ⟨w.heap.size + 2, k, none⟩ = false := HW11.out.frozen k
          rw [hge]
          clear hw11 hge hg10 HZ10 HW10 HB10 HA10 c16 c7
          have T7 : Hid (Calls Try.prog 121 #[.int .u64 7, .pointer (some ⟨ga, 0, none⟩)] w11 (IsW (Sh.rot x15 7) w11)) := turn1_any x15 7 ga (by omega) w11 (HA11.out.cell 0)
          have T18 : Hid (Calls Try.prog 121 #[.int .u64 18, .pointer (some ⟨ga, 0, none⟩)] w11 (IsW (Sh.rot x15 18) w11)) := turn1_any x15 18 ga (by omega) w11 (HA11.out.cell 0)
          have T17 : Hid (Calls Try.prog 121 #[.int .u64 17, .pointer (some ⟨ge, 0, none⟩)] w11 (IsW (Sh.rot x2 17) w11)) := turn1_any x2 17 ge (by omega) w11 (HE11.out.cell 0)
          have T19 : Hid (Calls Try.prog 121 #[.int .u64 19, .pointer (some ⟨ge, 0, none⟩)] w11 (IsW (Sh.rot x2 19) w11)) := turn1_any x2 19 ge (by omega) w11 (HE11.out.cell 0)
          have hax := addw
          have hax3 := add_bv
          have hxo := xor_bv
          have h3s := shr3
          have h10s := shr10
          go_wp2_with (go_at_call 121; (first
              | (with_reducible refine (T7.out).mono ?_) | (with_reducible refine (T18.out).mono ?_)
              | (with_reducible refine (T17.out).mono ?_) | (with_reducible refine (T19.out).mono ?_)); rintro e' w' ⟨rfl, rfl⟩)
          go_still_tail 15, (by kernel_rfl)
          change wpList _ _ _ _ _ w11.drew
          go_wp2
          have hw := HW11.out.set k (.int .u32 (nt (x16 + x7 + Sh.sig0 x15 + Sh.sig1 x2) : Nat))
          rw [HWn.out] at hw
          have hmx : nt (x16 + (Sh.rot x15 7 ^^^ Sh.rot x15 18 ^^^ x15 >>> 3) + x7 + (Sh.rot x2 17 ^^^ Sh.rot x2 19 ^^^ x2 >>> 10)) = nt (x16 + x7 + Sh.sig0 x15 + Sh.sig1 x2) := congrArg nt (Sh.mix _ _ _ _)
          rw [hmx]
          exact ⟨⟨k + 1, by omega, by omega, by go_num, HZ11.out.setOther (by omega) _ _, hw, (HB11.out.setCell (show w.heap.size ≤ w.heap.size + 2 by omega) _).drew⟩, by simp [intOf]; omega⟩
        · have hkk : k = 64 := by omega
          subst hkk
          have hsz : (sch b 64).size = 64 := sch_size b (by omega)
          have hone : (sch b 64).all (·.oneCell') = true := one_of _
          obtain ⟨pv, hpv⟩ : ∃ pv, sch b 64 = pv := ⟨_, rfl⟩
          rw [hpv] at HW hsz hone
          have HPV := Lib.hid hpv
          clear hpv
          rw [show ((64 : Nat) : Int) = (64 : Int) from rfl]
          go_wp2_with (first
            | (refine wpList_load_row rfl _ _ rfl (w.heap.size + 2) rfl 138 pv (0, 0) _ HW.out Try.underlying138 rfl (by rw [hsz]; exact size52) ?_)
            | (refine wpList_store_row rfl _ _ _ rfl (w.heap.size + 1) pv rfl rfl 138 _ HZ.out (by rw [hsz]; exact size52) (by rw [hsz]; rfl) hone ?_))
          refine bodyPost_ret (v := .agg pv) (results_cell_row rfl _ _ (w.heap.size + 1) 138 pv (0, 0) _ rfl (Rw.row HZ.out pv) Try.underlying138 rfl (by rw [hsz]; exact size52)) rfl ⟨by rw [HPV.out], HB.out.trans (below_setRow (Below.refl _ _) (by omega) _)⟩
end Go.Proofs.Ytkialijipcbgkaa
namespace Go.Proofs.Ytkialijipcbgkaa
open Go.RowKit
set_option linter.unusedVariables false

/-- The state of Press's first region: what has come up, and where it lies. -/
def PI (B : Nat) (w0 : World) (sc bc pv : Array Value) (listed : Array Bool) (a : Act) (w' : World) : Prop :=
  listed.size = 7 ∧ Below w0.heap.size w0 w' ∧ ∃ (g5 g6 : Nat) (x5 x6 x11 x12 x13 : Value),
    a = { tmps := #[.agg sc, .agg bc, .pointer (some ⟨B, 0, none⟩), .pointer (some ⟨B + 1, 0, none⟩), .pointer (some ⟨B + 1 + 1, 0, none⟩), x5, x6, undef, undef, undef, undef, x11, x12, x13, undef, undef, undef, undef, undef, undef, undef, undef, undef, undef, undef, undef, undef, undef, undef, undef, undef, undef, undef, undef, undef, undef, undef, undef, undef, undef], defers := [] }
    ∧ (listed.getD 0 false = true → x11 = .agg kcells) ∧ (listed.getD 1 false = true → x12 = .agg bc) ∧ (listed.getD 2 false = true → x13 = .agg (pv))
    ∧ (listed.getD 3 false = true → x5 = .pointer (some ⟨g5, 0, none⟩) ∧ w0.heap.size ≤ g5 ∧ Rw w' g5 138 (if listed.getD 5 false then kcells else noughts52))
    ∧ (listed.getD 4 false = true → x6 = .pointer (some ⟨g6, 0, none⟩) ∧ w0.heap.size ≤ g6 ∧ Rw w' g6 138 (if listed.getD 6 false then pv else noughts52))
    ∧ (listed.getD 3 false = true → listed.getD 4 false = true → g5 ≠ g6)
    ∧ (listed.getD 5 false = true → listed.getD 3 false = true) ∧ (listed.getD 6 false = true → listed.getD 4 false = true)

set_option maxHeartbeats 1000000 in
set_option maxRecDepth 100000 in
theorem press_any (s : Sh.St) (b : List Nat) (hb : b.length = 64) (hb8 : ∀ x ∈ b, x < 256) (w : World) :
    Calls Try.prog 89 #[.agg (stv s), .agg (bvs b)] w (IsSt (Sh.press s b) w) := by
  have HSP := Lib.hid (spread_any b hb hb8)
  have hbsz : (bvs b).size = 64 := by rw [bvs_size]; exact hb
  clear hb hb8
  obtain ⟨sc, hsc⟩ : ∃ c, stv s = c := ⟨_, rfl⟩
  obtain ⟨bc, hbc⟩ : ∃ c, bvs b = c := ⟨_, rfl⟩
  rw [hbc] at HSP hbsz
  rw [hsc, hbc]
  have HSC := Lib.hid hsc
  clear hsc hbc
  have hpsz : (sch b 64).size = 64 := sch_size b (by omega)
  have hpone : (sch b 64).all (·.oneCell') = true := one_of _
  have HCW : Hid (∀ k, k < 64 → (sch b 64)[k]? = some (.int .u32 (nt ((Sh.sched b 64).getD k 0) : Nat))) := fun k hk => sch_at b hk
  obtain ⟨pv, hpv⟩ : ∃ pv, sch b 64 = pv := ⟨_, rfl⟩
  rw [hpv] at HSP hpsz hpone HCW
  clear hpv
  have hzero := (zero_of_info zero52).1
  go_enter Try.func89, Try.ntmps89
  go_wp2
  generalize hW : ((w.alloc _).alloc _).alloc _ = w0
  have H0 : Hid (Rw w0 w.heap.size 100 sc) := by unfold Hid; rw [← hW]; exact ((Rw.new w _ _).old _).old _
  have H1 : Hid (Rw w0 (w.heap.size + 1) 102 bc) := by unfold Hid; rw [← hW]; exact (Rw.at_ (by simp) _ _).old _
  have H2 : Hid (Rw w0 (w.heap.size + 2) 100 #[.int .u32 0, .int .u32 0, .int .u32 0, .int .u32 0, .int .u32 0, .int .u32 0, .int .u32 0, .int .u32 0]) := by unfold Hid; rw [← hW]; exact Rw.at_ (by simp) _ _
  have HB0 : Hid (Below w.heap.size w w0) := by unfold Hid; rw [← hW]; exact (((Below.refl w.heap.size w).alloc (Nat.le_refl _) _).alloc (by simp) _).alloc (by simp; omega) _
  clear hW
  refine wp_region_any (by kernel_rfl) (wpAny_inv (I := PI w.heap.size w0 sc bc pv) ?_ ?_ 7 _ _ _ (by decide) ?_)
  · rintro listed a w' ⟨hs, hbel, g5, g6, x5, x6, x11, x12, x13, rfl, p0, p1, p2, p3, p4, p5, q5, q6⟩ i hi
    have hi7 : i < 7 := by
      obtain ⟨_, o, ho, _⟩ := mem_ready.1 hi
      exact (Array.getElem?_eq_some_iff.1 ho).1
    have hnot := ready_not hi
    have hgd := getD_bits (listed := listed) (i := i) (by omega)
    have hsz : (listed.setIfInBounds i true).size = 7 := by rw [Array.size_setIfInBounds]; exact hs
    rcases i with _|_|_|_|_|_|_|i
    · have e0 : (listed.setIfInBounds 0 true).getD 0 false = true := hgd 0
      have e1 : (listed.setIfInBounds 0 true).getD 1 false = listed.getD 1 false := hgd 1
      have e2 : (listed.setIfInBounds 0 true).getD 2 false = listed.getD 2 false := hgd 2
      have e3 : (listed.setIfInBounds 0 true).getD 3 false = listed.getD 3 false := hgd 3
      have e4 : (listed.setIfInBounds 0 true).getD 4 false = listed.getD 4 false := hgd 4
      have e5 : (listed.setIfInBounds 0 true).getD 5 false = listed.getD 5 false := hgd 5
      have e6 : (listed.setIfInBounds 0 true).getD 6 false = listed.getD 6 false := hgd 6
      refine wpOp_some rfl rfl ?_
      go_simp
      refine (constants_any w').mono ?_
      rintro e w'' ⟨rfl, hb⟩
      simp only [PI, e0, e1, e2, e3, e4, e5, e6, eq_self, true_implies]
      exact ⟨hsz, hbel.trans (hb.mono hbel.size), g5, g6, x5, x6, _, x12, x13, rfl, rfl, p1, p2, fun h => ⟨(p3 h).1, (p3 h).2.1, (p3 h).2.2.below hb (p3 h).2.2.lt⟩, fun h => ⟨(p4 h).1, (p4 h).2.1, (p4 h).2.2.below hb (p4 h).2.2.lt⟩, p5, q5, q6⟩
    · have e0 : (listed.setIfInBounds 1 true).getD 0 false = listed.getD 0 false := hgd 0
      have e1 : (listed.setIfInBounds 1 true).getD 1 false = true := hgd 1
      have e2 : (listed.setIfInBounds 1 true).getD 2 false = listed.getD 2 false := hgd 2
      have e3 : (listed.setIfInBounds 1 true).getD 3 false = listed.getD 3 false := hgd 3
      have e4 : (listed.setIfInBounds 1 true).getD 4 false = listed.getD 4 false := hgd 4
      have e5 : (listed.setIfInBounds 1 true).getD 5 false = listed.getD 5 false := hgd 5
      have e6 : (listed.setIfInBounds 1 true).getD 6 false = listed.getD 6 false := hgd 6
      refine wpOp_some rfl rfl ?_
      refine wp_load_row 102 _ rfl (w.heap.size + 1) rfl 102 bc (0, 0) _ (H1.out.below hbel H1.out.lt) Try.underlying102 rfl (by rw [hbsz]; exact size24) ?_
      simp only [PI, e0, e1, e2, e3, e4, e5, e6, eq_self, true_implies]
      exact ⟨hsz, hbel, g5, g6, x5, x6, x11, _, x13, rfl, p0, rfl, p2, p3, p4, p5, q5, q6⟩
    · have e0 : (listed.setIfInBounds 2 true).getD 0 false = listed.getD 0 false := hgd 0
      have e1 : (listed.setIfInBounds 2 true).getD 1 false = listed.getD 1 false := hgd 1
      have e2 : (listed.setIfInBounds 2 true).getD 2 false = true := hgd 2
      have e3 : (listed.setIfInBounds 2 true).getD 3 false = listed.getD 3 false := hgd 3
      have e4 : (listed.setIfInBounds 2 true).getD 4 false = listed.getD 4 false := hgd 4
      have e5 : (listed.setIfInBounds 2 true).getD 5 false = listed.getD 5 false := hgd 5
      have e6 : (listed.setIfInBounds 2 true).getD 6 false = listed.getD 6 false := hgd 6
      have h1 : listed.getD 1 false = true := ready_has (md := .any) hi rfl (e := ⟨1, .data⟩) (by simp) rfl
      obtain rfl := p1 h1
      refine wpOp_some rfl rfl ?_
      go_simp
      refine (HSP.out w').mono ?_
      rintro e w'' ⟨rfl, hb⟩
      simp only [PI, e0, e1, e2, e3, e4, e5, e6, eq_self, true_implies]
      exact ⟨hsz, hbel.trans (hb.mono hbel.size), g5, g6, x5, x6, x11, _, _, rfl, p0, fun _ => rfl, rfl, fun h => ⟨(p3 h).1, (p3 h).2.1, (p3 h).2.2.below hb (p3 h).2.2.lt⟩, fun h => ⟨(p4 h).1, (p4 h).2.1, (p4 h).2.2.below hb (p4 h).2.2.lt⟩, p5, q5, q6⟩
    · have e0 : (listed.setIfInBounds 3 true).getD 0 false = listed.getD 0 false := hgd 0
      have e1 : (listed.setIfInBounds 3 true).getD 1 false = listed.getD 1 false := hgd 1
      have e2 : (listed.setIfInBounds 3 true).getD 2 false = listed.getD 2 false := hgd 2
      have e3 : (listed.setIfInBounds 3 true).getD 3 false = true := hgd 3
      have e4 : (listed.setIfInBounds 3 true).getD 4 false = listed.getD 4 false := hgd 4
      have e5 : (listed.setIfInBounds 3 true).getD 5 false = listed.getD 5 false := hgd 5
      have e6 : (listed.setIfInBounds 3 true).getD 6 false = listed.getD 6 false := hgd 6
      have n5 : listed.getD 5 false = false := by
        cases h : listed.getD 5 false with
        | false => rfl
        | true => rw [q5 h] at hnot; cases hnot
      refine wpOp_some rfl rfl ?_
      go_simp
      simp only [PI, e0, e1, e2, e3, e4, e5, e6, eq_self, true_implies]
      refine ⟨hsz, hbel.alloc hbel.size _, w'.heap.size, g6, _, x6, x11, x12, x13, rfl, p0, p1, p2, ⟨rfl, hbel.size, ?_⟩, fun h => ⟨(p4 h).1, (p4 h).2.1, (p4 h).2.2.old _⟩, fun h => ?_, fun _ => trivial, q6⟩
      · rw [n5]; exact Rw.new _ _ _
      · have := (p4 h).2.2.lt; omega
    · have e0 : (listed.setIfInBounds 4 true).getD 0 false = listed.getD 0 false := hgd 0
      have e1 : (listed.setIfInBounds 4 true).getD 1 false = listed.getD 1 false := hgd 1
      have e2 : (listed.setIfInBounds 4 true).getD 2 false = listed.getD 2 false := hgd 2
      have e3 : (listed.setIfInBounds 4 true).getD 3 false = listed.getD 3 false := hgd 3
      have e4 : (listed.setIfInBounds 4 true).getD 4 false = true := hgd 4
      have e5 : (listed.setIfInBounds 4 true).getD 5 false = listed.getD 5 false := hgd 5
      have e6 : (listed.setIfInBounds 4 true).getD 6 false = listed.getD 6 false := hgd 6
      have n6 : listed.getD 6 false = false := by
        cases h : listed.getD 6 false with
        | false => rfl
        | true => rw [q6 h] at hnot; cases hnot
      refine wpOp_some rfl rfl ?_
      go_simp
      simp only [PI, e0, e1, e2, e3, e4, e5, e6, eq_self, true_implies]
      refine ⟨hsz, hbel.alloc hbel.size _, g5, w'.heap.size, x5, _, x11, x12, x13, rfl, p0, p1, p2, fun h => ⟨(p3 h).1, (p3 h).2.1, (p3 h).2.2.old _⟩, ⟨rfl, hbel.size, ?_⟩, fun h => ?_, q5, fun _ => trivial⟩
      · rw [n6]; exact Rw.new _ _ _
      · have := (p3 h).2.2.lt; omega
    · have e0 : (listed.setIfInBounds 5 true).getD 0 false = listed.getD 0 false := hgd 0
      have e1 : (listed.setIfInBounds 5 true).getD 1 false = listed.getD 1 false := hgd 1
      have e2 : (listed.setIfInBounds 5 true).getD 2 false = listed.getD 2 false := hgd 2
      have e3 : (listed.setIfInBounds 5 true).getD 3 false = listed.getD 3 false := hgd 3
      have e4 : (listed.setIfInBounds 5 true).getD 4 false = listed.getD 4 false := hgd 4
      have e5 : (listed.setIfInBounds 5 true).getD 5 false = true := hgd 5
      have e6 : (listed.setIfInBounds 5 true).getD 6 false = listed.getD 6 false := hgd 6
      have h3 : listed.getD 3 false = true := ready_has (md := .any) hi rfl (e := ⟨3, .data⟩) (by simp) rfl
      have h0 : listed.getD 0 false = true := ready_has (md := .any) hi rfl (e := ⟨0, .data⟩) (by simp) rfl
      obtain rfl := p0 h0
      obtain ⟨rfl, hg, hr⟩ := p3 h3
      rw [hnot] at hr
      refine wpOp_some rfl rfl ?_
      refine wp_store_row 138 _ _ rfl g5 kcells rfl rfl 138 noughts52 hr (by rw [kcells_size]; exact size52) (by rw [kcells_size]; rfl) kcells_one ?_
      simp only [PI, e0, e1, e2, e3, e4, e5, e6, eq_self, if_true, true_implies]
      exact ⟨hsz, hbel.trans (below_setRow (Below.refl _ _) hg _), g5, g6, _, x6, _, x12, x13, rfl, fun _ => rfl, p1, p2, fun _ => ⟨rfl, hg, hr.row _⟩, fun h => ⟨(p4 h).1, (p4 h).2.1, (p4 h).2.2.rowOther (p5 h3 h).symm _⟩, p5, h3, q6⟩
    · have e0 : (listed.setIfInBounds 6 true).getD 0 false = listed.getD 0 false := hgd 0
      have e1 : (listed.setIfInBounds 6 true).getD 1 false = listed.getD 1 false := hgd 1
      have e2 : (listed.setIfInBounds 6 true).getD 2 false = listed.getD 2 false := hgd 2
      have e3 : (listed.setIfInBounds 6 true).getD 3 false = listed.getD 3 false := hgd 3
      have e4 : (listed.setIfInBounds 6 true).getD 4 false = listed.getD 4 false := hgd 4
      have e5 : (listed.setIfInBounds 6 true).getD 5 false = listed.getD 5 false := hgd 5
      have e6 : (listed.setIfInBounds 6 true).getD 6 false = true := hgd 6
      have h4 : listed.getD 4 false = true := ready_has (md := .any) hi rfl (e := ⟨4, .data⟩) (by simp) rfl
      have h2 : listed.getD 2 false = true := ready_has (md := .any) hi rfl (e := ⟨2, .data⟩) (by simp) rfl
      obtain rfl := p2 h2
      obtain ⟨rfl, hg, hr⟩ := p4 h4
      rw [hnot] at hr
      refine wpOp_some rfl rfl ?_
      refine wp_store_row 138 _ _ rfl g6 pv rfl rfl 138 noughts52 hr (by rw [hpsz]; exact size52) (by rw [hpsz]; rfl) hpone ?_
      simp only [PI, e0, e1, e2, e3, e4, e5, e6, eq_self, if_true, true_implies]
      exact ⟨hsz, hbel.trans (below_setRow (Below.refl _ _) hg _), g5, g6, x5, _, x11, x12, _, rfl, p0, p1, fun _ => rfl, fun h => ⟨(p3 h).1, (p3 h).2.1, (p3 h).2.2.rowOther (p5 h h4) _⟩, fun _ => ⟨rfl, hg, hr.row _⟩, p5, q5, h4⟩
    · omega
  · rintro listed a w' ⟨hs, hbel, g5, g6, x5, x6, x11, x12, x13, rfl, p0, p1, p2, p3, p4, p5, q5, q6⟩ hrd
    have f0 : listed.getD 0 false = true := ready_done hrd rfl (by omega) (by simp)
    have f1 : listed.getD 1 false = true := ready_done hrd rfl (by omega) (by simp)
    have f3 : listed.getD 3 false = true := ready_done hrd rfl (by omega) (by simp)
    have f4 : listed.getD 4 false = true := ready_done hrd rfl (by omega) (by simp)
    have f2 : listed.getD 2 false = true := ready_done hrd rfl (by omega) (by
      intro e he _
      simp at he
      rcases he with rfl | rfl <;> assumption)
    have f5 : listed.getD 5 false = true := ready_done hrd rfl (by omega) (by
      intro e he _
      simp at he
      rcases he with rfl | rfl | rfl | rfl | rfl | rfl | rfl | rfl <;> assumption)
    have f6 : listed.getD 6 false = true := ready_done hrd rfl (by omega) (by
      intro e he _
      simp at he
      rcases he with rfl | rfl | rfl | rfl | rfl | rfl | rfl | rfl | rfl <;> assumption)
    obtain rfl := p0 f0
    obtain rfl := p1 f1
    obtain rfl := p2 f2
    obtain ⟨rfl, hg5, hr5⟩ := p3 f3
    obtain ⟨rfl, hg6, hr6⟩ := p4 f4
    rw [f5, if_pos rfl] at hr5
    rw [f6, if_pos rfl] at hr6
    have hne := p5 f3 f4
    have HR5 := Lib.hid hr5
    have HR6 := Lib.hid hr6
    have HS := Lib.hid (H0.out.below hbel H0.out.lt)
    have HZ := Lib.hid (H2.out.below hbel H2.out.lt)
    have hsz0 := H2.out.lt
    have HB := Lib.hid (HB0.out.trans (hbel.mono HB0.out.size))
    clear p0 p1 p2 p3 p4 p5 q5 q6 f0 f1 f2 f3 f4 f5 f6 hrd hr5 hr6 hbel hs H0 H1 H2 HB0
    dsimp only
    have hscs : sc.size = 8 := by rw [← HSC.out]; rfl
    have hsc1 : sc.all (·.oneCell') = true := by rw [← HSC.out]; exact stv_one s
    go_wp2_with (first
      | (refine wpList_load_row rfl _ _ rfl w.heap.size rfl 100 sc (0, 0) _ HS.out Try.underlying100 rfl (by rw [hscs]; exact size23) ?_)
      | (refine wpList_store_row rfl _ _ _ rfl w'.heap.size sc rfl rfl 100 _ (heap_alloc_new w' _) (by rw [hscs]; exact size23) (by rw [hscs]; rfl) hsc1 ?_
         rw [World.setRow_alloc_new]))
    obtain ⟨gv, hgve⟩ : ∃ g, w'.heap.size = g := ⟨_, rfl⟩
    have hgv5 : g5 < gv := by have := HR5.out.lt; omega
    have hgv6 : g6 < gv := by have := HR6.out.lt; omega
    have HS2 : Hid (Rw (w'.alloc (.cells sc 100)) w.heap.size 100 sc) := HS.out.old _
    have HZ2 := Lib.hid (HZ.out.old (.cells sc 100))
    have HK2 := Lib.hid (HR5.out.old (.cells sc 100))
    have HW2 := Lib.hid (HR6.out.old (.cells sc 100))
    have HV2 : Hid (Rw (w'.alloc (.cells sc 100)) gv 100 (stv (Sh.rounds s (Sh.sched b 64) 0))) := by
      have := Rw.at_ hgve.symm 100 sc
      rw [show Sh.rounds s (Sh.sched b 64) 0 = s from rfl, HSC.out]
      exact this
    have HB2 := Lib.hid (HB.out.alloc HB.out.size (.cells sc 100))
    rw [hgve]
    clear HS HZ HR5 HR6 HB hgve HSP
    go_loopw [15] (fun i wr => ∃ k : Nat, k ≤ 64 ∧ i = .int .i64 k ∧ Hid (Rw wr w.heap.size 100 sc) ∧ Hid (Rw wr (w.heap.size + 2) 100 #[.int .u32 0, .int .u32 0, .int .u32 0, .int .u32 0, .int .u32 0, .int .u32 0, .int .u32 0, .int .u32 0]) ∧ Hid (Rw wr g5 138 kcells) ∧ Hid (Rw wr g6 138 pv) ∧ Hid (Rw wr gv 100 (stv (Sh.rounds s (Sh.sched b 64) k))) ∧ Hid (Below w.heap.size w wr)) (fun i _ => 64 - (intOf i).toNat)
    case atStart => exact ⟨0, by omega, rfl, HS2.out, HZ2.out, HK2.out, HW2.out, HV2.out, HB2.out⟩
    case round =>
      clear HS2 HZ2 HK2 HW2 HV2 HB2
      obtain ⟨k, hk, rfl, HS, HZ, HK, HW, HV, HB⟩ := hrel
      by_cases h64 : k < 64
      · obtain ⟨x, hx⟩ : ∃ x, (Sh.sched b 64).getD k 0 = x := ⟨_, rfl⟩
        obtain ⟨kk, hkk⟩ : ∃ x, Sh.kc k = x := ⟨_, rfl⟩
        obtain ⟨S, hS⟩ : ∃ S, Sh.rounds s (Sh.sched b 64) k = S := ⟨_, rfl⟩
        have HR : Hid (Sh.rounds s (Sh.sched b 64) (k + 1) = Sh.round S kk x) := by unfold Hid; rw [← hx, ← hkk, ← hS]; rfl
        have ck : wr.drew.cell? ⟨g5, k, none⟩ = some (.int .u32 (nt kk : Nat)) := by rw [← hkk]; exact (HK.out.drew.cell k).trans (kcells_at h64)
        have cx : wr.drew.cell? ⟨g6, k, none⟩ = some (.int .u32 (nt x : Nat)) := by rw [← hx]; exact (HW.out.drew.cell k).trans (HCW.out k h64)
        have hrc := round_any S kk x
        rw [hS] at HV
        clear hx hkk hS
        have hvs : (stv S).size = 8 := rfl
        obtain ⟨vc, hvc⟩ : ∃ vc, stv S = vc := ⟨_, rfl⟩
        rw [hvc] at HV hvs hrc
        have HRC := Lib.hid hrc
        clear hvc hrc
        have i5 : (k : Int) < 64 := by omega
        go_wp2
        refine wp_region_still_tail 7 (by kernel_rfl) (by kernel_rfl) ?_
        change wpStill _ _ wr.drew _ _ _
        simp only [List.take_succ_cons, List.take_zero, List.drop_succ_cons, List.drop_zero]
        refine wpStill_load_row rfl _ _ rfl gv rfl 100 vc (0, 0) _ HV.out.drew Try.underlying100 rfl (by rw [hvs]; exact size23) ?_
        repeat still_step
        refine wpStill_nil ?_
        change wpList _ _ _ _ _ wr.drew
        go_wp2_with (fail)
        refine (HRC.out wr.drew).mono ?_
        rintro e w2 ⟨rfl, hb2⟩
        have hb2' : Below wr.heap.size wr w2 := (Below.refl _ _).drew.trans hb2
        have HS2 := Lib.hid (HS.out.below hb2' HS.out.lt)
        have HZ2 := Lib.hid (HZ.out.below hb2' HZ.out.lt)
        have HK2 := Lib.hid (HK.out.below hb2' HK.out.lt)
        have HW2 := Lib.hid (HW.out.below hb2' HW.out.lt)
        have HV2 := Lib.hid (HV.out.below hb2' HV.out.lt)
        have HB2 := Lib.hid (HB.out.trans (hb2'.mono HB.out.size))
        clear HS HZ HK HW HV HB hb2 hb2' ck cx
        go_wp2_with (refine wpList_store_row rfl _ _ _ rfl gv (stv (Sh.round S kk x)) rfl rfl 100 _ HV2.out (by rw [stv_size]; exact size23) (by rw [hvs]; rfl) (stv_one _) ?_)
        have hv : Rw (w2.setRow gv (stv (Sh.round S kk x))) gv 100 (stv (Sh.rounds s (Sh.sched b 64) (k + 1))) := by rw [HR.out]; exact HV2.out.row _
        exact ⟨⟨k + 1, by omega, by go_num, HS2.out.rowOther (by omega) _, HZ2.out.rowOther (by omega) _, HK2.out.rowOther (by omega) _, HW2.out.rowOther (by omega) _, hv, HB2.out.trans (below_setRow (Below.refl _ _) (by omega) _)⟩, by simp [intOf]; omega⟩
      · have hkk : k = 64 := by omega
        subst hkk
        have HP : Hid (Sh.press s b = s.add (Sh.rounds s (Sh.sched b 64) 64)) := rfl
        obtain ⟨R, hRe⟩ : ∃ R, Sh.rounds s (Sh.sched b 64) 64 = R := ⟨_, rfl⟩
        rw [hRe] at HV HP
        rw [← HSC.out] at HS
        clear hRe HW HK
        rw [show ((64 : Nat) : Int) = (64 : Int) from rfl]
        obtain ⟨rc, hrc⟩ : ∃ c, stv R = c := ⟨_, rfl⟩
        have hrsz : rc.size = 8 := by rw [← hrc]; rfl
        rw [hrc] at HV
        have HRC := Lib.hid hrc
        clear hrc
        go_wp2_with (refine wpList_load_row rfl _ _ rfl gv rfl 100 rc (0, 0) _ HV.out Try.underlying100 rfl (by rw [hrsz]; exact size23) ?_)
        go_loopw [28] (fun i wr => ∃ k : Nat, k ≤ 8 ∧ i = .int .i64 k ∧ Hid (Rw wr w.heap.size 100 (addk s R k)) ∧ Hid (Rw wr (w.heap.size + 2) 100 #[.int .u32 0, .int .u32 0, .int .u32 0, .int .u32 0, .int .u32 0, .int .u32 0, .int .u32 0, .int .u32 0]) ∧ Hid (Below w.heap.size w wr)) (fun i _ => 8 - (intOf i).toNat)
        case atStart => exact ⟨0, by omega, rfl, HS.out, HZ.out, HB.out⟩
        case round =>
          clear HS HZ HV HB
          obtain ⟨k, hk, rfl, HA, HZ, HB⟩ := hrel
          by_cases h8 : k < 8
          · obtain ⟨x, y, hx, hy, hset⟩ := addk_step s R h8
            have HST := Lib.hid hset
            have c0 : wr.cell? ⟨w.heap.size, k, none⟩ = some (.int .u32 (nt x : Nat)) := (HA.out.cell k).trans hx
            have cf : wr.frozen? ⟨w.heap.size, k, none⟩ = false := HA.out.frozen k
            have hix := index8 rc k _ h8 (by rw [← HRC.out]; exact hy)
            have i0 : (k : Int) < 8 := by omega
            have hax := addw
            clear hx hy hset
            go_wp2
            have hw := HA.out.set k (.int .u32 (nt (x + y) : Nat))
            rw [HST.out] at hw
            exact ⟨⟨k + 1, by omega, by go_num, hw, HZ.out.setOther (by omega) _ _, HB.out.setCell (Nat.le_refl _) _⟩, by simp [intOf]; omega⟩
          · have hk8 : k = 8 := by omega
            subst hk8
            rw [addk_end] at HA
            have hsz := stv_size8 (s.add R)
            have hone := stv_one (s.add R)
            obtain ⟨qv, hqv⟩ : ∃ qv, stv (s.add R) = qv := ⟨_, rfl⟩
            have HQV := Lib.hid hqv
            have hqs : qv.size = 8 := by rw [← hqv]; rfl
            rw [hqv] at HA hsz hone
            clear hqv
            rw [show ((8 : Nat) : Int) = (8 : Int) from rfl]
            go_wp2_with (first
              | (refine wpList_load_row rfl _ _ rfl w.heap.size rfl 100 qv (0, 0) _ HA.out Try.underlying100 rfl hsz ?_)
              | (refine wpList_store_row rfl _ _ _ rfl (w.heap.size + 2) qv rfl rfl 100 _ HZ.out hsz (by rw [hqs]; rfl) hone ?_))
            refine bodyPost_ret (v := .agg qv) (results_cell_row rfl _ _ (w.heap.size + 2) 100 qv (0, 0) _ rfl (Rw.row HZ.out qv) Try.underlying100 rfl hsz) rfl ⟨by rw [HP.out, HQV.out], HB.out.trans (below_setRow (Below.refl _ _) (by omega) _)⟩
  · refine ⟨by simp, (Below.refl _ w0).drew, 0, 0, undef, undef, undef, undef, undef, rfl, ?_⟩
    simp
end Go.Proofs.Ytkialijipcbgkaa
