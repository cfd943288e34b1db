/-
  stookref04.Behind: what stands behind so many bytes.
-/
import Derived.Test.YtejipcnihgpdhaaAns
import Derived.Test.YtejipcnihgpdhaaShMath
namespace Go.Proofs.Ytejipcnihgpdhaa
open Go.RowKit
set_option linter.unusedVariables false

namespace Sh
/-- What Behind tells. -/
def behindOf (a : Int) : List Nat × Nat := if a < 0 ∨ 1099511627776 < a then ([], 2) else (behind a.toNat, 0)
theorem behindOf_out {a : Int} (h : a < 0 ∨ 1099511627776 < a) : behindOf a = ([], 2) := by unfold behindOf; rw [if_pos h]
theorem behindOf_in {n : Nat} (h : n ≤ 1099511627776) : behindOf (n : Int) = (behind n, 0) := by unfold behindOf; rw [if_neg (by omega), Int.toNat_natCast]
theorem noughts_lt (n : Nat) : noughts n < 64 := by unfold noughts; omega
theorem noughts_iff {n j : Nat} (h : j ≤ noughts n) : (n + (1 + j) + 8) % 64 = 0 ↔ j = noughts n := by unfold noughts at *; omega
def lenV : Value → Nat
  | .slice _ l _ => l
  | _ => 0
theorem eight_at {n j : Nat} (h : j < 8) : (eight n).take (j + 1) = (eight n).take j ++ [n / 2 ^ (8 * (7 - j)) % 256] := by
  rcases j with _|_|_|_|_|_|_|_|j
  all_goals first | rfl | (exfalso; omega) | simp [eight]
end Sh

set_option maxHeartbeats 1000000 in
set_option maxRecDepth 100000 in
theorem rbehind_any (a : Int) (w : World) : Calls Try.prog 14 #[.int .i64 a] w (IsBE (Sh.behindOf a) w) := by
  by_cases ho : a < 0 ∨ 1099511627776 < a
  · have HX := Lib.hid (Sh.behindOf_out ho)
    rcases ho with h | h
    · go_enter Try.func14, Try.ntmps14
      go_wp2
      go_ret2
      exact IsBE.none_ HX.out
    · have h2 : ¬ a < 0 := by omega
      go_enter Try.func14, Try.ntmps14
      go_wp2
      go_ret2
      exact IsBE.none_ HX.out
  · obtain ⟨n, rfl⟩ := Int.eq_ofNat_of_zero_le (a := a) (by omega)
    have hn : n ≤ 1099511627776 := by omega
    have HX := Lib.hid (Sh.behindOf_in hn)
    have hb := Sh.noughts_lt n
    have HO0 := Lib.hid (OwnB.lit_ w (Nat.le_refl w.heap.size) (c := 128) (x := 128) rfl (by omega))
    clear ho
    go_enter Try.func14, Try.ntmps14
    go_wp2
    go_loopw [4] (fun v wr => ∃ j : Nat, j ≤ Sh.noughts n ∧ Hid (OwnB wr w.heap.size v (128 :: List.replicate j 0)) ∧ Below w.heap.size w wr) (fun v _ => 100 - Sh.lenV v)
    case atStart => exact ⟨0, by omega, HO0.out, (Below.refl w.heap.size w).alloc (Nat.le_refl _) _⟩
    case round =>
      obtain ⟨j, hj, HO, hbr⟩ := hrel
      obtain ⟨L, hL⟩ : ∃ L, 128 :: List.replicate j 0 = L := ⟨_, rfl⟩
      have hLl : L.length = 1 + j := by rw [← hL]; simp; omega
      have HLe := Lib.hid hL
      rw [hL] at HO
      obtain ⟨A, c, rfl, _⟩ := HO.out.form_
      have hbase := hbr.size
      have HLl := Lib.hid hLl
      have hfit : L.length + 1 ≤ 140737488355328 := by omega
      clear hL HO0
      by_cases hjn : j = Sh.noughts n
      · have hq : (((n : Int) + ((L.length : Nat) : Int) + 8) % 64 != 0) = false := by
          have := (Sh.noughts_iff hj).2 hjn
          rw [bne_eq_false_iff_eq]; omega
        clear hLl
        have HE : Hid (L ++ Sh.eight (8 * n) = Sh.behind n) := by
          unfold Hid; rw [← HLe.out, hjn]; rfl
        have HLm : Hid (L.length ≤ 70) := by have := HLl.out; unfold Hid; omega
        go_wp2
        clear hq
        go_loopw [4, 5] (fun v i wr => ∃ m : Nat, m ≤ 8 ∧ i = .int .i64 (7 - (m : Int)) ∧ Hid (OwnB wr w.heap.size v (L ++ (Sh.eight (8 * n)).take m)) ∧ Below w.heap.size w wr) (fun _ i _ => (intOf i + 1).toNat)
        case atStart => exact ⟨0, by omega, rfl, by simpa [Hid] using HO.out, hbr⟩
        case round =>
          obtain ⟨m, hm, rfl, HO2, hbr2⟩ := hrel
          clear HO hbr
          have hbase2 := hbr2.size
          obtain ⟨A2, c2, rfl, _⟩ := HO2.out.form_
          by_cases h8 : m < 8
          · have HT := Lib.hid (Sh.eight_at (n := 8 * n) h8)
            obtain ⟨q, hqe⟩ : ∃ q, 7 - m = q := ⟨_, rfl⟩
            have hqi : (7 : Int) - (m : Int) = (q : Nat) := by omega
            rw [hqe] at HT
            obtain ⟨y, hy⟩ : ∃ y, 8 * n / 2 ^ (8 * q) % 256 = y := ⟨_, rfl⟩
            have hy8 : y < 256 := by omega
            have hyi : (8 * (n : Int)) / 2 ^ (8 * q) % 256 = (y : Nat) := by rw [← hy]; simp
            rw [hy] at HT
            obtain ⟨M, hM⟩ : ∃ M, L ++ (Sh.eight (8 * n)).take m = M := ⟨_, rfl⟩
            have hMl : M.length ≤ 78 := by rw [← hM, List.length_append, List.length_take]; have := HLm.out; omega
            have HMe := Lib.hid hM
            rw [hM] at HO2 ⊢
            have HO3 : Hid (OwnB (wr.alloc (.cells #[.int .u8 (y : Int)] 5)) w.heap.size (.slice A2 M.length c2) M) := HO2.out.alloc_ _
            have HN3 : Hid (Bv (wr.alloc (.cells #[.int .u8 (y : Int)] 5)) (wr.heap.size + 1) (.slice (some ⟨wr.heap.size, 0, none⟩) 1 1) [y]) := Bv.one_ wr (x := (y : Int)) (c := y) rfl hy8
            have hz3 : w.heap.size ≤ (wr.alloc (.cells #[.int .u8 (y : Int)] 5)).heap.size := by simp; omega
            have HB3 := Lib.hid (hbr2.alloc hbase2 (.cells #[.int .u8 (y : Int)] 5))
            have hfit3 : M.length + [y].length ≤ 140737488355328 := by simp; omega
            rw [hqi]
            have hq7 : q ≤ 7 := by omega
            have HQ : Hid (7 - m = q ∧ m < 8) := ⟨hqe, h8⟩
            have hq8 : (8 * (q : Int)).toNat = 8 * q := by omega
            clear hqe hy hM hqi
            go_wp2_with (at_builtin; go_must (refine wpList_append_bytes _ rfl _ _ rfl rfl w.heap.size _ rfl M HO3.out _ rfl _ [y] HN3.out hfit3 hz3 ?_; intro A4 c4 w4 hA))
            have ho4 := hA.own
            have hb4 := HB3.out.grown hA.grown hz3 (fun k hk => (HO3.out.lt_ k hk).1)
            rw [← HMe.out, List.append_assoc, ← HT.out] at ho4
            have hl4 : (L ++ List.take (m + 1) (Sh.eight (8 * n))).length = M.length + 1 := by
              rw [HT.out, ← List.append_assoc, HMe.out, List.length_append]; rfl
            rw [hl4] at ho4
            have hqo := HQ.out
            refine ⟨⟨m + 1, by omega, congrArg (Value.int IntKind.i64) (by omega), ho4, hb4⟩, ?_⟩
            show (intOf (Value.int IntKind.i64 ((q : Int) - 1)) + 1).toNat < (intOf (Value.int IntKind.i64 (q : Int)) + 1).toNat
            simp only [intOf]
            omega
          · have h0 : m = 8 := by omega
            subst h0
            rw [show (Sh.eight (8 * n)).take 8 = Sh.eight (8 * n) from rfl, HE.out] at HO2 ⊢
            go_wp2
            go_ret2
            exact IsBE.of HX.out HO2.out hbr2
      · have hq : (((n : Int) + ((L.length : Nat) : Int) + 8) % 64 != 0) = true := by
          have : ¬ ((n + (1 + j) + 8) % 64 = 0) := fun h => hjn ((Sh.noughts_iff hj).1 h)
          rw [bne_iff_ne]; omega
        have HO1 : Hid (OwnB (wr.alloc (.cells #[.int .u8 0] 5)) w.heap.size (.slice A L.length c) L) := HO.out.alloc_ _
        have HN1 : Hid (Bv (wr.alloc (.cells #[.int .u8 0] 5)) (wr.heap.size + 1) (.slice (some ⟨wr.heap.size, 0, none⟩) 1 1) [0]) := Bv.one_ wr (x := 0) (c := 0) rfl (by omega)
        have hz1 : w.heap.size ≤ (wr.alloc (.cells #[.int .u8 0] 5)).heap.size := by simp; omega
        have HB1 := Lib.hid (hbr.alloc hbase (.cells #[.int .u8 0] 5))
        clear hLl
        go_wp2_with (at_builtin; go_must (refine wpList_append_bytes _ rfl _ _ rfl rfl w.heap.size _ rfl L HO1.out _ rfl _ [0] HN1.out (by simpa using hfit) hz1 ?_; intro A2 c2 w2 hA))
        have ho2 := hA.own
        have hb2 := HB1.out.grown hA.grown hz1 (fun k hk => (HO1.out.lt_ k hk).1)
        have hl2 : L ++ [0] = 128 :: List.replicate (j + 1) 0 := by rw [← HLe.out, List.replicate_succ']; rfl
        refine ⟨⟨j + 1, by omega, ?_, hb2⟩, ?_⟩
        · rw [← hl2]; simpa [Hid] using ho2
        · have := HLl.out
          simp [Sh.lenV]
          omega
end Go.Proofs.Ytejipcnihgpdhaa
