/-
  sha.behind, sha.Behind: what stands behind so many bytes.
-/
import Derived.Test.YtejipcnihgpdhaaShPressA
import Derived.Test.YtejipcnihgpdhaaShBehind
import Derived.Test.YtejipcnihgpdhaaHeap
namespace Go.Proofs.Ytejipcnihgpdhaa
open Go.RowKit
set_option linter.unusedVariables false

namespace Sh
/-- What stands behind, the last k bytes of the number written. -/
def tl (n k : Nat) : List Nat := List.replicate (8 - k) 0 ++ (eight (8 * n)).drop (8 - k)
def bh (n k : Nat) : List Nat := (128 :: List.replicate (noughts n) 0) ++ tl n k
theorem tl_len (n k : Nat) (h : k ≤ 8) : (tl n k).length = 8 := by simp [tl, eight]
theorem bh_len (n k : Nat) (h : k ≤ 8) : (bh n k).length = noughts n + 9 := by simp [bh, tl_len n k h]
theorem tl_set (n k : Nat) (h : k < 8) : (tl n k).set (7 - k) (8 * n / 2 ^ (8 * k) % 256) = tl n (k + 1) := by
  rcases k with _|_|_|_|_|_|_|_|k
  all_goals first | (exfalso; omega) | simp [tl, eight, List.replicate]
theorem bh_set (n k : Nat) (h : k < 8) : (bh n k).set (noughts n + 8 - k) (8 * n / 2 ^ (8 * k) % 256) = bh n (k + 1) := by
  unfold bh
  rw [List.set_append_right _ _ (by simp; omega)]
  have e : noughts n + 8 - k - (128 :: List.replicate (noughts n) 0).length = 7 - k := by simp; omega
  rw [e, tl_set n k h]
theorem bh_end (n : Nat) : bh n 8 = behind n := rfl
theorem bh_zero (n : Nat) : (List.replicate (noughts n + 9) 0).set 0 128 = bh n 0 := by
  have e : noughts n + 9 = noughts n + 8 + 1 := by omega
  rw [e, List.replicate_succ, List.set_cons_zero]
  have e2 : tl n 0 = List.replicate 8 0 := by simp [tl, eight]
  rw [bh, e2, List.cons_append, List.replicate_append_replicate]
end Sh
theorem bvs_set (l : List Nat) (j c : Nat) : (bvs l).setIfInBounds j (.int .u8 (c : Nat)) = bvs (l.set j c) := by
  unfold bvs
  apply Array.ext'
  rw [Array.toList_setIfInBounds, List.map_set]
  rfl
theorem bvs_zero (n : Nat) : (List.replicate n (Value.int .u8 0)).toArray = bvs (List.replicate n 0) := by
  unfold bvs
  rw [List.map_replicate]; rfl
theorem bvs_first (z : Nat) : (bvs (List.replicate (z + 9) 0))[0]? = some (.int .u8 0) := by simp [bvs, u8]
theorem Rw.own {w : World} {base g : Nat} {l : List Nat} (h : Rw w g 5 (bvs l)) (hb : base ≤ g) (hl : ∀ x ∈ l, x < 256) (hm : l.length ≤ maxLen) : OwnB w base (.slice (some ⟨g, 0, none⟩) l.length l.length) l := OwnB.of_heap hb hl hm h

/-- A call that answers these bytes in new memory. -/
def IsB (l : List Nat) (w : World) (e : Ending) (w' : World) : Prop :=
  ∃ A c, e = .returned (.slice A l.length c) ∧ OwnB w' w.heap.size (.slice A l.length c) l ∧ Below w.heap.size w w'

set_option maxHeartbeats 1000000 in
set_option maxRecDepth 100000 in
theorem behind_any (n : Nat) (hn : n ≤ 1099511627776) (w : World) : Calls Try.prog 34 #[.int .u64 n] w (IsB (Sh.behind n) w) := by
  obtain ⟨z, hz⟩ : ∃ z, Sh.noughts n = z := ⟨_, rfl⟩
  have hz64 : z < 64 := by rw [← hz]; exact Sh.noughts_lt n
  have h1 : ((64 : Int) - ((n : Int) + 1 + 8) % 64) % 64 = (z : Nat) := by rw [← hz]; unfold Sh.noughts; omega
  have h2 : (0 : Int) ≤ (64 : Int) - ((n : Int) + 1 + 8) % 64 := by omega
  have h3 : (64 : Int) - ((n : Int) + 1 + 8) % 64 < 65 := by omega
  go_enter Try.func34, Try.ntmps34
  obtain ⟨i0, hi, hz0, hz1, hz2⟩ := info_parts info5
  have hby : i0.bytes * (z + 9) ≤ 281474976710656 := by rw [hz2]; omega
  have hml : z + 9 ≤ maxLen := by simp only [maxLen]; omega
  go_wp2_with (at_make; go_must (refine wpList_make_full _ rfl _ _ 28 rfl w.heap.size 5 i0 (.int .u8 0) 1 Try.underlying28 hi hz0 hz1 .u64 .u64 _ _ (z + 9) rfl rfl (by omega) (by omega) hby hml (Nat.le_refl _) ?_; intro w1 hown hgrow); have HB1 : Hid (Below w.heap.size w w1) := (Below.refl _ _).grown hgrow (Nat.le_refl _) (by intro k hk; cases hk); have hr1 : Rw w1 w.heap.size 5 (bvs (List.replicate (z + 9) 0)) := (bvs_zero _) ▸ zeros_heap hown; have c0 : w1.cell? ⟨w.heap.size, 0, none⟩ = some (.int .u8 0) := (hr1.cell 0).trans (bvs_first z); have f0 := hr1.frozen 0; have HR1 := Lib.hid hr1; clear hr1 hown hgrow)
  have HR2 : Hid (Rw (w1.setCell ⟨w.heap.size, 0, none⟩ (.int .u8 128)) w.heap.size 5 (bvs (Sh.bh n 0))) := by
    have := HR1.out.set 0 (.int .u8 (128 : Nat))
    rw [bvs_set, ← hz, Sh.bh_zero] at this
    exact this
  have HB2 : Hid (Below w.heap.size w (w1.setCell ⟨w.heap.size, 0, none⟩ (.int .u8 128))) := HB1.out.setCell (Nat.le_refl _) _
  clear HR1 HB1 c0 f0 hi hz0 hz1 hz2 hby h1 h2 h3
  go_loopw [23] (fun i wr => ∃ k : Nat, k ≤ 8 ∧ i = .int .i64 k ∧ Hid (Rw wr w.heap.size 5 (bvs (Sh.bh n k))) ∧ Hid (Below w.heap.size w wr)) (fun i _ => 8 - (intOf i).toNat)
  case atStart => exact ⟨0, by omega, rfl, HR2.out, HB2.out⟩
  case round =>
    clear HR2 HB2
    obtain ⟨k, hk, rfl, HR, HB⟩ := hrel
    by_cases h8 : k < 8
    · have hlen := Sh.bh_len n k hk
      have hst := Sh.bh_set n k h8
      rw [hz] at hlen hst
      obtain ⟨y, hy⟩ : ∃ y, 8 * n / 2 ^ (8 * k) % 256 = y := ⟨_, rfl⟩
      have hy8 : y < 256 := by omega
      have hyi : (8 * (n : Int)) / 2 ^ (8 * k) % 256 = (y : Nat) := by rw [← hy]; simp
      rw [hy] at hst
      have HST := Lib.hid hst
      have co : wr.cell? ⟨w.heap.size, z + 8 - k, none⟩ = some (.int .u8 ((Sh.bh n k).getD (z + 8 - k) 0 : Nat)) := (HR.out.cell _).trans (bvs_at _ (by omega))
      have cf : wr.frozen? ⟨w.heap.size, z + 8 - k, none⟩ = false := HR.out.frozen _
      have i1 : (z : Int) + 9 - 1 - (k : Int) = (z + 8 - k : Nat) := by omega
      have i2 : ((8 : Int) * (k : Int)).toNat = 8 * k := by omega
      have i3 : (k : Int) < 8 := by omega
      have i4 : z + 8 - k < z + 9 := by omega
      clear hy hst
      go_wp2
      have hr := HR.out.set (z + 8 - k) (.int .u8 (y : Nat))
      rw [bvs_set, HST.out] at hr
      exact ⟨⟨k + 1, by omega, by go_num, hr, HB.out.setCell (Nat.le_refl _) _⟩, by simp [intOf]; omega⟩
    · have h0 : k = 8 := by omega
      subst h0
      rw [Sh.bh_end] at HR
      have hl : (Sh.behind n).length = z + 9 := by rw [Sh.behind_len, hz]
      have ho : OwnB wr w.heap.size (.slice (some ⟨w.heap.size, 0, none⟩) (Sh.behind n).length (Sh.behind n).length) (Sh.behind n) := HR.out.own (Nat.le_refl _) (Sh.behind_lt n) (by rw [hl]; exact hml)
      have HO : Hid (IsB (Sh.behind n) w (.returned (.slice (some ⟨w.heap.size, 0, none⟩) (z + 9) (z + 9))) wr) := by
        unfold Hid IsB
        rw [← hl]
        exact ⟨_, _, rfl, ho, HB.out⟩
      clear ho hl HR HB
      rw [show ((8 : Nat) : Int) = (8 : Int) from rfl]
      go_wp2
      go_ret
      exact HO.out

set_option maxHeartbeats 1000000 in
set_option maxRecDepth 100000 in
theorem pbehind_any (a : Int) (h63 : a < 9223372036854775808) (w : World) : Calls Try.prog 13 #[.int .i64 a] w (IsBE (Sh.behindOf a) w) := by
  by_cases ho : a < 0 ∨ 1099511627776 < a
  · have HX := Lib.hid (Sh.behindOf_out ho)
    rcases ho with h | h
    · go_enter Try.func13, Try.ntmps13
      go_wp2
      go_ret2
      exact IsBE.none_ HX.out
    · have h2 : ¬ a < 0 := by omega
      have h3 : a % 18446744073709551616 = a := by omega
      have h4 : IntKind.u64.wrap a = a := by rw [IntKind.wrap_u64]; omega
      go_enter Try.func13, Try.ntmps13
      go_wp2
      go_ret2
      exact IsBE.none_ HX.out
  · obtain ⟨n, rfl⟩ := Int.eq_ofNat_of_zero_le (a := a) (by omega)
    have hn : n ≤ 1099511627776 := by omega
    have HX := Lib.hid (Sh.behindOf_in hn)
    have HC := Lib.hid (behind_any n hn)
    have h2 : ¬ (n : Int) < 0 := by omega
    have h3 : (n : Int) % 18446744073709551616 = n := by omega
    have h4 : IntKind.u64.wrap (n : Int) = n := by rw [IntKind.wrap_u64]; omega
    have h5 : ¬ (1099511627776 : Int) < (n : Int) := by omega
    clear ho
    go_enter Try.func13, Try.ntmps13
    go_wp2_with (go_at_call 34; (with_reducible refine (HC.out _).mono ?_); rintro e w' ⟨A, c, rfl, hO, hB⟩; have HO := Lib.hid hO; have HB := Lib.hid hB; clear hO hB)
    go_ret2
    exact IsBE.of HX.out HO.out HB.out
end Go.Proofs.Ytejipcnihgpdhaa
