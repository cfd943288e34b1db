/-
  RFour: stookref02.Four.
  RGet: stookref01.Get answers what reading a number tells.
  RPgA: stookref15.Put.
-/
import Derived.Test.YtoefogmjekcbeaaPk12
import Derived.Test.YtoefogmjekcbeaaPk02
import Derived.Test.YtoefogmjekcbeaaPk06
import Derived.Test.YtoefogmjekcbeaaPk08
import Derived.Test.YtoefogmjekcbeaaPk05
import Derived.Test.YtoefogmjekcbeaaPk09
import Derived.Test.YtoefogmjekcbeaaPk14
import Derived.Test.YtoefogmjekcbeaaPk04
namespace Go.Proofs.Ytoefogmjekcbeaa
open Go.RowKit
set_option linter.unusedVariables false

theorem four_at4 (n : Nat) : ((n : Int) % 256 = ((Cr.byt n 0 : Nat) : Int)) ∧ ((n : Int) / 256 % 256 = ((Cr.byt n 1 : Nat) : Int)) ∧ ((n : Int) / 65536 % 256 = ((Cr.byt n 2 : Nat) : Int)) ∧ ((n : Int) / 16777216 % 256 = ((Cr.byt n 3 : Nat) : Int)) := by
  unfold Cr.byt
  refine ⟨by simp, by simp, by simp, by simp⟩

set_option maxHeartbeats 1000000 in
set_option maxRecDepth 100000 in
theorem rfour_any (n : Nat) (h : Cr.B32 n) (w : World) : Calls Try.prog 33 #[.int .u32 n] w (IsL1 yK (four n) w) := by
  have hn : n < 4294967296 := h
  obtain ⟨h0, h1, h2, h3⟩ := four_at4 n
  have h4 : (n : Int) / 16777216 = ((Cr.byt n 3 : Nat) : Int) := by omega
  have HO : Hid (OwnL yK (w.alloc (.cells #[.int .u8 (Cr.byt n 0 : Nat), .int .u8 (Cr.byt n 1 : Nat), .int .u8 (Cr.byt n 2 : Nat), .int .u8 (Cr.byt n 3 : Nat)] 5)) w.heap.size (.slice (some ⟨w.heap.size, 0, none⟩) 4 4) (four n)) :=
    own_lit w w.heap.size (four n) (four_lt n) (by simp [maxLen, four]) (Nat.le_refl _) 4 rfl _ rfl _ rfl
  clear h3
  go_enter Try.func33, Try.ntmps33
  go_wp2
  go_ret
  exact ⟨_, _, rfl, HO.out, (Below.refl w.heap.size w).alloc (Nat.le_refl _) _⟩
end Go.Proofs.Ytoefogmjekcbeaa
namespace Go.Proofs.Ytoefogmjekcbeaa
open Go.RowKit
set_option linter.unusedVariables false

set_option maxHeartbeats 400000 in
theorem rget_arg (A : Option Addr) (l : List Nat) (cap : Nat) (a : Int) (w : World) (hlen : l.length ≤ maxLen) (h : a < 0 ∨ (l.length : Int) < a) :
    Calls Try.prog 27 #[.slice A l.length cap, .int .i64 a] w (IsGot (Mt.get l a) w) := by
  have HR := Lib.hid (Mt.get_arg h)
  unfold maxLen at hlen
  by_cases h1 : a < 0
  · clear h
    go_enter Try.func27, Try.ntmps27
    go_wp2
    go_ret3
    exact IsGot.of HR.out (Below.refl _ _)
  · have h2 : (l.length : Int) < a := by omega
    clear h
    go_enter Try.func27, Try.ntmps27
    go_wp2
    go_ret3
    exact IsGot.of HR.out (Below.refl _ _)

theorem horner_step (V d : Nat) (h : d % 128 + 128 * V < 18446744073709551616) :
    IntKind.u64.wrap (IntKind.u64.wrap (128 * (V : Int)) + ((d : Int) % 128)) = ((d % 128 + 128 * V : Nat) : Int) := by
  rw [IntKind.wrap_u64, IntKind.wrap_u64]
  omega

set_option maxHeartbeats 2000000 in
set_option maxRecDepth 100000 in
theorem rget_some (A : Option Addr) (l : List Nat) (cap B a : Nat) (w : World) (hlen : l.length ≤ cap) (hcap : cap ≤ maxLen) (ha : a ≤ l.length) (hl : Bts w B A l) :
    Calls Try.prog 27 #[.slice A l.length cap, .int .i64 a] w (IsGot (Mt.get l a) w) := by
  unfold maxLen at hcap
  have HL := Lib.hid hl
  clear hl
  go_enter Try.func27, Try.ntmps27
  go_wp2
  go_loop [7] (fun i => ∃ k : Nat, k ≤ 9 ∧ a + k ≤ l.length ∧ i = .int .i64 k ∧ Hid (Mt.rd 0 0 (l.drop a) = Mt.rd k (Mt.val ((l.drop a).take k)) (l.drop (a + k)))) (fun i => l.length - (intOf i).toNat)
  case atStart => exact ⟨0, by omega, by omega, rfl, by simp [Hid, Mt.val]⟩
  case round =>
    obtain ⟨k, hk9, hk, rfl, HR⟩ := hrel
    by_cases hin : a + k < l.length
    · obtain ⟨b, off, c, rfl, hb, hc, hd, hcell⟩ := HL.out.at_ hin
      have hd2 := Mt.drop_byte hd
      by_cases hgo : k < 9 ∧ 128 ≤ c
      · obtain ⟨h9, hc128⟩ := hgo
        have HE := Lib.hid (Mt.rd_take (by rw [List.drop_drop]; exact HR.out) hd2 (by omega) hc128)
        rw [List.drop_drop] at HE
        clear hd2 HR hd
        go_wp2
        exact ⟨⟨k + 1, by omega, by omega, by simp, HE⟩, by simp [intOf]; omega⟩
      · have hlast : Hid (Mt.rd 0 0 (l.drop a) = Mt.rd k (Mt.val ((l.drop a).take k)) (c :: l.drop (a + k + 1))) := by unfold Hid; rw [HR.out, hd]
        clear HR hd
        by_cases hf : (k = 9 ∧ 1 < c) ∨ (0 < k ∧ c = 0)
        · have HE := Lib.hid (hlast.out.trans (Mt.rd_form hf))
          clear hlast hd2
          by_cases h9 : k < 9
          · have hk0 : 0 < k := by omega
            obtain rfl : c = 0 := by omega
            clear hf hgo
            go_wp2
            go_ret3
            exact IsGot.of (Mt.get_err ha HE.out (by decide)) (Below.refl _ _)
          · have h9' : 8 < k := by omega
            by_cases hc1 : 1 < c
            · clear hf hgo h9
              go_wp2
              go_ret3
              exact IsGot.of (Mt.get_err ha HE.out (by decide)) (Below.refl _ _)
            · obtain rfl : c = 0 := by omega
              have hk0 : 0 < k := by omega
              clear hf hgo h9 hc1
              go_wp2
              go_ret3
              exact IsGot.of (Mt.get_err ha HE.out (by decide)) (Below.refl _ _)
        · have hc1 : c < 128 := by omega
          have HE := Lib.hid (hlast.out.trans (Mt.rd_last (by omega) hc1))
          have HSM := Lib.hid (Mt.val_small hd2 hk9 hc1 (by omega))
          clear hlast
          by_cases h9 : k < 9
          · by_cases hk0 : k < 1
            · clear hf hgo
              go_wp2
              go_loop [9, 10] (fun v i => ∃ (z : Int) (j V : Nat), Hid (z + 1 = (j : Int)) ∧ -1 ≤ z ∧ z ≤ k ∧ i = .int .i64 z ∧ v = .int .u64 V ∧ Hid (V = Mt.val (((l.drop a).take (k + 1)).drop j))) (fun _ i => (intOf i + 1).toNat)
              case atStart => exact ⟨(k : Int), k + 1, 0, by simp [Hid], by omega, by omega, rfl, rfl, by unfold Hid; rw [List.drop_of_length_le (by rw [List.length_take]; omega)]; rfl⟩
              case round =>
                obtain ⟨z, j, V, HJ, hz1, hz2, rfl, rfl, HV⟩ := hrel
                by_cases hz : 0 ≤ z
                · obtain ⟨p, rfl⟩ := Int.eq_ofNat_of_zero_le hz
                  have hj : j = p + 1 := by have := HJ.out; omega
                  subst hj
                  have hpk : p ≤ k := by omega
                  have hinp : a + p < l.length := by omega
                  obtain ⟨b2, off2, d, e2, _, hdd, hd3, hcell2⟩ := HL.out.at_ hinp
                  injection e2 with e2
                  injection e2 with e3 e4
                  subst e3 e4
                  have hS : (((l.drop a).take (k + 1)).drop p) = d :: ((l.drop (a + p + 1)).take (k - p)) := by
                    rw [List.drop_take, Mt.drop_byte hd3]
                    have e5 : k + 1 - p = (k - p) + 1 := by omega
                    rw [e5]; rfl
                  have HN : Hid (Mt.val (((l.drop a).take (k + 1)).drop p) = d % 128 + 128 * V) := by unfold Hid; rw [Mt.horner hS, HV.out]
                  have hle := Mt.val_drop ((l.drop a).take (k + 1)) p
                  have HW := Lib.hid (horner_step V d (by have h1 := HN.out; have h2 := HSM.out; omega))
                  clear hd3 hS hle HV
                  go_wp2
                  exact ⟨⟨(p : Int) - 1, p, d % 128 + 128 * V, by unfold Hid; omega, by omega, by omega, rfl, by rw [HW.out], by unfold Hid; rw [HN.out]⟩, by simp [intOf]⟩
                · have hz0 : z = -1 := by omega
                  subst hz0
                  have hj : j = 0 := by have := HJ.out; omega
                  subst hj
                  have HF : Hid (V = Mt.val ((l.drop a).take k) + c * 128 ^ k) := by
                    unfold Hid; rw [HV.out, List.drop_zero, Mt.val_take hd2, Nat.mod_eq_of_lt hc1]
                  clear HV HJ
                  go_wp2
                  go_ret3
                  rw [HF.out]
                  exact IsGot.of (Mt.get_ok ha HE.out) (Below.refl _ _)
            · have hc0 : 0 < c := by omega
              have hcb : ((c : Int) == 0) = false := by rw [beq_eq_false_iff_ne]; omega
              have hk0' : 0 < k := by omega
              clear hf hgo hk0
              go_wp2
              go_loop [9, 10] (fun v i => ∃ (z : Int) (j V : Nat), Hid (z + 1 = (j : Int)) ∧ -1 ≤ z ∧ z ≤ k ∧ i = .int .i64 z ∧ v = .int .u64 V ∧ Hid (V = Mt.val (((l.drop a).take (k + 1)).drop j))) (fun _ i => (intOf i + 1).toNat)
              case atStart => exact ⟨(k : Int), k + 1, 0, by simp [Hid], by omega, by omega, rfl, rfl, by unfold Hid; rw [List.drop_of_length_le (by rw [List.length_take]; omega)]; rfl⟩
              case round =>
                obtain ⟨z, j, V, HJ, hz1, hz2, rfl, rfl, HV⟩ := hrel
                by_cases hz : 0 ≤ z
                · obtain ⟨p, rfl⟩ := Int.eq_ofNat_of_zero_le hz
                  have hj : j = p + 1 := by have := HJ.out; omega
                  subst hj
                  have hpk : p ≤ k := by omega
                  have hinp : a + p < l.length := by omega
                  obtain ⟨b2, off2, d, e2, _, hdd, hd3, hcell2⟩ := HL.out.at_ hinp
                  injection e2 with e2
                  injection e2 with e3 e4
                  subst e3 e4
                  have hS : (((l.drop a).take (k + 1)).drop p) = d :: ((l.drop (a + p + 1)).take (k - p)) := by
                    rw [List.drop_take, Mt.drop_byte hd3]
                    have e5 : k + 1 - p = (k - p) + 1 := by omega
                    rw [e5]; rfl
                  have HN : Hid (Mt.val (((l.drop a).take (k + 1)).drop p) = d % 128 + 128 * V) := by unfold Hid; rw [Mt.horner hS, HV.out]
                  have hle := Mt.val_drop ((l.drop a).take (k + 1)) p
                  have HW := Lib.hid (horner_step V d (by have h1 := HN.out; have h2 := HSM.out; omega))
                  clear hd3 hS hle HV
                  go_wp2
                  exact ⟨⟨(p : Int) - 1, p, d % 128 + 128 * V, by unfold Hid; omega, by omega, by omega, rfl, by rw [HW.out], by unfold Hid; rw [HN.out]⟩, by simp [intOf]⟩
                · have hz0 : z = -1 := by omega
                  subst hz0
                  have hj : j = 0 := by have := HJ.out; omega
                  subst hj
                  have HF : Hid (V = Mt.val ((l.drop a).take k) + c * 128 ^ k) := by
                    unfold Hid; rw [HV.out, List.drop_zero, Mt.val_take hd2, Nat.mod_eq_of_lt hc1]
                  clear HV HJ
                  go_wp2
                  go_ret3
                  rw [HF.out]
                  exact IsGot.of (Mt.get_ok ha HE.out) (Below.refl _ _)
          · have h9' : 8 < k := by omega
            have hc0 : 0 < c := by omega
            have hcb : ((c : Int) == 0) = false := by rw [beq_eq_false_iff_ne]; omega
            have hc2 : c < 2 := by omega
            clear hf hgo h9
            go_wp2
            obtain rfl : k = 9 := by omega
            go_loop [9, 10] (fun v i => ∃ (z : Int) (j V : Nat), Hid (z + 1 = (j : Int)) ∧ -1 ≤ z ∧ z ≤ (9 : Nat) ∧ i = .int .i64 z ∧ v = .int .u64 V ∧ Hid (V = Mt.val (((l.drop a).take ((9 : Nat) + 1)).drop j))) (fun _ i => (intOf i + 1).toNat)
            case atStart => exact ⟨((9 : Nat) : Int), (9 : Nat) + 1, 0, by simp [Hid], by omega, by omega, rfl, rfl, by unfold Hid; rw [List.drop_of_length_le (by rw [List.length_take]; omega)]; rfl⟩
            case round =>
              obtain ⟨z, j, V, HJ, hz1, hz2, rfl, rfl, HV⟩ := hrel
              by_cases hz : 0 ≤ z
              · obtain ⟨p, rfl⟩ := Int.eq_ofNat_of_zero_le hz
                have hj : j = p + 1 := by have := HJ.out; omega
                subst hj
                have hpk : p ≤ (9 : Nat) := by omega
                have hinp : a + p < l.length := by omega
                obtain ⟨b2, off2, d, e2, _, hdd, hd3, hcell2⟩ := HL.out.at_ hinp
                injection e2 with e2
                injection e2 with e3 e4
                subst e3 e4
                have hS : (((l.drop a).take ((9 : Nat) + 1)).drop p) = d :: ((l.drop (a + p + 1)).take ((9 : Nat) - p)) := by
                  rw [List.drop_take, Mt.drop_byte hd3]
                  have e5 : (9 : Nat) + 1 - p = ((9 : Nat) - p) + 1 := by omega
                  rw [e5]; rfl
                have HN : Hid (Mt.val (((l.drop a).take ((9 : Nat) + 1)).drop p) = d % 128 + 128 * V) := by unfold Hid; rw [Mt.horner hS, HV.out]
                have hle := Mt.val_drop ((l.drop a).take ((9 : Nat) + 1)) p
                have HW := Lib.hid (horner_step V d (by have h1 := HN.out; have h2 := HSM.out; omega))
                clear hd3 hS hle HV
                go_wp2
                exact ⟨⟨(p : Int) - 1, p, d % 128 + 128 * V, by unfold Hid; omega, by omega, by omega, rfl, by rw [HW.out], by unfold Hid; rw [HN.out]⟩, by simp [intOf]⟩
              · have hz0 : z = -1 := by omega
                subst hz0
                have hj : j = 0 := by have := HJ.out; omega
                subst hj
                have HF : Hid (V = Mt.val ((l.drop a).take (9 : Nat)) + c * 128 ^ (9 : Nat)) := by
                  unfold Hid; rw [HV.out, List.drop_zero, Mt.val_take hd2, Nat.mod_eq_of_lt hc1]
                clear HV HJ
                go_wp2
                go_ret3
                rw [HF.out]
                exact IsGot.of (Mt.get_ok ha HE.out) (Below.refl _ _)
    · have hk0 : a + k = l.length := by omega
      have HE : Hid (Mt.rd 0 0 (l.drop a) = (0, 0, 4)) := by unfold Hid; rw [HR.out, hk0]; simp [Mt.rd_nil]
      have hkk : l.length ≤ a + k := by omega
      have hq : ((a : Int) + (k : Int) == ((l.length : Nat) : Int)) = true := by rw [beq_iff_eq]; omega
      clear HR HL hk0
      by_cases h9 : k < 9
      · go_wp2
        go_ret3
        exact IsGot.of (Mt.get_err ha HE.out (by decide)) (Below.refl _ _)
      · go_wp2
        go_ret3
        exact IsGot.of (Mt.get_err ha HE.out (by decide)) (Below.refl _ _)

theorem rget_any (v : Value) (l : List Nat) (B : Nat) (a : Int) (w : World) (h : Bv w B v l) :
    Calls Try.prog 27 #[v, .int .i64 a] w (IsGot (Mt.get l a) w) := by
  obtain ⟨A, c, rfl, h1, h2, h3, h4⟩ := h
  by_cases ha : a < 0 ∨ (l.length : Int) < a
  · exact rget_arg A l c a w (by omega) ha
  · obtain ⟨k, rfl⟩ := Int.eq_ofNat_of_zero_le (show 0 ≤ a by omega)
    exact rget_some A l c B k w h1 h2 (by omega) h4
end Go.Proofs.Ytoefogmjekcbeaa
namespace Go.Proofs.Ytoefogmjekcbeaa
open Go.RowKit
set_option linter.unusedVariables false

/-- A slice's length. -/
def lenS : Value → Nat
  | .slice _ n _ => n
  | _ => 0

set_option maxHeartbeats 2000000 in
set_option maxRecDepth 100000 in
theorem rpgput_any (n : Int) (k : Nat) (v : Value) (b : List Nat) (B : Nat) (w : World) (hk : k < 256) (hv : Lv yK w B v b) (hB : B ≤ w.heap.size) :
    Calls Try.prog 22 #[.int .i64 n, .int .u8 (k : Nat), v] w (IsLE yK (Pg.putE n k b) w) := by
  have HV := Lib.hid hv
  have hb8 : ∀ x ∈ b, x < 256 := fun x hx => hv.ok_ x hx
  have HR8 := Lib.hid (Pg.rest_lt (n := n.toNat) hk hb8)
  have HBB := Lib.hid hB
  have HK := Lib.hid hk
  obtain ⟨A, c, rfl, k1, k2, -, -, -⟩ := hv
  have hll : b.length ≤ 9223372036854775807 := by simp only [maxLen] at k2; omega
  clear k1 k2 hb8 hB hk
  by_cases h0 : n < 0
  · have HE := Lib.hid (Pg.putE_arg (k := k) (b := b) (.inl h0))
    go_enter Try.func22, Try.ntmps22
    go_wp2
    go_ret2
    exact IsLE.none_b HE.out rfl (Below.refl _ _)
  · by_cases h1 : 65536 ≤ n
    · have HE := Lib.hid (Pg.putE_arg (k := k) (b := b) (.inr h1))
      go_enter Try.func22, Try.ntmps22
      go_wp2
      go_ret2
      exact IsLE.none_b HE.out rfl (Below.refl _ _)
    · by_cases h2 : 496 < b.length
      · have HE := Lib.hid (Pg.putE_lim (n := n) (k := k) (b := b) (by omega) h2)
        have h2i : (496 : Int) < (b.length : Int) := by omega
        clear h2
        go_enter Try.func22, Try.ntmps22
        go_wp2
        go_ret2
        exact IsLE.none_b HE.out rfl (Below.refl _ _)
      · have HE := Lib.hid (Pg.putE_ok (n := n) (k := k) (b := b) (by omega) h2)
        obtain ⟨N, rfl⟩ := Int.eq_ofNat_of_zero_le (show 0 ≤ n by omega)
        rw [Int.toNat_natCast] at HE HR8
        have hN : N < 65536 := by omega
        have h2i : ¬ (496 : Int) < (b.length : Int) := by omega
        obtain ⟨a0, e0⟩ : ∃ x, N % 256 = x := ⟨_, rfl⟩
        obtain ⟨a1, e1⟩ : ∃ x, N / 256 % 256 = x := ⟨_, rfl⟩
        obtain ⟨a2, e2⟩ : ∃ x, N / 65536 % 256 = x := ⟨_, rfl⟩
        obtain ⟨a3, e3⟩ : ∃ x, N / 16777216 % 256 = x := ⟨_, rfl⟩
        obtain ⟨a6, e6⟩ : ∃ x, b.length % 256 = x := ⟨_, rfl⟩
        obtain ⟨a7, e7⟩ : ∃ x, b.length / 256 % 256 = x := ⟨_, rfl⟩
        have HH : Hid (Pg.head N k b.length = [a0, a1, a2, a3, k, 0, a6, a7]) := by unfold Hid Pg.head; rw [e0, e1, e2, e3, e6, e7]
        have i0 : (N : Int) % 256 = (a0 : Nat) := by omega
        have i1 : (N : Int) / 256 % 256 = (a1 : Nat) := by omega
        have i2 : (N : Int) / 65536 % 256 = (a2 : Nat) := by omega
        have i3 : (N : Int) / 16777216 % 256 = (a3 : Nat) := by omega
        have i6 : (b.length : Int) % 256 = (a6 : Nat) := by omega
        have i7 : (b.length : Int) / 256 % 256 = (a7 : Nat) := by omega
        have j1 : (N : Int) / 256 = (a1 : Nat) := by omega
        have j2 : (N : Int) / 65536 = (a2 : Nat) := by omega
        have j3 : (N : Int) / 16777216 = (a3 : Nat) := by omega
        have j7 : (b.length : Int) / 256 = (a7 : Nat) := by omega
        have hn0 : ¬ (N : Int) < 0 := by omega
        have hn1 : ¬ 65536 ≤ (N : Int) := by omega
        have h8 : ∀ x ∈ [a0, a1, a2, a3, k, 0, a6, a7], yK.ok x := fun x hx => by
          have := HK.out
          simp only [List.mem_cons, List.not_mem_nil, or_false] at hx
          show x < 256
          rcases hx with rfl | rfl | rfl | rfl | rfl | rfl | rfl | rfl <;> omega
        have hla := Lv.build_ yK w _ h8 (by simp [maxLen]) 8 rfl _ rfl _ rfl
        have hab := (Below.refl w.heap.size w).alloc (Nat.le_refl _) (.cells #[.int .u8 (a0 : Nat), .int .u8 (a1 : Nat), .int .u8 (a2 : Nat), .int .u8 (a3 : Nat), .int .u8 (k : Nat), .int .u8 0, .int .u8 (a6 : Nat), .int .u8 (a7 : Nat)] 5)
        obtain ⟨Y, hY⟩ : ∃ Y, w.alloc (.cells #[.int .u8 (a0 : Nat), .int .u8 (a1 : Nat), .int .u8 (a2 : Nat), .int .u8 (a3 : Nat), .int .u8 (k : Nat), .int .u8 0, .int .u8 (a6 : Nat), .int .u8 (a7 : Nat)] 5) = Y := ⟨_, rfl⟩
        change Lv yK (w.alloc (.cells #[.int .u8 (a0 : Nat), .int .u8 (a1 : Nat), .int .u8 (a2 : Nat), .int .u8 (a3 : Nat), .int .u8 (k : Nat), .int .u8 0, .int .u8 (a6 : Nat), .int .u8 (a7 : Nat)] 5)) _ _ _ at hla
        rw [hY] at hla hab
        have HLA := Lib.hid hla
        have HAB := Lib.hid hab
        have HBL : Hid (b.length ≤ 496) := by unfold Hid; omega
        have HRL := Lib.hid (Pg.rest_len (n := N) (k := k) HBL.out)
        obtain ⟨H, hH⟩ : ∃ H, [a0, a1, a2, a3, k, 0, a6, a7] = H := ⟨_, rfl⟩
        have hHl : H.length = 8 := by rw [← hH]; rfl
        rw [hH] at HH HLA
        have HHL := Lib.hid hHl
        have hVY := HV.out.below_ HAB.out HBB.out
        have HVY := Lib.hid hVY
        clear hla hab h8 e0 e1 e2 e3 e6 e7 h0 h1 h2 hH hHl hVY
        go_enter Try.func22, Try.ntmps22
        have HYS : Hid (w.heap.size ≤ Y.heap.size) := HAB.out.size
        go_wp2_with (first
          | (at_builtin; (refine wpList_append_l _ yK rfl (.tmp 19) (.tmp 39) rfl w.heap.size _ rfl [] (OwnL.nil_ _ _ _) _ rfl _ H HLA.out (by have := HHL.out; show _ * 1 ≤ _; simp; omega) (by have := HHL.out; simp [maxLen]; omega) HYS.out ?_; intro A1 c1 w1 hA0 hG1; have hA1 : OwnL yK w1 w.heap.size (.slice A1 H.length c1) H := hA0; clear hA0; have hb1 := (Below.refl w.heap.size Y).grown hG1 HYS.out (fun k hk => (by cases hk)); have hz1 : w.heap.size ≤ w1.heap.size := Nat.le_trans HYS.out hb1.size; have HV1 := HVY.out.below_ hb1 HBB.out))
          | (at_builtin; go_must (refine wpList_append_l _ yK rfl (.tmp 41) (.tmp 42) rfl w.heap.size _ rfl H hA1 _ rfl _ b HV1 (by have := HHL.out; have := HBL.out; show _ * 1 ≤ _; simp; omega) (by have := HHL.out; have := HBL.out; simp [maxLen]; omega) hz1 ?_; intro A2 c2 w2 hA2 hG2)))
        have hb2 := (Below.refl w.heap.size w1).grown hG2 hz1 (fun k hk => (hA1.lt_ k hk).1)
        have HB2 := Lib.hid (HAB.out.trans (hb1.trans hb2))
        obtain ⟨L, hL⟩ : ∃ L, H ++ b = L := ⟨_, rfl⟩
        have hLl : L.length = 8 + b.length := by rw [← hL]; have := HHL.out; simp; omega
        have HLR : Hid (∀ j, L ++ List.replicate j 0 = Pg.head N k b.length ++ b ++ List.replicate j 0) := fun j => by rw [HH.out, ← hL]
        rw [hL] at hA2
        rw [← List.length_append, hL]
        have HO2 := Lib.hid hA2
        have HLL := Lib.hid hLl
        clear hA1 hG1 hb1 hz1 HV1 hA2 hG2 hb2 hL hLl HVY HLA HAB HYS HV hY
        go_loopw [8] (fun s wr => ∃ (j : Nat) (A5 : Option Addr) (c5 : Nat) (l : List Nat), Hid (l = L ++ List.replicate j 0) ∧ l.length = 8 + b.length + j ∧ j ≤ 500 - b.length ∧ s = .slice A5 l.length c5 ∧ Hid (OwnL yK wr w.heap.size (.slice A5 l.length c5) l) ∧ Hid (Below w.heap.size w wr)) (fun s _ => 508 - lenS s)
        case atStart => exact ⟨0, A2, c2, L, by simp [Hid], by have := HLL.out; omega, by omega, rfl, HO2.out, HB2.out⟩
        case round =>
          obtain ⟨j, A5, c5, l, HL, hln, hj, rfl, HO, HB⟩ := hrel
          clear HO2 HB2
          have hbl := HBL.out
          by_cases hlt : l.length < 508
          · have hli : (l.length : Int) < 508 := by omega
            have HZ : Hid (w.heap.size ≤ wr.heap.size) := HB.out.size
            have HLN := Lib.hid hln
            clear hln hj
            go_wp2_with (at_builtin; go_must (refine wpList_push_l _ yK rfl _ _ rfl w.heap.size _ rfl l HO.out rfl 0 (show (0 : Nat) < 256 by omega) _ rfl _ rfl (by show _ * 1 ≤ _; omega) (by simp only [maxLen]; omega) HZ.out ?_; intro A6 c6 w6 hA6 hG6))
            go_roundw
            case rel =>
              have hl1 : (l ++ [0]).length = l.length + 1 := by simp
              have hln := HLN.out
              refine ⟨j + 1, A6, c6, l ++ [0], ?_, by omega, by omega, by rw [hl1], by rw [hl1]; exact hA6, HB.out.grown hG6 HZ.out (fun k hk => (HO.out.lt_ k hk).1)⟩
              unfold Hid
              rw [HL.out, List.append_assoc, List.replicate_succ']
            case measure => simp [lenS]; omega
          · have hli : ¬ (l.length : Int) < 508 := by omega
            have HPR : Hid (l = Pg.rest N k b) := by
              unfold Hid
              rw [HL.out, HLR.out j, show j = 500 - b.length by omega]; rfl
            have h508 : l.length = 508 := by omega
            have HS := Lib.hid (rof_any _ l wr.heap.size wr HO.out.form_.bv_)
            have HL5 := Lib.hid h508
            obtain ⟨n4, hn4⟩ : ∃ n, Cr.of l = n := ⟨_, rfl⟩
            have hn32 : Cr.B32 n4 := by rw [← hn4, HPR.out]; exact Cr.of_b32 HR8.out
            have HPG : Hid (Pg.page N k b = four n4 ++ l) := by unfold Hid Pg.page; rw [← HPR.out, hn4]
            rw [hn4] at HS
            have HF := Lib.hid (rfour_any n4 hn32 wr)
            have HZ : Hid (w.heap.size ≤ wr.heap.size) := HB.out.size
            clear hln hj h508 hn4 hn32 HR8 HLR HL HPR HRL
            go_wp2_with fail
            refine HS.out.mono ?_
            rintro e w3 ⟨rfl, rfl⟩
            go_wp2_with fail
            refine HF.out.mono ?_
            rintro e w4 ⟨A7, c7, rfl, o7, b7⟩
            have HB4 := Lib.hid (HB.out.trans (b7.mono HZ.out))
            have HO4 := Lib.hid (o7.mono_ HZ.out)
            have HL4 := Lib.hid (HO.out.below_ b7 (Nat.le_refl _)).form_
            obtain ⟨F, hF⟩ : ∃ F, four n4 = F := ⟨_, rfl⟩
            have hF4 : F.length = 4 := by rw [← hF]; rfl
            rw [hF] at HO4 HPG ⊢
            have HF4 := Lib.hid hF4
            clear HS HF o7 b7 hF hF4
            go_wp2_with (at_builtin; go_must (refine wpList_append_l _ yK rfl _ _ rfl w.heap.size _ rfl F HO4.out _ rfl _ l HL4.out (by have := HF4.out; have := HL5.out; show _ * 1 ≤ _; omega) (by have := HF4.out; have := HL5.out; simp only [maxLen]; omega) HB4.out.size ?_; intro A8 c8 w8 hA8 hG8))
            go_ret2
            have hB8 := HB4.out.grown hG8 HB4.out.size (fun k hk => (HO4.out.lt_ k hk).1)
            have hfl : F.length + l.length = (F ++ l).length := by simp
            rw [← hfl] at hA8
            exact IsLE.of (HE.out.trans (by rw [HPG.out])) hfl rfl hA8 hB8
end Go.Proofs.Ytoefogmjekcbeaa
