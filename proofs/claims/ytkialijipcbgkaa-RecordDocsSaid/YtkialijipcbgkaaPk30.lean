/-
  RPkA: stookref12: Fold, Unfold.
  RGet: stookref01.Get answers what reading a number tells.
  RCount: stookref01.Count answers a count of at most so many.
  RPkC: stookref12.Get.
-/
import Derived.Test.YtkialijipcbgkaaPk26
import Derived.Test.YtkialijipcbgkaaPk23
import Derived.BigRegion
namespace Go.Proofs.Ytkialijipcbgkaa
open Go.RowKit
theorem rfold_any (n : Int) (hn : I64 n) (w : World) : Calls Try.prog 56 #[.int .i64 n] w (fun e w' => e = .returned (.int .u64 (Pk.fold n : Nat)) ∧ w = w') := by
  unfold I64 at hn
  by_cases h : 0 ≤ n
  · have h1 : IntKind.u64.wrap n = n := by rw [IntKind.wrap_u64]; omega
    have h2 : IntKind.u64.wrap (2 * n) = 2 * n := by rw [IntKind.wrap_u64]; omega
    have hf : ((Pk.fold n : Nat) : Int) = 2 * n := by unfold Pk.fold; rw [if_pos h]; omega
    go_enter Try.func56, Try.ntmps56
    go_wp2
    go_ret
    exact ⟨congrArg (fun x => Ending.returned (Value.int _ x)) hf.symm, rfl⟩
  · have hn0 : n < 0 := by omega
    have h0 : IntKind.i64.wrap (n + 1) = n + 1 := by rw [IntKind.wrap_i64]; omega
    have h01 : IntKind.i64.wrap (-(n + 1)) = -(n + 1) := by rw [IntKind.wrap_i64]; omega
    have h1 : IntKind.u64.wrap (-(n + 1)) = -(n + 1) := by rw [IntKind.wrap_u64]; omega
    have h2 : IntKind.u64.wrap (2 * -(n + 1)) = 2 * -(n + 1) := by rw [IntKind.wrap_u64]; omega
    have h3 : IntKind.u64.wrap (2 * -(n + 1) + 1) = 2 * -(n + 1) + 1 := by rw [IntKind.wrap_u64]; omega
    have hf : ((Pk.fold n : Nat) : Int) = 2 * -(n + 1) + 1 := by unfold Pk.fold; rw [if_neg h]; omega
    go_enter Try.func56, Try.ntmps56
    go_wp2
    go_ret
    exact ⟨rfl, rfl⟩
theorem runfold_any (u : Nat) (hu : u < 18446744073709551616) (w : World) : Calls Try.prog 59 #[.int .u64 (u : Nat)] w (fun e w' => e = .returned (.int .i64 (Pk.unfold u)) ∧ w = w') := by
  have h1 : IntKind.i64.wrap ((u : Int) / 2) = (u : Int) / 2 := by rw [IntKind.wrap_i64]; omega
  have h1' : IntKind.i64.wrap (((u / 2 : Nat) : Int)) = (u : Int) / 2 := by rw [IntKind.wrap_i64]; omega
  by_cases h : u % 2 = 0
  · have hi : (u : Int) % 2 = 0 := by omega
    have hf : Pk.unfold u = (u : Int) / 2 := by unfold Pk.unfold; rw [if_pos h]; omega
    go_enter Try.func59, Try.ntmps59
    go_wp2
    go_ret
    exact ⟨congrArg (fun x => Ending.returned (Value.int _ x)) hf.symm, rfl⟩
  · have hi : ¬ (u : Int) % 2 = 0 := by omega
    have hib : ((u : Int) % 2 == 0) = false := by rw [beq_eq_false_iff_ne]; exact hi
    have h3 : IntKind.i64.wrap (-((u : Int) / 2)) = -((u : Int) / 2) := by rw [IntKind.wrap_i64]; omega
    have h4 : IntKind.i64.wrap (-((u : Int) / 2) - 1) = -((u : Int) / 2) - 1 := by rw [IntKind.wrap_i64]; omega
    have hf : Pk.unfold u = -((u : Int) / 2) - 1 := by unfold Pk.unfold; rw [if_neg h]; omega
    go_enter Try.func59, Try.ntmps59
    go_wp2
    go_ret
    exact ⟨congrArg (fun x => Ending.returned (Value.int _ x)) hf.symm, rfl⟩
end Go.Proofs.Ytkialijipcbgkaa
namespace Go.Proofs.Ytkialijipcbgkaa
open Go.RowKit
set_option linter.unusedVariables false

set_option maxHeartbeats 400000 in
theorem rget_arg (A : Option Addr) (l : List Nat) (cap : Nat) (a : Int) (w : World) (hlen : l.length ≤ maxLen) (h : a < 0 ∨ (l.length : Int) < a) :
    Calls Try.prog 58 #[.slice A l.length cap, .int .i64 a] w (IsGot (Mt.get l a) w) := by
  have HR := Lib.hid (Mt.get_arg h)
  unfold maxLen at hlen
  by_cases h1 : a < 0
  · clear h
    go_enter Try.func58, Try.ntmps58
    go_wp2
    go_ret3
    exact IsGot.of HR.out (Below.refl _ _)
  · have h2 : (l.length : Int) < a := by omega
    clear h
    go_enter Try.func58, Try.ntmps58
    go_wp2
    go_ret3
    exact IsGot.of HR.out (Below.refl _ _)

theorem horner_step (V d : Nat) (h : d % 128 + 128 * V < 18446744073709551616) :
    IntKind.u64.wrap (IntKind.u64.wrap (128 * (V : Int)) + ((d : Int) % 128)) = ((d % 128 + 128 * V : Nat) : Int) := by
  rw [IntKind.wrap_u64, IntKind.wrap_u64]
  omega

set_option maxHeartbeats 2000000 in
set_option maxRecDepth 100000 in
theorem rget_some (A : Option Addr) (l : List Nat) (cap B a : Nat) (w : World) (hlen : l.length ≤ cap) (hcap : cap ≤ maxLen) (ha : a ≤ l.length) (hl : Bts w B A l) :
    Calls Try.prog 58 #[.slice A l.length cap, .int .i64 a] w (IsGot (Mt.get l a) w) := by
  unfold maxLen at hcap
  have HL := Lib.hid hl
  clear hl
  go_enter Try.func58, Try.ntmps58
  go_wp2
  go_loop [7] (fun i => ∃ k : Nat, k ≤ 9 ∧ a + k ≤ l.length ∧ i = .int .i64 k ∧ Hid (Mt.rd 0 0 (l.drop a) = Mt.rd k (Mt.val ((l.drop a).take k)) (l.drop (a + k)))) (fun i => l.length - (intOf i).toNat)
  case atStart => exact ⟨0, by omega, by omega, rfl, by simp [Hid, Mt.val]⟩
  case round =>
    obtain ⟨k, hk9, hk, rfl, HR⟩ := hrel
    by_cases hin : a + k < l.length
    · obtain ⟨b, off, c, rfl, hb, hc, hd, hcell⟩ := HL.out.at_ hin
      have hd2 := Mt.drop_byte hd
      by_cases hgo : k < 9 ∧ 128 ≤ c
      · obtain ⟨h9, hc128⟩ := hgo
        have HE := Lib.hid (Mt.rd_take (by rw [List.drop_drop]; exact HR.out) hd2 (by omega) hc128)
        rw [List.drop_drop] at HE
        clear hd2 HR hd
        go_wp2
        exact ⟨⟨k + 1, by omega, by omega, by simp, HE⟩, by simp [intOf]; omega⟩
      · have hlast : Hid (Mt.rd 0 0 (l.drop a) = Mt.rd k (Mt.val ((l.drop a).take k)) (c :: l.drop (a + k + 1))) := by unfold Hid; rw [HR.out, hd]
        clear HR hd
        by_cases hf : (k = 9 ∧ 1 < c) ∨ (0 < k ∧ c = 0)
        · have HE := Lib.hid (hlast.out.trans (Mt.rd_form hf))
          clear hlast hd2
          by_cases h9 : k < 9
          · have hk0 : 0 < k := by omega
            obtain rfl : c = 0 := by omega
            clear hf hgo
            go_wp2
            go_ret3
            exact IsGot.of (Mt.get_err ha HE.out (by decide)) (Below.refl _ _)
          · have h9' : 8 < k := by omega
            by_cases hc1 : 1 < c
            · clear hf hgo h9
              go_wp2
              go_ret3
              exact IsGot.of (Mt.get_err ha HE.out (by decide)) (Below.refl _ _)
            · obtain rfl : c = 0 := by omega
              have hk0 : 0 < k := by omega
              clear hf hgo h9 hc1
              go_wp2
              go_ret3
              exact IsGot.of (Mt.get_err ha HE.out (by decide)) (Below.refl _ _)
        · have hc1 : c < 128 := by omega
          have HE := Lib.hid (hlast.out.trans (Mt.rd_last (by omega) hc1))
          have HSM := Lib.hid (Mt.val_small hd2 hk9 hc1 (by omega))
          clear hlast
          by_cases h9 : k < 9
          · by_cases hk0 : k < 1
            · clear hf hgo
              go_wp2
              go_loop [9, 10] (fun v i => ∃ (z : Int) (j V : Nat), Hid (z + 1 = (j : Int)) ∧ -1 ≤ z ∧ z ≤ k ∧ i = .int .i64 z ∧ v = .int .u64 V ∧ Hid (V = Mt.val (((l.drop a).take (k + 1)).drop j))) (fun _ i => (intOf i + 1).toNat)
              case atStart => exact ⟨(k : Int), k + 1, 0, by simp [Hid], by omega, by omega, rfl, rfl, by unfold Hid; rw [List.drop_of_length_le (by rw [List.length_take]; omega)]; rfl⟩
              case round =>
                obtain ⟨z, j, V, HJ, hz1, hz2, rfl, rfl, HV⟩ := hrel
                by_cases hz : 0 ≤ z
                · obtain ⟨p, rfl⟩ := Int.eq_ofNat_of_zero_le hz
                  have hj : j = p + 1 := by have := HJ.out; omega
                  subst hj
                  have hpk : p ≤ k := by omega
                  have hinp : a + p < l.length := by omega
                  obtain ⟨b2, off2, d, e2, _, hdd, hd3, hcell2⟩ := HL.out.at_ hinp
                  injection e2 with e2
                  injection e2 with e3 e4
                  subst e3 e4
                  have hS : (((l.drop a).take (k + 1)).drop p) = d :: ((l.drop (a + p + 1)).take (k - p)) := by
                    rw [List.drop_take, Mt.drop_byte hd3]
                    have e5 : k + 1 - p = (k - p) + 1 := by omega
                    rw [e5]; rfl
                  have HN : Hid (Mt.val (((l.drop a).take (k + 1)).drop p) = d % 128 + 128 * V) := by unfold Hid; rw [Mt.horner hS, HV.out]
                  have hle := Mt.val_drop ((l.drop a).take (k + 1)) p
                  have HW := Lib.hid (horner_step V d (by have h1 := HN.out; have h2 := HSM.out; omega))
                  clear hd3 hS hle HV
                  go_wp2
                  exact ⟨⟨(p : Int) - 1, p, d % 128 + 128 * V, by unfold Hid; omega, by omega, by omega, rfl, by rw [HW.out], by unfold Hid; rw [HN.out]⟩, by simp [intOf]⟩
                · have hz0 : z = -1 := by omega
                  subst hz0
                  have hj : j = 0 := by have := HJ.out; omega
                  subst hj
                  have HF : Hid (V = Mt.val ((l.drop a).take k) + c * 128 ^ k) := by
                    unfold Hid; rw [HV.out, List.drop_zero, Mt.val_take hd2, Nat.mod_eq_of_lt hc1]
                  clear HV HJ
                  go_wp2
                  go_ret3
                  rw [HF.out]
                  exact IsGot.of (Mt.get_ok ha HE.out) (Below.refl _ _)
            · have hc0 : 0 < c := by omega
              have hcb : ((c : Int) == 0) = false := by rw [beq_eq_false_iff_ne]; omega
              have hk0' : 0 < k := by omega
              clear hf hgo hk0
              go_wp2
              go_loop [9, 10] (fun v i => ∃ (z : Int) (j V : Nat), Hid (z + 1 = (j : Int)) ∧ -1 ≤ z ∧ z ≤ k ∧ i = .int .i64 z ∧ v = .int .u64 V ∧ Hid (V = Mt.val (((l.drop a).take (k + 1)).drop j))) (fun _ i => (intOf i + 1).toNat)
              case atStart => exact ⟨(k : Int), k + 1, 0, by simp [Hid], by omega, by omega, rfl, rfl, by unfold Hid; rw [List.drop_of_length_le (by rw [List.length_take]; omega)]; rfl⟩
              case round =>
                obtain ⟨z, j, V, HJ, hz1, hz2, rfl, rfl, HV⟩ := hrel
                by_cases hz : 0 ≤ z
                · obtain ⟨p, rfl⟩ := Int.eq_ofNat_of_zero_le hz
                  have hj : j = p + 1 := by have := HJ.out; omega
                  subst hj
                  have hpk : p ≤ k := by omega
                  have hinp : a + p < l.length := by omega
                  obtain ⟨b2, off2, d, e2, _, hdd, hd3, hcell2⟩ := HL.out.at_ hinp
                  injection e2 with e2
                  injection e2 with e3 e4
                  subst e3 e4
                  have hS : (((l.drop a).take (k + 1)).drop p) = d :: ((l.drop (a + p + 1)).take (k - p)) := by
                    rw [List.drop_take, Mt.drop_byte hd3]
                    have e5 : k + 1 - p = (k - p) + 1 := by omega
                    rw [e5]; rfl
                  have HN : Hid (Mt.val (((l.drop a).take (k + 1)).drop p) = d % 128 + 128 * V) := by unfold Hid; rw [Mt.horner hS, HV.out]
                  have hle := Mt.val_drop ((l.drop a).take (k + 1)) p
                  have HW := Lib.hid (horner_step V d (by have h1 := HN.out; have h2 := HSM.out; omega))
                  clear hd3 hS hle HV
                  go_wp2
                  exact ⟨⟨(p : Int) - 1, p, d % 128 + 128 * V, by unfold Hid; omega, by omega, by omega, rfl, by rw [HW.out], by unfold Hid; rw [HN.out]⟩, by simp [intOf]⟩
                · have hz0 : z = -1 := by omega
                  subst hz0
                  have hj : j = 0 := by have := HJ.out; omega
                  subst hj
                  have HF : Hid (V = Mt.val ((l.drop a).take k) + c * 128 ^ k) := by
                    unfold Hid; rw [HV.out, List.drop_zero, Mt.val_take hd2, Nat.mod_eq_of_lt hc1]
                  clear HV HJ
                  go_wp2
                  go_ret3
                  rw [HF.out]
                  exact IsGot.of (Mt.get_ok ha HE.out) (Below.refl _ _)
          · have h9' : 8 < k := by omega
            have hc0 : 0 < c := by omega
            have hcb : ((c : Int) == 0) = false := by rw [beq_eq_false_iff_ne]; omega
            have hc2 : c < 2 := by omega
            clear hf hgo h9
            go_wp2
            obtain rfl : k = 9 := by omega
            go_loop [9, 10] (fun v i => ∃ (z : Int) (j V : Nat), Hid (z + 1 = (j : Int)) ∧ -1 ≤ z ∧ z ≤ (9 : Nat) ∧ i = .int .i64 z ∧ v = .int .u64 V ∧ Hid (V = Mt.val (((l.drop a).take ((9 : Nat) + 1)).drop j))) (fun _ i => (intOf i + 1).toNat)
            case atStart => exact ⟨((9 : Nat) : Int), (9 : Nat) + 1, 0, by simp [Hid], by omega, by omega, rfl, rfl, by unfold Hid; rw [List.drop_of_length_le (by rw [List.length_take]; omega)]; rfl⟩
            case round =>
              obtain ⟨z, j, V, HJ, hz1, hz2, rfl, rfl, HV⟩ := hrel
              by_cases hz : 0 ≤ z
              · obtain ⟨p, rfl⟩ := Int.eq_ofNat_of_zero_le hz
                have hj : j = p + 1 := by have := HJ.out; omega
                subst hj
                have hpk : p ≤ (9 : Nat) := by omega
                have hinp : a + p < l.length := by omega
                obtain ⟨b2, off2, d, e2, _, hdd, hd3, hcell2⟩ := HL.out.at_ hinp
                injection e2 with e2
                injection e2 with e3 e4
                subst e3 e4
                have hS : (((l.drop a).take ((9 : Nat) + 1)).drop p) = d :: ((l.drop (a + p + 1)).take ((9 : Nat) - p)) := by
                  rw [List.drop_take, Mt.drop_byte hd3]
                  have e5 : (9 : Nat) + 1 - p = ((9 : Nat) - p) + 1 := by omega
                  rw [e5]; rfl
                have HN : Hid (Mt.val (((l.drop a).take ((9 : Nat) + 1)).drop p) = d % 128 + 128 * V) := by unfold Hid; rw [Mt.horner hS, HV.out]
                have hle := Mt.val_drop ((l.drop a).take ((9 : Nat) + 1)) p
                have HW := Lib.hid (horner_step V d (by have h1 := HN.out; have h2 := HSM.out; omega))
                clear hd3 hS hle HV
                go_wp2
                exact ⟨⟨(p : Int) - 1, p, d % 128 + 128 * V, by unfold Hid; omega, by omega, by omega, rfl, by rw [HW.out], by unfold Hid; rw [HN.out]⟩, by simp [intOf]⟩
              · have hz0 : z = -1 := by omega
                subst hz0
                have hj : j = 0 := by have := HJ.out; omega
                subst hj
                have HF : Hid (V = Mt.val ((l.drop a).take (9 : Nat)) + c * 128 ^ (9 : Nat)) := by
                  unfold Hid; rw [HV.out, List.drop_zero, Mt.val_take hd2, Nat.mod_eq_of_lt hc1]
                clear HV HJ
                go_wp2
                go_ret3
                rw [HF.out]
                exact IsGot.of (Mt.get_ok ha HE.out) (Below.refl _ _)
    · have hk0 : a + k = l.length := by omega
      have HE : Hid (Mt.rd 0 0 (l.drop a) = (0, 0, 4)) := by unfold Hid; rw [HR.out, hk0]; simp [Mt.rd_nil]
      have hkk : l.length ≤ a + k := by omega
      have hq : ((a : Int) + (k : Int) == ((l.length : Nat) : Int)) = true := by rw [beq_iff_eq]; omega
      clear HR HL hk0
      by_cases h9 : k < 9
      · go_wp2
        go_ret3
        exact IsGot.of (Mt.get_err ha HE.out (by decide)) (Below.refl _ _)
      · go_wp2
        go_ret3
        exact IsGot.of (Mt.get_err ha HE.out (by decide)) (Below.refl _ _)

theorem rget_any (v : Value) (l : List Nat) (B : Nat) (a : Int) (w : World) (h : Bv w B v l) :
    Calls Try.prog 58 #[v, .int .i64 a] w (IsGot (Mt.get l a) w) := by
  obtain ⟨A, c, rfl, h1, h2, h3, h4⟩ := h
  by_cases ha : a < 0 ∨ (l.length : Int) < a
  · exact rget_arg A l c a w (by omega) ha
  · obtain ⟨k, rfl⟩ := Int.eq_ofNat_of_zero_le (show 0 ≤ a by omega)
    exact rget_some A l c B k w h1 h2 (by omega) h4
end Go.Proofs.Ytkialijipcbgkaa
namespace Go.Proofs.Ytkialijipcbgkaa
open Go.RowKit
set_option linter.unusedVariables false

/-- A call that answers these three numbers (all of Go's type int), and turns nothing that was there. -/
def IsCnt (r : Nat × Nat × Nat) (w : World) (e : Ending) (w' : World) : Prop :=
  e = .returned (.tuple #[.int .i64 r.1, .int .i64 r.2.1, .int .i64 r.2.2]) ∧ Below w.heap.size w w'
theorem IsCnt.of {w w' : World} {r : Nat × Nat × Nat} {n k e : Nat} (h : r = (n, k, e)) (hb : Below w.heap.size w w') : IsCnt r w (.returned (.tuple #[.int .i64 (n : Nat), .int .i64 (k : Nat), .int .i64 (e : Nat)])) w' := by
  subst h; exact ⟨rfl, hb⟩
theorem Bv.lt_ {w : World} {B : Nat} {v : Value} {l : List Nat} (h : Bv w B v l) : ∀ x ∈ l, x < 256 := by obtain ⟨_, _, _, _, _, _, h, _⟩ := h; exact h

set_option maxHeartbeats 1000000 in
set_option maxRecDepth 100000 in
theorem rcount_any (v : Value) (l : List Nat) (B : Nat) (a most : Int) (w : World) (h : Bv w B v l) (hm : most ≤ 9223372036854775807) :
    Calls Try.prog 41 #[v, .int .i64 a, .int .i64 most] w (IsCnt (Mt.count l a most) w) := by
  have HC := Lib.hid (rget_any v l B a w h)
  have HM := Lib.hid hm
  clear hm
  rcases Mt.get_cases h.lt_ a with ⟨e, he2, he5, hr⟩ | ⟨k, n, r, rfl, hk, hb, hs, hle, hr⟩
  · have HR := Lib.hid hr
    have HX := Lib.hid (Mt.count_err (most := most) hr (by omega))
    have hq : (((e : Nat) : Int) != 0) = true := by rw [bne_iff_ne]; omega
    clear hr
    go_enter Try.func41, Try.ntmps41
    go_wp2_with fail
    ((with_reducible refine HC.out.mono ?_); rintro e' w2 ⟨he, hb2⟩)
    rw [HR.out] at he
    subst he
    clear HC
    go_wp2
    go_ret3
    exact IsCnt.of HX.out hb2
  · have HR := Lib.hid hr
    obtain ⟨m, hm⟩ : ∃ m, (Mt.put n).length = m := ⟨_, rfl⟩
    rw [hm] at hr
    have HR := Lib.hid hr
    clear hs hb hle
    by_cases h1 : most < 0
    · have HX := Lib.hid (Mt.count_lim hr (.inl h1))
      clear hr hm
      go_enter Try.func41, Try.ntmps41
      go_wp2_with fail
      ((with_reducible refine HC.out.mono ?_); rintro e' w2 ⟨he, hb2⟩)
      rw [HR.out] at he
      subst he
      clear HC
      go_wp2
      go_ret3
      exact IsCnt.of HX.out hb2
    · obtain ⟨q, rfl⟩ := Int.eq_ofNat_of_zero_le (show 0 ≤ most by omega)
      have HW : Hid (IntKind.u64.wrap (q : Int) = (q : Int)) := by have := HM.out; unfold Hid; rw [IntKind.wrap_u64]; omega
      by_cases h2 : q < n
      · have HX := Lib.hid (Mt.count_lim (most := (q : Int)) hr (.inr (by omega)))
        clear hr hm h1
        go_enter Try.func41, Try.ntmps41
        go_wp2_with fail
        ((with_reducible refine HC.out.mono ?_); rintro e' w2 ⟨he, hb2⟩)
        rw [HR.out] at he
        subst he
        have HW2 := HW.out
        clear HC
        go_wp2
        go_ret3
        exact IsCnt.of HX.out hb2
      · have HX := Lib.hid (Mt.count_ok (most := (q : Int)) hr (by omega))
        have HN : Hid (wrap64 (n : Int) = (n : Int)) := by have := HM.out; unfold Hid wrap64; omega
        clear hr hm h1
        go_enter Try.func41, Try.ntmps41
        go_wp2_with fail
        ((with_reducible refine HC.out.mono ?_); rintro e' w2 ⟨he, hb2⟩)
        rw [HR.out] at he
        subst he
        have HW2 := HW.out
        clear HC
        go_wp2
        go_ret3
        rw [HN.out]
        exact IsCnt.of HX.out hb2
end Go.Proofs.Ytkialijipcbgkaa
namespace Go.Proofs.Ytkialijipcbgkaa
open Go.RowKit
set_option linter.unusedVariables false
/-- A call that answers a row, in new memory, a place and an error. -/
def IsPG (r : List Int × Nat × Nat) (w : World) (e : Ending) (w' : World) : Prop :=
  ∃ A c, e = .returned (.tuple #[.slice A r.1.length c, .int .i64 (r.2.1 : Nat), .int .i64 (r.2.2 : Nat)]) ∧ OwnL iK w' w.heap.size (.slice A r.1.length c) r.1 ∧ Below w.heap.size w w'
theorem IsPG.none_b {w w' : World} {r : List Int × Nat × Nat} {e : Nat} {x y : Int} (h : r = ([], 0, e)) (hx : x = (e : Nat)) (hy : y = 0) (hb : Below w.heap.size w w') : IsPG r w (.returned (.tuple #[.slice none 0 0, .int .i64 y, .int .i64 x])) w' := by
  subst h hx hy; exact ⟨none, 0, rfl, OwnL.nil_ _ _ _, hb⟩
theorem IsPG.of {w w' : World} {r : List Int × Nat × Nat} {y : List Int} {k : Nat} {v : Value} {x : Int} (h : r = (y, k, 0)) (hx : x = 0) (ho : OwnL iK w' w.heap.size v y) (hb : Below w.heap.size w w') : IsPG r w (.returned (.tuple #[v, .int .i64 (k : Nat), .int .i64 x])) w' := by
  subst h hx
  obtain ⟨A, c, e, _⟩ := ho.form_
  subst e
  exact ⟨A, c, rfl, ho, hb⟩

set_option maxHeartbeats 2000000 in
set_option maxRecDepth 100000 in
theorem rpget_any (v : Value) (b : List Nat) (B : Nat) (a : Int) (w : World) (hB : B ≤ w.heap.size) (h : Bv w B v b) :
    Calls Try.prog 42 #[v, .int .i64 a] w (IsPG (Pk.getE b a) w) := by
  have H0 := Lib.hid h
  have HC := Lib.hid (rcount_any v b B a 65536 w h (by omega))
  have hlt8 := h.lt_
  obtain ⟨A, c, rfl, hc1, hc2, _, _⟩ := h
  have hbl : b.length ≤ 9223372036854775807 := by simp only [maxLen] at hc2; omega
  clear hc1 hc2
  rcases Mt.count_cases hlt8 a 65536 with ⟨e, he2, he5, hr⟩ | ⟨k0, n, r, rfl, hk0, hbn, hs, hle, hr, hn⟩
  · have HE := Lib.hid (Pk.getE_err hr (by omega))
    rw [hr] at HC
    have hq : ((e : Int) != 0) = true := by rw [bne_iff_ne]; omega
    clear hr
    go_enter Try.func42, Try.ntmps42
    go_wp2_with fail
    ((with_reducible refine HC.out.mono ?_); rintro e' w2 ⟨rfl, hb2⟩)
    clear HC
    go_wp2
    go_ret3
    exact IsPG.none_b HE.out rfl rfl hb2
  · have HE := Lib.hid (Pk.getE_on hr)
    rw [hr] at HC
    have HGC : Hid (∀ k : Nat, (∃ e, 2 ≤ e ∧ e ≤ 5 ∧ Mt.get b (k : Int) = (0, 0, e)) ∨ (∃ u j, u < 18446744073709551616 ∧ j ≤ b.length ∧ Mt.get b (k : Int) = (u, j, 0))) := fun k => by
      rcases Mt.get_cases hlt8 (k : Int) with h | ⟨k', u, r', _, _, h3, _, h5, h6⟩
      · exact .inl h
      · exact .inr ⟨u, _, h3, h5, h6⟩
    have HRG : Hid (∀ (k : Nat) w', Below w.heap.size w w' → Calls Try.prog 58 #[.slice A b.length c, .int .i64 (k : Nat)] w' (IsGot (Mt.get b (k : Nat)) w')) := fun k w' hb' => rget_any _ b B _ w' (H0.out.below_ hb' hB)
    obtain ⟨k1, hk1⟩ : ∃ k1, k0 + (Mt.put n).length = k1 := ⟨_, rfl⟩
    rw [hk1] at HC HE hle
    clear hr hk1 hs hbn hlt8
    go_enter Try.func42, Try.ntmps42
    go_wp2_with fail
    ((with_reducible refine HC.out.mono ?_); rintro e' w2 ⟨rfl, hb2⟩)
    have HB2 := Lib.hid hb2
    simp only [Int.natCast_zero]
    clear HC hb2
    go_wp2
    go_loopw [8, 10, 11, 12, 13, 14, 15, 16] (fun nx vo ws i _ _ _ _ wr => ∃ (i0 k : Nat) (y : List Int) (was : Int), i0 ≤ n ∧ nx = .int .i64 (k : Nat) ∧ i = .int .i64 (i0 : Nat) ∧ ws = .int .i64 was ∧ Hid (Pk.getE b (k0 : Int) = Pk.getL b (n - i0) y k) ∧ Hid (y.length = i0 ∧ was = y.getLastD 0 ∧ Pk.Tok was) ∧ Hid (OwnL iK wr w.heap.size vo y) ∧ Below w.heap.size w wr) (fun _ _ _ i _ _ _ _ _ => n - (intOf i).toNat)
    case atStart => exact ⟨0, k1, [], 0, by omega, rfl, rfl, rfl, HE.out, ⟨rfl, rfl, by unfold Pk.Tok; omega⟩, OwnL.nil_ _ _ _, HB2.out⟩
    case round =>
      obtain ⟨i0, k, y, was, hi0, rfl, rfl, rfl, HG, HY, HO, hbr⟩ := hrel
      have hbase : w.heap.size ≤ wr.heap.size := hbr.size
      clear HB2 HE
      by_cases hlt : i0 < n
      · have hki : (i0 : Int) < (n : Int) := by omega
        have wk : IntKind.i64.wrap ((i0 : Int) + 1) = (i0 : Int) + 1 := by rw [IntKind.wrap_i64]; omega
        have HX := Lib.hid (HRG.out k wr hbr)
        obtain ⟨n', hn'⟩ : ∃ n', n - i0 = n' + 1 := ⟨n - i0 - 1, by omega⟩
        rw [hn'] at HG
        rcases HGC.out k with ⟨e, he2, he5, hg⟩ | ⟨u, j, hu, hj, hg⟩
        · have HE := Lib.hid (HG.out.trans (Pk.getL_err HY.out.2.1 (Pk.next_err hg (by omega)) (by omega)))
          rw [hg] at HX
          have hq : ((e : Int) != 0) = true := by rw [bne_iff_ne]; omega
          clear hg HG HY HO
          go_wp2_with fail
          ((with_reducible refine HX.out.mono ?_); rintro e' w3 ⟨rfl, hb3⟩)
          have HB3 := Lib.hid (hbr.trans (hb3.mono hbase))
          clear HX hb3 hbr
          go_wp2
          go_ret3
          exact IsPG.none_b HE.out rfl rfl HB3.out
        · rw [hg] at HX
          have HU : Hid (∀ w', Calls Try.prog 59 #[.int .u64 (u : Nat)] w' (fun e w'' => e = .returned (.int .i64 (Pk.unfold u)) ∧ w' = w'')) := fun w' => runfold_any u hu w'
          have hui := Pk.unfold_i64 hu
          have htw := HY.out.2.2
          obtain ⟨d, hd⟩ : ∃ d, Pk.unfold u = d := ⟨_, rfl⟩
          rw [hd] at HU hui
          have w1 : IntKind.i64.wrap (-was) = -was := by unfold Pk.Tok at htw; rw [IntKind.wrap_i64]; omega
          have w2' : IntKind.i64.wrap (1048575 - was) = 1048575 - was := by unfold Pk.Tok at htw; rw [IntKind.wrap_i64]; omega
          by_cases hf : d < -was ∨ 1048575 - was < d
          · have HE := Lib.hid (HG.out.trans (Pk.getL_err HY.out.2.1 (Pk.next_form hg (by rw [hd]; exact hf)) (by omega)))
            clear hg HG HY HO htw hui
            by_cases hf1 : d < -was
            · clear hf
              go_wp2_with fail
              ((with_reducible refine HX.out.mono ?_); rintro e' w3 ⟨rfl, hb3⟩)
              simp only [Int.natCast_zero]
              have HB3 := Lib.hid (hbr.trans (hb3.mono hbase))
              clear HX hb3 hbr
              go_wp2_with fail
              ((with_reducible refine (HU.out w3).mono ?_); rintro e' w4 ⟨rfl, rfl⟩)
              go_wp2
              go_ret3
              exact IsPG.none_b HE.out rfl rfl HB3.out
            · have hf2 : 1048575 - was < d := by omega
              clear hf
              go_wp2_with fail
              ((with_reducible refine HX.out.mono ?_); rintro e' w3 ⟨rfl, hb3⟩)
              simp only [Int.natCast_zero]
              have HB3 := Lib.hid (hbr.trans (hb3.mono hbase))
              clear HX hb3 hbr
              go_wp2_with fail
              ((with_reducible refine (HU.out w3).mono ?_); rintro e' w4 ⟨rfl, rfl⟩)
              go_wp2
              go_ret3
              exact IsPG.none_b HE.out rfl rfl HB3.out
          · have hf1 : ¬ d < -was := by omega
            have hf2 : ¬ 1048575 - was < d := by omega
            have w3' : IntKind.i64.wrap (was + d) = was + d := by unfold Pk.Tok at htw; rw [IntKind.wrap_i64]; omega
            have HTK : Hid (Pk.Tok (was + d)) := by unfold Pk.Tok at htw; unfold Hid Pk.Tok; omega
            have HG2 : Hid (Pk.getE b (k0 : Int) = Pk.getL b (n - (i0 + 1)) (y ++ [was + d]) j) := by
              have h1 := Pk.getL_ok (n := n') HY.out.2.1 (Pk.next_ok hg (by rw [hd]; exact hf))
              rw [hd] at h1
              have h2 : n - (i0 + 1) = n' := by omega
              unfold Hid
              rw [h2]
              exact HG.out.trans h1
            have HYL := HY.out.1
            clear hg HG htw hui hf HY
            go_wp2_with fail
            ((with_reducible refine HX.out.mono ?_); rintro e' w3 ⟨rfl, hb3⟩)
            simp only [Int.natCast_zero]
            have HB3 := Lib.hid (hbr.trans (hb3.mono hbase))
            have HO3 := Lib.hid (HO.out.below_ hb3 (Nat.le_refl _))
            have hbase3 : w.heap.size ≤ w3.heap.size := HB3.out.size
            have HKx : Hid (I64 (was + d)) := by have h := HTK.out; unfold Pk.Tok at h; unfold Hid I64; omega
            clear HX hb3 hbr HO
            go_wp2_with fail
            ((with_reducible refine (HU.out w3).mono ?_); rintro e' w4 ⟨rfl, rfl⟩)
            go_wp2_with (at_builtin; go_must (refine wpList_push_l _ iK rfl _ _ rfl w.heap.size _ rfl y HO3.out rfl (was + d) HKx.out _ rfl _ rfl (by show _ * 8 ≤ _; omega) (by simp only [maxLen]; omega) hbase3 ?_; intro A3 c3 w5 hA hG))
            go_roundw
            case rel => exact ⟨i0 + 1, j, y ++ [was + d], was + d, by omega, rfl, by go_num, rfl, HG2.out, ⟨by simp [HYL], (Pk.getLastD_snoc _ _ _).symm, HTK.out⟩, (by have h := hA; rw [HYL] at h; exact h), HB3.out.grown hG hbase3 (fun k hk => (HO3.out.lt_ k hk).1)⟩
            case measure => simp [intOf]; omega
      · have hki : ¬ (i0 : Int) < (n : Int) := by omega
        have HE : Hid (Pk.getE b (k0 : Int) = (y, k, 0)) := by
          have h0 : n - i0 = 0 := by omega
          unfold Hid
          rw [HG.out, h0]
          rfl
        clear HG HY
        go_wp2
        go_ret3
        exact IsPG.of HE.out rfl HO.out hbr
end Go.Proofs.Ytkialijipcbgkaa
