/-
  RGet: stookref01.Get answers what reading a number tells.
  MathC: Plain mathematics of chapter 1 (leb): what reading a number can tell.
  MathE: Plain mathematics of chapter 1 (leb): a count, and a counted row.
-/
import Derived.Test.YtlefkaoibokjdaaPc07
import Derived.Test.YtlefkaoibokjdaaPc01
namespace Go.Proofs.Ytlefkaoibokjdaa
open Go.RowKit
set_option linter.unusedVariables false

set_option maxHeartbeats 400000 in
theorem rget_arg (A : Option Addr) (l : List Nat) (cap : Nat) (a : Int) (w : World) (hlen : l.length ≤ maxLen) (h : a < 0 ∨ (l.length : Int) < a) :
    Calls Try.prog 69 #[.slice A l.length cap, .int .i64 a] w (IsGot (Mt.get l a) w) := by
  have HR := Lib.hid (Mt.get_arg h)
  unfold maxLen at hlen
  by_cases h1 : a < 0
  · clear h
    go_enter Try.func69, Try.ntmps69
    go_wp2
    go_ret3
    exact IsGot.of HR.out (Below.refl _ _)
  · have h2 : (l.length : Int) < a := by omega
    clear h
    go_enter Try.func69, Try.ntmps69
    go_wp2
    go_ret3
    exact IsGot.of HR.out (Below.refl _ _)

theorem horner_step (V d : Nat) (h : d % 128 + 128 * V < 18446744073709551616) :
    IntKind.u64.wrap (IntKind.u64.wrap (128 * (V : Int)) + ((d : Int) % 128)) = ((d % 128 + 128 * V : Nat) : Int) := by
  rw [IntKind.wrap_u64, IntKind.wrap_u64]
  omega

set_option maxHeartbeats 2000000 in
set_option maxRecDepth 100000 in
theorem rget_some (A : Option Addr) (l : List Nat) (cap B a : Nat) (w : World) (hlen : l.length ≤ cap) (hcap : cap ≤ maxLen) (ha : a ≤ l.length) (hl : Bts w B A l) :
    Calls Try.prog 69 #[.slice A l.length cap, .int .i64 a] w (IsGot (Mt.get l a) w) := by
  unfold maxLen at hcap
  have HL := Lib.hid hl
  clear hl
  go_enter Try.func69, Try.ntmps69
  go_wp2
  go_loop [7] (fun i => ∃ k : Nat, k ≤ 9 ∧ a + k ≤ l.length ∧ i = .int .i64 k ∧ Hid (Mt.rd 0 0 (l.drop a) = Mt.rd k (Mt.val ((l.drop a).take k)) (l.drop (a + k)))) (fun i => l.length - (intOf i).toNat)
  case atStart => exact ⟨0, by omega, by omega, rfl, by simp [Hid, Mt.val]⟩
  case round =>
    obtain ⟨k, hk9, hk, rfl, HR⟩ := hrel
    by_cases hin : a + k < l.length
    · obtain ⟨b, off, c, rfl, hb, hc, hd, hcell⟩ := HL.out.at_ hin
      have hd2 := Mt.drop_byte hd
      by_cases hgo : k < 9 ∧ 128 ≤ c
      · obtain ⟨h9, hc128⟩ := hgo
        have HE := Lib.hid (Mt.rd_take (by rw [List.drop_drop]; exact HR.out) hd2 (by omega) hc128)
        rw [List.drop_drop] at HE
        clear hd2 HR hd
        go_wp2
        exact ⟨⟨k + 1, by omega, by omega, by simp, HE⟩, by simp [intOf]; omega⟩
      · have hlast : Hid (Mt.rd 0 0 (l.drop a) = Mt.rd k (Mt.val ((l.drop a).take k)) (c :: l.drop (a + k + 1))) := by unfold Hid; rw [HR.out, hd]
        clear HR hd
        by_cases hf : (k = 9 ∧ 1 < c) ∨ (0 < k ∧ c = 0)
        · have HE := Lib.hid (hlast.out.trans (Mt.rd_form hf))
          clear hlast hd2
          by_cases h9 : k < 9
          · have hk0 : 0 < k := by omega
            obtain rfl : c = 0 := by omega
            clear hf hgo
            go_wp2
            go_ret3
            exact IsGot.of (Mt.get_err ha HE.out (by decide)) (Below.refl _ _)
          · have h9' : 8 < k := by omega
            by_cases hc1 : 1 < c
            · clear hf hgo h9
              go_wp2
              go_ret3
              exact IsGot.of (Mt.get_err ha HE.out (by decide)) (Below.refl _ _)
            · obtain rfl : c = 0 := by omega
              have hk0 : 0 < k := by omega
              clear hf hgo h9 hc1
              go_wp2
              go_ret3
              exact IsGot.of (Mt.get_err ha HE.out (by decide)) (Below.refl _ _)
        · have hc1 : c < 128 := by omega
          have HE := Lib.hid (hlast.out.trans (Mt.rd_last (by omega) hc1))
          have HSM := Lib.hid (Mt.val_small hd2 hk9 hc1 (by omega))
          clear hlast
          by_cases h9 : k < 9
          · by_cases hk0 : k < 1
            · clear hf hgo
              go_wp2
              go_loop [9, 10] (fun v i => ∃ (z : Int) (j V : Nat), Hid (z + 1 = (j : Int)) ∧ -1 ≤ z ∧ z ≤ k ∧ i = .int .i64 z ∧ v = .int .u64 V ∧ Hid (V = Mt.val (((l.drop a).take (k + 1)).drop j))) (fun _ i => (intOf i + 1).toNat)
              case atStart => exact ⟨(k : Int), k + 1, 0, by simp [Hid], by omega, by omega, rfl, rfl, by unfold Hid; rw [List.drop_of_length_le (by rw [List.length_take]; omega)]; rfl⟩
              case round =>
                obtain ⟨z, j, V, HJ, hz1, hz2, rfl, rfl, HV⟩ := hrel
                by_cases hz : 0 ≤ z
                · obtain ⟨p, rfl⟩ := Int.eq_ofNat_of_zero_le hz
                  have hj : j = p + 1 := by have := HJ.out; omega
                  subst hj
                  have hpk : p ≤ k := by omega
                  have hinp : a + p < l.length := by omega
                  obtain ⟨b2, off2, d, e2, _, hdd, hd3, hcell2⟩ := HL.out.at_ hinp
                  injection e2 with e2
                  injection e2 with e3 e4
                  subst e3 e4
                  have hS : (((l.drop a).take (k + 1)).drop p) = d :: ((l.drop (a + p + 1)).take (k - p)) := by
                    rw [List.drop_take, Mt.drop_byte hd3]
                    have e5 : k + 1 - p = (k - p) + 1 := by omega
                    rw [e5]; rfl
                  have HN : Hid (Mt.val (((l.drop a).take (k + 1)).drop p) = d % 128 + 128 * V) := by unfold Hid; rw [Mt.horner hS, HV.out]
                  have hle := Mt.val_drop ((l.drop a).take (k + 1)) p
                  have HW := Lib.hid (horner_step V d (by have h1 := HN.out; have h2 := HSM.out; omega))
                  clear hd3 hS hle HV
                  go_wp2
                  exact ⟨⟨(p : Int) - 1, p, d % 128 + 128 * V, by unfold Hid; omega, by omega, by omega, rfl, by rw [HW.out], by unfold Hid; rw [HN.out]⟩, by simp [intOf]⟩
                · have hz0 : z = -1 := by omega
                  subst hz0
                  have hj : j = 0 := by have := HJ.out; omega
                  subst hj
                  have HF : Hid (V = Mt.val ((l.drop a).take k) + c * 128 ^ k) := by
                    unfold Hid; rw [HV.out, List.drop_zero, Mt.val_take hd2, Nat.mod_eq_of_lt hc1]
                  clear HV HJ
                  go_wp2
                  go_ret3
                  rw [HF.out]
                  exact IsGot.of (Mt.get_ok ha HE.out) (Below.refl _ _)
            · have hc0 : 0 < c := by omega
              have hcb : ((c : Int) == 0) = false := by rw [beq_eq_false_iff_ne]; omega
              have hk0' : 0 < k := by omega
              clear hf hgo hk0
              go_wp2
              go_loop [9, 10] (fun v i => ∃ (z : Int) (j V : Nat), Hid (z + 1 = (j : Int)) ∧ -1 ≤ z ∧ z ≤ k ∧ i = .int .i64 z ∧ v = .int .u64 V ∧ Hid (V = Mt.val (((l.drop a).take (k + 1)).drop j))) (fun _ i => (intOf i + 1).toNat)
              case atStart => exact ⟨(k : Int), k + 1, 0, by simp [Hid], by omega, by omega, rfl, rfl, by unfold Hid; rw [List.drop_of_length_le (by rw [List.length_take]; omega)]; rfl⟩
              case round =>
                obtain ⟨z, j, V, HJ, hz1, hz2, rfl, rfl, HV⟩ := hrel
                by_cases hz : 0 ≤ z
                · obtain ⟨p, rfl⟩ := Int.eq_ofNat_of_zero_le hz
                  have hj : j = p + 1 := by have := HJ.out; omega
                  subst hj
                  have hpk : p ≤ k := by omega
                  have hinp : a + p < l.length := by omega
                  obtain ⟨b2, off2, d, e2, _, hdd, hd3, hcell2⟩ := HL.out.at_ hinp
                  injection e2 with e2
                  injection e2 with e3 e4
                  subst e3 e4
                  have hS : (((l.drop a).take (k + 1)).drop p) = d :: ((l.drop (a + p + 1)).take (k - p)) := by
                    rw [List.drop_take, Mt.drop_byte hd3]
                    have e5 : k + 1 - p = (k - p) + 1 := by omega
                    rw [e5]; rfl
                  have HN : Hid (Mt.val (((l.drop a).take (k + 1)).drop p) = d % 128 + 128 * V) := by unfold Hid; rw [Mt.horner hS, HV.out]
                  have hle := Mt.val_drop ((l.drop a).take (k + 1)) p
                  have HW := Lib.hid (horner_step V d (by have h1 := HN.out; have h2 := HSM.out; omega))
                  clear hd3 hS hle HV
                  go_wp2
                  exact ⟨⟨(p : Int) - 1, p, d % 128 + 128 * V, by unfold Hid; omega, by omega, by omega, rfl, by rw [HW.out], by unfold Hid; rw [HN.out]⟩, by simp [intOf]⟩
                · have hz0 : z = -1 := by omega
                  subst hz0
                  have hj : j = 0 := by have := HJ.out; omega
                  subst hj
                  have HF : Hid (V = Mt.val ((l.drop a).take k) + c * 128 ^ k) := by
                    unfold Hid; rw [HV.out, List.drop_zero, Mt.val_take hd2, Nat.mod_eq_of_lt hc1]
                  clear HV HJ
                  go_wp2
                  go_ret3
                  rw [HF.out]
                  exact IsGot.of (Mt.get_ok ha HE.out) (Below.refl _ _)
          · have h9' : 8 < k := by omega
            have hc0 : 0 < c := by omega
            have hcb : ((c : Int) == 0) = false := by rw [beq_eq_false_iff_ne]; omega
            have hc2 : c < 2 := by omega
            clear hf hgo h9
            go_wp2
            obtain rfl : k = 9 := by omega
            go_loop [9, 10] (fun v i => ∃ (z : Int) (j V : Nat), Hid (z + 1 = (j : Int)) ∧ -1 ≤ z ∧ z ≤ (9 : Nat) ∧ i = .int .i64 z ∧ v = .int .u64 V ∧ Hid (V = Mt.val (((l.drop a).take ((9 : Nat) + 1)).drop j))) (fun _ i => (intOf i + 1).toNat)
            case atStart => exact ⟨((9 : Nat) : Int), (9 : Nat) + 1, 0, by simp [Hid], by omega, by omega, rfl, rfl, by unfold Hid; rw [List.drop_of_length_le (by rw [List.length_take]; omega)]; rfl⟩
            case round =>
              obtain ⟨z, j, V, HJ, hz1, hz2, rfl, rfl, HV⟩ := hrel
              by_cases hz : 0 ≤ z
              · obtain ⟨p, rfl⟩ := Int.eq_ofNat_of_zero_le hz
                have hj : j = p + 1 := by have := HJ.out; omega
                subst hj
                have hpk : p ≤ (9 : Nat) := by omega
                have hinp : a + p < l.length := by omega
                obtain ⟨b2, off2, d, e2, _, hdd, hd3, hcell2⟩ := HL.out.at_ hinp
                injection e2 with e2
                injection e2 with e3 e4
                subst e3 e4
                have hS : (((l.drop a).take ((9 : Nat) + 1)).drop p) = d :: ((l.drop (a + p + 1)).take ((9 : Nat) - p)) := by
                  rw [List.drop_take, Mt.drop_byte hd3]
                  have e5 : (9 : Nat) + 1 - p = ((9 : Nat) - p) + 1 := by omega
                  rw [e5]; rfl
                have HN : Hid (Mt.val (((l.drop a).take ((9 : Nat) + 1)).drop p) = d % 128 + 128 * V) := by unfold Hid; rw [Mt.horner hS, HV.out]
                have hle := Mt.val_drop ((l.drop a).take ((9 : Nat) + 1)) p
                have HW := Lib.hid (horner_step V d (by have h1 := HN.out; have h2 := HSM.out; omega))
                clear hd3 hS hle HV
                go_wp2
                exact ⟨⟨(p : Int) - 1, p, d % 128 + 128 * V, by unfold Hid; omega, by omega, by omega, rfl, by rw [HW.out], by unfold Hid; rw [HN.out]⟩, by simp [intOf]⟩
              · have hz0 : z = -1 := by omega
                subst hz0
                have hj : j = 0 := by have := HJ.out; omega
                subst hj
                have HF : Hid (V = Mt.val ((l.drop a).take (9 : Nat)) + c * 128 ^ (9 : Nat)) := by
                  unfold Hid; rw [HV.out, List.drop_zero, Mt.val_take hd2, Nat.mod_eq_of_lt hc1]
                clear HV HJ
                go_wp2
                go_ret3
                rw [HF.out]
                exact IsGot.of (Mt.get_ok ha HE.out) (Below.refl _ _)
    · have hk0 : a + k = l.length := by omega
      have HE : Hid (Mt.rd 0 0 (l.drop a) = (0, 0, 4)) := by unfold Hid; rw [HR.out, hk0]; simp [Mt.rd_nil]
      have hkk : l.length ≤ a + k := by omega
      have hq : ((a : Int) + (k : Int) == ((l.length : Nat) : Int)) = true := by rw [beq_iff_eq]; omega
      clear HR HL hk0
      by_cases h9 : k < 9
      · go_wp2
        go_ret3
        exact IsGot.of (Mt.get_err ha HE.out (by decide)) (Below.refl _ _)
      · go_wp2
        go_ret3
        exact IsGot.of (Mt.get_err ha HE.out (by decide)) (Below.refl _ _)

theorem rget_any (v : Value) (l : List Nat) (B : Nat) (a : Int) (w : World) (h : Bv w B v l) :
    Calls Try.prog 69 #[v, .int .i64 a] w (IsGot (Mt.get l a) w) := by
  obtain ⟨A, c, rfl, h1, h2, h3, h4⟩ := h
  by_cases ha : a < 0 ∨ (l.length : Int) < a
  · exact rget_arg A l c a w (by omega) ha
  · obtain ⟨k, rfl⟩ := Int.eq_ofNat_of_zero_le (show 0 ≤ a by omega)
    exact rget_some A l c B k w h1 h2 (by omega) h4
end Go.Proofs.Ytlefkaoibokjdaa
namespace Go.Proofs.Ytlefkaoibokjdaa.Mt
theorem rd_cases (f : Nat) : ∀ (i X : Nat) (s : List Nat), i + f = 9 → (∃ n k, rd i X s = (n, k, 0)) ∨ rd i X s = (0, 0, 4) ∨ rd i X s = (0, 0, 5) := by
  induction f with
  | zero =>
    intro i X s hi
    cases s with
    | nil => right; left; rfl
    | cons c r =>
      rw [rd]
      split
      · right; right; rfl
      · rw [if_pos (by omega)]; left; exact ⟨_, _, rfl⟩
  | succ f ih =>
    intro i X s hi
    cases s with
    | nil => right; left; rfl
    | cons c r =>
      rw [rd]
      split
      · right; right; rfl
      · by_cases h : c < 128
        · rw [if_pos h]; left; exact ⟨_, _, rfl⟩
        · rw [if_neg h]; exact ih (i + 1) _ r (by omega)

theorem get_cases {l : List Nat} (hl : ∀ x ∈ l, x < 256) (a : Int) :
    (∃ e, 2 ≤ e ∧ e ≤ 5 ∧ get l a = (0, 0, e)) ∨
    (∃ (k n : Nat) (r : List Nat), a = (k : Int) ∧ k < l.length ∧ B64 n ∧ l.drop k = put n ++ r ∧ k + (put n).length ≤ l.length ∧ get l a = (n, k + (put n).length, 0)) := by
  by_cases h : a < 0 ∨ (l.length : Int) < a
  · exact .inl ⟨2, by omega, by omega, get_arg h⟩
  · obtain ⟨k, rfl⟩ := Int.eq_ofNat_of_zero_le (show 0 ≤ a by omega)
    have hk : k ≤ l.length := by omega
    rcases rd_cases 9 0 0 (l.drop k) rfl with ⟨n, m, hr⟩ | hr | hr
    · obtain ⟨hb, hm, r, hs⟩ := rd_ok (fun x hx => hl x (List.mem_of_mem_drop hx)) hr
      have hlen := congrArg List.length hs
      have hp := put_len_pos n
      rw [List.length_drop, List.length_append] at hlen
      refine .inr ⟨k, n, r, rfl, by omega, hb, hs, by omega, ?_⟩
      rw [get_ok hk hr, hm]
    · exact .inl ⟨4, by omega, by omega, get_err hk hr (by decide)⟩
    · exact .inl ⟨5, by omega, by omega, get_err hk hr (by decide)⟩
end Go.Proofs.Ytlefkaoibokjdaa.Mt
namespace Go.Proofs.Ytlefkaoibokjdaa.Mt
def count (l : List Nat) (a most : Int) : Nat × Nat × Nat :=
  if (get l a).2.2 ≠ 0 then (0, 0, (get l a).2.2) else if most < 0 ∨ most < ((get l a).1 : Nat) then (0, 0, 3) else get l a
theorem count_err {l : List Nat} {a most : Int} {e : Nat} (h : get l a = (0, 0, e)) (he : e ≠ 0) : count l a most = (0, 0, e) := by unfold count; rw [h, if_pos he]
theorem count_lim {l : List Nat} {a most : Int} {n k : Nat} (h : get l a = (n, k, 0)) (hm : most < 0 ∨ most < (n : Int)) : count l a most = (0, 0, 3) := by unfold count; rw [h, if_neg (by simp), if_pos hm]
theorem count_ok {l : List Nat} {a most : Int} {n k : Nat} (h : get l a = (n, k, 0)) (hm : ¬ (most < 0 ∨ most < (n : Int))) : count l a most = (n, k, 0) := by unfold count; rw [h, if_neg (by simp), if_neg hm]

theorem count_cases {l : List Nat} (hl : ∀ x ∈ l, x < 256) (a most : Int) :
    (∃ e, 2 ≤ e ∧ e ≤ 5 ∧ count l a most = (0, 0, e)) ∨
    (∃ (k n : Nat) (r : List Nat), a = (k : Int) ∧ k < l.length ∧ B64 n ∧ l.drop k = put n ++ r ∧ k + (put n).length ≤ l.length ∧ count l a most = (n, k + (put n).length, 0) ∧ (n : Int) ≤ most) := by
  rcases get_cases hl a with ⟨e, h1, h2, h3⟩ | ⟨k, n, r, h1, h2, h3, h4, h5, h6⟩
  · exact .inl ⟨e, h1, h2, count_err h3 (by omega)⟩
  · by_cases hm : most < 0 ∨ most < (n : Int)
    · exact .inl ⟨3, by omega, by omega, count_lim h6 hm⟩
    · exact .inr ⟨k, n, r, h1, h2, h3, h4, h5, count_ok h6 hm, by omega⟩

def getRow (l : List Nat) (a most : Int) : List Nat × Nat × Nat :=
  if (count l a most).2.2 ≠ 0 then ([], 0, (count l a most).2.2)
  else if l.length - (count l a most).2.1 < (count l a most).1 then ([], 0, 4)
  else ((l.drop (count l a most).2.1).take (count l a most).1, (count l a most).2.1 + (count l a most).1, 0)
theorem getRow_err {l : List Nat} {a most : Int} {e : Nat} (h : count l a most = (0, 0, e)) (he : e ≠ 0) : getRow l a most = ([], 0, e) := by unfold getRow; rw [h, if_pos he]
theorem getRow_short {l : List Nat} {a most : Int} {n k : Nat} (h : count l a most = (n, k, 0)) (hm : l.length - k < n) : getRow l a most = ([], 0, 4) := by unfold getRow; rw [h, if_neg (by simp), if_pos hm]
theorem getRow_ok {l : List Nat} {a most : Int} {n k : Nat} (h : count l a most = (n, k, 0)) (hm : ¬ l.length - k < n) : getRow l a most = ((l.drop k).take n, k + n, 0) := by unfold getRow; rw [h, if_neg (by simp), if_neg hm]
end Go.Proofs.Ytlefkaoibokjdaa.Mt
