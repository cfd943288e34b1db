/-
  CMathB: Plain mathematics of chapter 2 (crc), more: a row of which up to four bytes that stand side by side are changed. No Go in sight.
  CStep: crc.Step and the document's Step: one step of a sum.
  CTake: crc.Take and the document's Take: a byte taken in, and its eight steps.
-/
import Derived.Test.YtoefogmjekcbeaaPk04
import Derived.Test.YtoefogmjekcbeaaProg
import Derived.WalkKit
import Derived.Outline
import Derived.Lib.Hide
namespace Go.Proofs.Ytoefogmjekcbeaa.Cr

/-- Byte i of a number. -/
def byt (n i : Nat) : Nat := n / 2 ^ (8 * i) % 256
theorem byt_lt (n i : Nat) : byt n i < 256 := by unfold byt; omega
theorem xor_byte_lt {a b : Nat} (ha : a < 256) (hb : b < 256) : a ^^^ b < 256 := Nat.xor_lt_two_pow (n := 8) ha hb
/-- The row, of whose bytes from place p on k are changed by a number's. -/
def turnd (l : List Nat) (p n : Nat) : Nat → List Nat
  | 0 => l
  | k + 1 => (turnd l p n k).set (p + k) ((turnd l p n k).getD (p + k) 0 ^^^ byt n k)
/-- Whether the first k bytes of a number are 0. -/
def zer (n : Nat) : Nat → Bool
  | 0 => true
  | k + 1 => zer n k && (byt n k == 0)
theorem turnd_zero (l : List Nat) (p n : Nat) : turnd l p n 0 = l := rfl
theorem turnd_succ (l : List Nat) (p n k : Nat) : turnd l p n (k + 1) = (turnd l p n k).set (p + k) ((turnd l p n k).getD (p + k) 0 ^^^ byt n k) := rfl
theorem zer_succ (n k : Nat) : zer n (k + 1) = (zer n k && (byt n k == 0)) := rfl
theorem turnd_len (l : List Nat) (p n k : Nat) : (turnd l p n k).length = l.length := by
  induction k with
  | zero => rfl
  | succ k ih => rw [turnd_succ, List.length_set, ih]
theorem turnd_lt {l : List Nat} (hl : ∀ x ∈ l, x < 256) (p n k : Nat) : ∀ x ∈ turnd l p n k, x < 256 := by
  induction k with
  | zero => exact hl
  | succ k ih =>
    intro x hx
    rw [turnd_succ] at hx
    rcases List.mem_or_eq_of_mem_set hx with h | rfl
    · exact ih x h
    · refine xor_byte_lt ?_ (byt_lt n k)
      rw [List.getD_eq_getElem?_getD]
      cases h : (turnd l p n k)[p + k]? with
      | none => simp
      | some y => exact ih y (List.mem_of_getElem? h)
theorem turnd_at (l : List Nat) (p n k : Nat) (h : p + k ≤ l.length) : ∀ i : Nat, (turnd l p n k)[i]? = if p ≤ i ∧ i < p + k then some (l.getD i 0 ^^^ byt n (i - p)) else l[i]? := by
  induction k with
  | zero => intro i; rw [if_neg (by omega), turnd_zero]
  | succ k ih =>
    intro i
    have ih' := ih (by omega)
    have hk : (turnd l p n k).getD (p + k) 0 = l.getD (p + k) 0 := by
      rw [List.getD_eq_getElem?_getD, ih' (p + k), if_neg (by omega), List.getD_eq_getElem?_getD]
    rw [turnd_succ, hk, List.getElem?_set, turnd_len]
    by_cases hi : p + k = i
    · subst hi
      rw [if_pos rfl, if_pos (by omega), if_pos (by omega)]
      have : p + k - p = k := by omega
      rw [this]
    · rw [if_neg hi, ih' i]
      by_cases h1 : p ≤ i ∧ i < p + k
      · rw [if_pos h1, if_pos (by omega)]
      · rw [if_neg h1, if_neg (by omega)]
theorem zer_iff (n k : Nat) : zer n k = true ↔ ∀ j, j < k → byt n j = 0 := by
  induction k with
  | zero => simp [zer]
  | succ k ih =>
    rw [zer_succ, Bool.and_eq_true, ih, beq_iff_eq]
    constructor
    · rintro ⟨h1, h2⟩ j hj
      by_cases h : j = k
      · subst h; exact h2
      · exact h1 j (by omega)
    · intro h
      exact ⟨fun j hj => h j (by omega), h k (by omega)⟩
theorem turnd_eq {l : List Nat} {p n k : Nat} (h : p + k ≤ l.length) : turnd l p n k = l ↔ zer n k = true := by
  rw [zer_iff]
  constructor
  · intro e j hj
    have h1 := turnd_at l p n k h (p + j)
    rw [e, if_pos (by omega), List.getElem?_eq_getElem (by omega), List.getD_eq_getElem?_getD, List.getElem?_eq_getElem (by omega)] at h1
    have h2 := Option.some.inj h1
    have e3 : p + j - p = j := by omega
    rw [e3] at h2
    simp only [Option.getD_some] at h2
    have h4 : l[p + j] ^^^ l[p + j] = l[p + j] ^^^ (l[p + j] ^^^ byt n j) := congrArg (l[p + j] ^^^ ·) h2
    rw [← Nat.xor_assoc, Nat.xor_self, Nat.zero_xor] at h4
    exact h4.symm
  · intro hz
    apply List.ext_getElem?
    intro i
    rw [turnd_at l p n k h i]
    by_cases h1 : p ≤ i ∧ i < p + k
    · rw [if_pos h1, hz _ (by omega), Nat.xor_zero, List.getD_eq_getElem?_getD, List.getElem?_eq_getElem (by omega)]; rfl
    · rw [if_neg h1]
theorem parts_eq (l : List Nat) (p k : Nat) : l = l.take p ++ (l.drop p).take k ++ l.drop (p + k) := by
  rw [List.append_assoc, ← List.drop_drop, List.take_append_drop, List.take_append_drop]
/-- Rows of one length, alike outside of four places: their sums are alike just where they are. -/
theorem of_near {l m : List Nat} (hl : ∀ x ∈ l, x < 256) (hm : ∀ x ∈ m, x < 256) (hlen : l.length = m.length) {p k : Nat} (h4 : k ≤ 4) (ha : l.take p = m.take p) (hb : l.drop (p + k) = m.drop (p + k)) : of l = of m ↔ l = m := by
  constructor
  · intro h
    rw [parts_eq l p k, parts_eq m p k, ← ha, ← hb] at h
    have h1 := (of_burst (fun x hx => hl x (List.mem_of_mem_drop (List.mem_of_mem_take hx))) (fun x hx => hm x (List.mem_of_mem_drop (List.mem_of_mem_take hx))) (fun x hx => hl x (List.mem_of_mem_drop hx)) (fun x hx => hl x (List.mem_of_mem_take hx)) (by simp [hlen]) (by simp; omega)).1 h
    rw [parts_eq l p k, parts_eq m p k, ha, hb, h1]
  · intro h; rw [h]
theorem of_turnd {l : List Nat} (hl : ∀ x ∈ l, x < 256) {p n k : Nat} (h : p + k ≤ l.length) (h4 : k ≤ 4) : of l = of (turnd l p n k) ↔ zer n k = true := by
  rw [of_near hl (turnd_lt hl p n k) (turnd_len l p n k).symm (p := p) h4 ?_ ?_, ← turnd_eq h]
  · exact ⟨fun e => e.symm, fun e => e.symm⟩
  · apply List.ext_getElem?
    intro i
    rw [List.getElem?_take, List.getElem?_take, turnd_at l p n k h i]
    by_cases h1 : i < p
    · rw [if_pos h1, if_pos h1, if_neg (by omega)]
    · rw [if_neg h1, if_neg h1]
  · apply List.ext_getElem?
    intro i
    rw [List.getElem?_drop, List.getElem?_drop, turnd_at l p n k h, if_neg (by omega)]
/-- The first k bytes of three rows put against one another. -/
def tri (a b c : List Nat) (k : Nat) : List Nat := against (against (a.take k) (b.take k)) (c.take k)
theorem tri_zero (a b c : List Nat) : tri a b c 0 = [] := by simp [tri, against]
theorem take_snoc {l : List Nat} {k x : Nat} (h : l.drop k = x :: l.drop (k + 1)) : l.take (k + 1) = l.take k ++ [x] := by
  rw [List.take_add (l := l) (i := k) (j := 1), h]; rfl
theorem drop_lt {l : List Nat} {k x : Nat} (h : l.drop k = x :: l.drop (k + 1)) : k < l.length := by
  rcases Nat.lt_or_ge k l.length with h1 | h1
  · exact h1
  · rw [List.drop_eq_nil_of_le h1] at h; cases h
theorem tri_succ {a b c : List Nat} {k x y z : Nat} (ha : a.drop k = x :: a.drop (k + 1)) (hb : b.drop k = y :: b.drop (k + 1)) (hc : c.drop k = z :: c.drop (k + 1)) : tri a b c (k + 1) = tri a b c k ++ [x ^^^ y ^^^ z] := by
  have h1 := drop_lt ha
  have h2 := drop_lt hb
  have h3 := drop_lt hc
  unfold tri against
  rw [take_snoc ha, take_snoc hb, take_snoc hc, List.zipWith_append (by simp; omega), List.zipWith_append (by simp; omega)]
  rfl
theorem tri_len {a b c : List Nat} {k : Nat} (ha : k ≤ a.length) (hb : k ≤ b.length) (hc : k ≤ c.length) : (tri a b c k).length = k := by
  simp [tri, against]; omega
theorem of_tri {a b c : List Nat} {k : Nat} (ha : k ≤ a.length) (hb : k ≤ b.length) (hc : k ≤ c.length) : of (tri a b c k) = of (a.take k) ^^^ of (b.take k) ^^^ of (c.take k) :=
  of_against (by simp; omega) (by simp; omega)
end Go.Proofs.Ytoefogmjekcbeaa.Cr
namespace Go.Proofs.Ytoefogmjekcbeaa
open Go.RowKit
set_option linter.unusedVariables false

theorem bits_xor_u32_nat (a b : Nat) (ha : Cr.B32 a) (hb : Cr.B32 b) : bits .xor .u32 (a : Int) (b : Int) = ((a ^^^ b : Nat) : Int) := by
  unfold Cr.B32 at ha hb
  have hx : a ^^^ b < 2 ^ 32 := Nat.xor_lt_two_pow (by omega) (by omega)
  have h1 : (BitVec.ofInt 32 (a : Int)).toNat = a := by
    rw [BitVec.ofInt_natCast, BitVec.toNat_ofNat]; exact Nat.mod_eq_of_lt (by omega)
  have h2 : (BitVec.ofInt 32 (b : Int)).toNat = b := by
    rw [BitVec.ofInt_natCast, BitVec.toNat_ofNat]; exact Nat.mod_eq_of_lt (by omega)
  show IntKind.u32.wrap ((BitVec.ofInt 32 (a : Int) ^^^ BitVec.ofInt 32 (b : Int)).toNat : Int) = _
  rw [BitVec.toNat_xor, h1, h2, IntKind.wrap_u32]
  omega
theorem step_even {r : Nat} (h : r % 2 = 0) : Cr.step r = r / 2 := by unfold Cr.step; rw [if_pos h]
theorem step_odd {r : Nat} (h : r % 2 = 1) : Cr.step r = r / 2 ^^^ 2197175160 := by unfold Cr.step; rw [if_neg (by omega)]
theorem half_b32 {r : Nat} (h : Cr.B32 r) : Cr.B32 (r / 2) := by unfold Cr.B32 at *; omega
theorem poly_b32 : Cr.B32 2197175160 := by unfold Cr.B32; omega
theorem odd_bits {r : Nat} (h : Cr.B32 r) (h1 : r % 2 = 1) : bits .xor .u32 ((r : Int) / 2) 2197175160 = ((Cr.step r : Nat) : Int) := by
  rw [step_odd h1, ← bits_xor_u32_nat _ _ (half_b32 h) poly_b32]
  rfl

theorem and1_bits {r : Nat} (h : Cr.B32 r) : bits .and .u32 (r : Int) 1 = ((r % 2 : Nat) : Int) := by
  unfold Cr.B32 at h
  have h2 := bits_mask .u32 32 (by decide) (fun n h₀ h₁ => by rw [IntKind.wrap_u32]; omega) 1 (by decide) (r : Int) (by omega) (by omega)
  exact h2.trans (by simp)

/-- A call that answers this number of 32 bits, and turns nothing. -/
def IsU32 (n : Nat) (w : World) (e : Ending) (w' : World) : Prop := e = .returned (.int .u32 (n : Nat)) ∧ w = w'

set_option maxHeartbeats 400000 in
theorem step_any (r : Nat) (h : Cr.B32 r) (w : World) : Calls Try.prog 48 #[.int .u32 r] w (IsU32 (Cr.step r) w) := by
  have hr : r < 4294967296 := h
  rcases Nat.mod_two_eq_zero_or_one r with h1 | h1
  · have HS := Lib.hid (step_even h1)
    have hq : (bits BinOp.and IntKind.u32 (r : Int) 1 == 0) = true := by rw [and1_bits h, h1]; rfl
    go_enter Try.func48, Try.ntmps48
    go_wp2
    go_ret
    exact ⟨by rw [HS.out]; simp, rfl⟩
  · have hs := odd_bits h h1
    have hq : (bits BinOp.and IntKind.u32 (r : Int) 1 == 0) = false := by rw [and1_bits h, h1]; rfl
    go_enter Try.func48, Try.ntmps48
    go_wp2
    go_ret
    exact ⟨by first | rfl | rw [hs], rfl⟩

set_option maxHeartbeats 400000 in
theorem rstep_any (r : Nat) (h : Cr.B32 r) (w : World) : Calls Try.prog 47 #[.int .u32 r] w (IsU32 (Cr.step r) w) := by
  have hr : r < 4294967296 := h
  rcases Nat.mod_two_eq_zero_or_one r with h1 | h1
  · have HS := Lib.hid (step_even h1)
    have hq : ((r : Int) % 2 == 0) = true := by rw [beq_iff_eq]; omega
    go_enter Try.func47, Try.ntmps47
    go_wp2
    go_ret
    exact ⟨by rw [HS.out]; simp, rfl⟩
  · have hs := odd_bits h h1
    have hq : ((r : Int) % 2 == 0) = false := by rw [beq_eq_false_iff_ne]; omega
    go_enter Try.func47, Try.ntmps47
    go_wp2
    go_ret
    exact ⟨by first | rfl | rw [hs], rfl⟩

end Go.Proofs.Ytoefogmjekcbeaa
namespace Go.Proofs.Ytoefogmjekcbeaa
open Go.RowKit
set_option linter.unusedVariables false

theorem take_bits {r c : Nat} (h : Cr.B32 r) (hc : c < 256) : bits .xor .u32 (r : Int) (c : Int) = ((Cr.stepN 0 (r ^^^ c) : Nat) : Int) := bits_xor_u32_nat r c h (Cr.byte_b32 hc)
theorem stepN_succ (k r : Nat) : Cr.stepN (k + 1) r = Cr.step (Cr.stepN k r) := rfl

set_option maxHeartbeats 400000 in
theorem take_any (r c : Nat) (h : Cr.B32 r) (hc : c < 256) (w : World) : Calls Try.prog 46 #[.int .u32 r, .int .u8 c] w (IsU32 (Cr.take r c) w) := by
  have hr : r < 4294967296 := h
  have hs := take_bits h hc
  have HB := Lib.hid (Cr.xor_b32 h (Cr.byte_b32 hc))
  have HT : Hid (Cr.take r c = Cr.stepN 8 (r ^^^ c)) := rfl
  obtain ⟨s, hs0⟩ : ∃ s, r ^^^ c = s := ⟨_, rfl⟩
  rw [hs0] at hs HB HT
  have hw : (c : Int) % 4294967296 = (c : Int) := by omega
  go_enter Try.func46, Try.ntmps46
  go_wp2
  go_loop [0, 9] (fun v i => ∃ k : Nat, k ≤ 8 ∧ v = .int .u32 (Cr.stepN k s : Nat) ∧ i = .int .i64 k) (fun _ i => 8 - (intOf i).toNat)
  case atStart => exact ⟨0, by omega, by first | rfl | simp [hs], rfl⟩
  case round =>
    obtain ⟨k, hk, rfl, rfl⟩ := hrel
    by_cases h8 : k < 8
    · have hb := Cr.stepN_b32 HB.out k
      have HS := Lib.hid (step_any (Cr.stepN k s) hb w)
      have HE := Lib.hid (stepN_succ k s)
      obtain ⟨q, hq⟩ : ∃ q, Cr.stepN k s = q := ⟨_, rfl⟩
      rw [hq] at HS HE ⊢
      clear hb hs
      go_wp2_with (go_at_call 48; refine HS.out.mono ?_; rintro e w' ⟨rfl, rfl⟩)
      go_round
      case rel => exact ⟨k + 1, by omega, by rw [HE.out], by go_num⟩
      case measure => simp [intOf]; omega
    · have h0 : k = 8 := by omega
      subst h0
      go_wp2
      go_ret
      exact ⟨by rw [HT.out]; rfl, rfl⟩

set_option maxHeartbeats 400000 in
theorem rtake_any (r c : Nat) (h : Cr.B32 r) (hc : c < 256) (w : World) : Calls Try.prog 45 #[.int .u32 r, .int .u8 c] w (IsU32 (Cr.take r c) w) := by
  have hr : r < 4294967296 := h
  have hs := take_bits h hc
  have HB := Lib.hid (Cr.xor_b32 h (Cr.byte_b32 hc))
  have HT : Hid (Cr.take r c = Cr.stepN 8 (r ^^^ c)) := rfl
  obtain ⟨s, hs0⟩ : ∃ s, r ^^^ c = s := ⟨_, rfl⟩
  rw [hs0] at hs HB HT
  have hw : (c : Int) % 4294967296 = (c : Int) := by omega
  go_enter Try.func45, Try.ntmps45
  go_wp2
  go_loop [0, 5] (fun v i => ∃ k : Nat, k ≤ 8 ∧ v = .int .u32 (Cr.stepN k s : Nat) ∧ i = .int .i64 k) (fun _ i => 8 - (intOf i).toNat)
  case atStart => exact ⟨0, by omega, by first | rfl | simp [hs], rfl⟩
  case round =>
    obtain ⟨k, hk, rfl, rfl⟩ := hrel
    by_cases h8 : k < 8
    · have hb := Cr.stepN_b32 HB.out k
      have HS := Lib.hid (rstep_any (Cr.stepN k s) hb w)
      have HE := Lib.hid (stepN_succ k s)
      obtain ⟨q, hq⟩ : ∃ q, Cr.stepN k s = q := ⟨_, rfl⟩
      rw [hq] at HS HE ⊢
      clear hb hs
      go_wp2_with (go_at_call 47; refine HS.out.mono ?_; rintro e w' ⟨rfl, rfl⟩)
      go_round
      case rel => exact ⟨k + 1, by omega, by rw [HE.out], by go_num⟩
      case measure => simp [intOf]; omega
    · have h0 : k = 8 := by omega
      subst h0
      go_wp2
      go_ret
      exact ⟨by rw [HT.out]; rfl, rfl⟩
end Go.Proofs.Ytoefogmjekcbeaa
