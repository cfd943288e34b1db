/- Parts of the proof. -/
import Derived.Test.YtiafeniflkikeaaGreatPm08
import Derived.Test.YtiafeniflkikeaaGreatPm05
import Derived.Test.YtiafeniflkikeaaGreatProg
import Derived.Test.YtiafeniflkikeaaGreatPm01
import Derived.WalkKit
import Derived.Outline
import Derived.Lib.Hide
namespace Go.Proofs.YtiafeniflkikeaaGreat
open Go.RowKit
set_option linter.unusedVariables false
theorem bstr_eq2 {l m : List Nat} (hl : ∀ x ∈ l, x < 256) (hm : ∀ x ∈ m, x < 256) : ((bstr l).toList == (bstr m).toList) = decide (l = m) := by
 rw [bstr_toList m]; exact bstr_eq hl hm
set_option maxHeartbeats 1000000 in
theorem pbequal_any (u v : Value) (la lb : List Nat) (B : Nat) (w : World) (hu : Lv yK w B u la) (hv : Lv yK w B v lb) (h1 : 0 < la.length) (h2 : 0 < lb.length) :
  Calls Tryz.prog 111 #[u, v] w (fun e w' => e = .returned (.bool (decide (la = lb))) ∧ w' = w) := by
 have k3 := bstr_eq2 (l := la) (m := lb) hu.ok_ hv.ok_
 obtain ⟨A, c, rfl, -, -, -, -, -⟩ := id hu
 obtain ⟨A', c', rfl, -, -, -, -, -⟩ := id hv
 have k1 := conv_str hu h1
 have k2 := conv_str hv h2
 clear hu hv h1 h2
 go_enter Tryz.func111, Tryz.ntmps111
 go_wp2
 go_ret
 exact ⟨rfl, rfl⟩
end Go.Proofs.YtiafeniflkikeaaGreat
namespace Go.Proofs.YtiafeniflkikeaaGreat
open Go.RowKit
set_option linter.unusedVariables false
theorem octs_flat (l : List Nat) : yK.flat l = l.map u8 := by
 show l.flatMap (fun x => [u8 x]) = l.map u8
 induction l with
 | nil => rfl
 | cons x r ih => rw [List.flatMap_cons, ih]; rfl
theorem Bv.lv_ {w : World} {B : Nat} {v : Value} {l : List Nat} (h : Bv w B v l) : Lv yK w B v l := by
 obtain ⟨A, c, e, h1, h2, h3, h4, h5⟩ := h
 refine ⟨A, c, e, h1, h2, h3, h4, fun hp => ?_⟩
 obtain ⟨b, off, hA, hb, hc⟩ := h5 hp
 refine ⟨b, off, hA, hb, fun j u hj => ?_⟩
 have hf := octs_flat l
 rw [hf, List.getElem?_map] at hj
 cases hx : l[j]? with
 | none => rw [hx] at hj; cases hj
 | some x =>
  rw [hx] at hj
  cases hj
  exact hc j x hx
theorem Lv.bv_ {w : World} {B : Nat} {v : Value} {l : List Nat} (h : Lv yK w B v l) : Bv w B v l := by
 obtain ⟨A, c, e, h1, h2, h3, h4, h5⟩ := h
 refine ⟨A, c, e, h1, h2, h3, h4, fun hp => ?_⟩
 obtain ⟨b, off, hA, hb, hc⟩ := h5 hp
 refine ⟨b, off, hA, hb, fun j x hj => hc j (u8 x) ?_⟩
 have hf := octs_flat l
 rw [hf, List.getElem?_map, hj]
 rfl
end Go.Proofs.YtiafeniflkikeaaGreat
namespace Go.Proofs.YtiafeniflkikeaaGreat
open Go.RowKit
set_option linter.unusedVariables false
def bvs (l : List Nat) : Array Value := (l.map u8).toArray
theorem bvs_size (l : List Nat) : (bvs l).size = l.length := by simp [bvs]
theorem bvs_some {d : List Nat} {k x : Nat} (h : d[k]? = some x) : (bvs d)[k]? = some (.int .u8 (x : Nat)) := by simp [bvs, h, u8]
theorem bvs_one (l : List Nat) : (bvs l).all (·.oneCell') = true := by
 rw [Array.all_eq_true_iff_forall_mem]
 intro v hv
 simp only [bvs, List.mem_toArray, List.mem_map] at hv
 obtain ⟨x, _, rfl⟩ := hv
 rfl
end Go.Proofs.YtiafeniflkikeaaGreat
namespace Go.Proofs.YtiafeniflkikeaaGreat
open Go.RowKit
set_option linter.unusedVariables false
theorem bits_xor_u32_nat (a b : Nat) (ha : Cr.B32 a) (hb : Cr.B32 b) : bits .xor .u32 (a : Int) (b : Int) = ((a ^^^ b : Nat) : Int) := by
 unfold Cr.B32 at ha hb
 have hx : a ^^^ b < 2 ^ 32 := Nat.xor_lt_two_pow (by omega) (by omega)
 have h1 : (BitVec.ofInt 32 (a : Int)).toNat = a := by
  rw [BitVec.ofInt_natCast, BitVec.toNat_ofNat]; exact Nat.mod_eq_of_lt (by omega)
 have h2 : (BitVec.ofInt 32 (b : Int)).toNat = b := by
  rw [BitVec.ofInt_natCast, BitVec.toNat_ofNat]; exact Nat.mod_eq_of_lt (by omega)
 show IntKind.u32.wrap ((BitVec.ofInt 32 (a : Int) ^^^ BitVec.ofInt 32 (b : Int)).toNat : Int) = _
 rw [BitVec.toNat_xor, h1, h2, IntKind.wrap_u32]
 omega
theorem step_even {r : Nat} (h : r % 2 = 0) : Cr.step r = r / 2 := by unfold Cr.step; rw [if_pos h]
theorem step_odd {r : Nat} (h : r % 2 = 1) : Cr.step r = r / 2 ^^^ 2197175160 := by unfold Cr.step; rw [if_neg (by omega)]
theorem half_b32 {r : Nat} (h : Cr.B32 r) : Cr.B32 (r / 2) := by unfold Cr.B32 at *; omega
theorem poly_b32 : Cr.B32 2197175160 := by unfold Cr.B32; omega
theorem odd_bits {r : Nat} (h : Cr.B32 r) (h1 : r % 2 = 1) : bits .xor .u32 ((r : Int) / 2) 2197175160 = ((Cr.step r : Nat) : Int) := by
 rw [step_odd h1, ← bits_xor_u32_nat _ _ (half_b32 h) poly_b32]
 rfl
theorem and1_bits {r : Nat} (h : Cr.B32 r) : bits .and .u32 (r : Int) 1 = ((r % 2 : Nat) : Int) := by
 unfold Cr.B32 at h
 have h2 := bits_mask .u32 32 (by decide) (fun n h₀ h₁ => by rw [IntKind.wrap_u32]; omega) 1 (by decide) (r : Int) (by omega) (by omega)
 exact h2.trans (by simp)
def IsU32 (n : Nat) (w : World) (e : Ending) (w' : World) : Prop := e = .returned (.int .u32 (n : Nat)) ∧ w = w'
set_option maxHeartbeats 400000 in
theorem step_any (r : Nat) (h : Cr.B32 r) (w : World) : Calls Tryz.prog 171 #[.int .u32 r] w (IsU32 (Cr.step r) w) := by
 have hr : r < 4294967296 := h
 rcases Nat.mod_two_eq_zero_or_one r with h1 | h1
 ·have HS := Lib.hid (step_even h1)
  have hq : (bits BinOp.and IntKind.u32 (r : Int) 1 == 0) = true := by rw [and1_bits h, h1]; rfl
  go_enter Tryz.func171, Tryz.ntmps171
  go_wp2
  go_ret
  exact ⟨by rw [HS.out]; simp, rfl⟩
 ·have hs := odd_bits h h1
  have hq : (bits BinOp.and IntKind.u32 (r : Int) 1 == 0) = false := by rw [and1_bits h, h1]; rfl
  go_enter Tryz.func171, Tryz.ntmps171
  go_wp2
  go_ret
  exact ⟨by first | rfl | rw [hs], rfl⟩
theorem take_bits {r c : Nat} (h : Cr.B32 r) (hc : c < 256) : bits .xor .u32 (r : Int) (c : Int) = ((Cr.stepN 0 (r ^^^ c) : Nat) : Int) := bits_xor_u32_nat r c h (Cr.byte_b32 hc)
theorem stepN_succ (k r : Nat) : Cr.stepN (k + 1) r = Cr.step (Cr.stepN k r) := rfl
set_option maxHeartbeats 400000 in
theorem take_any (r c : Nat) (h : Cr.B32 r) (hc : c < 256) (w : World) : Calls Tryz.prog 165 #[.int .u32 r, .int .u8 c] w (IsU32 (Cr.take r c) w) := by
 have hr : r < 4294967296 := h
 have hs := take_bits h hc
 have HB := Lib.hid (Cr.xor_b32 h (Cr.byte_b32 hc))
 have HT : Hid (Cr.take r c = Cr.stepN 8 (r ^^^ c)) := rfl
 obtain ⟨s, hs0⟩ : ∃ s, r ^^^ c = s := ⟨_, rfl⟩
 rw [hs0] at hs HB HT
 have hw : (c : Int) % 4294967296 = (c : Int) := by omega
 go_enter Tryz.func165, Tryz.ntmps165
 go_wp2
 go_loop [0, 9] (fun v i => ∃ k : Nat, k ≤ 8 ∧ v = .int .u32 (Cr.stepN k s : Nat) ∧ i = .int .i64 k) (fun _ i => 8 - (intOf i).toNat)
 case atStart => exact ⟨0, by omega, by first | rfl | simp [hs], rfl⟩
 case round =>
  obtain ⟨k, hk, rfl, rfl⟩ := hrel
  by_cases h8 : k < 8
  ·have hb := Cr.stepN_b32 HB.out k
   have HS := Lib.hid (step_any (Cr.stepN k s) hb w)
   have HE := Lib.hid (stepN_succ k s)
   obtain ⟨q, hq⟩ : ∃ q, Cr.stepN k s = q := ⟨_, rfl⟩
   rw [hq] at HS HE ⊢
   clear hb hs
   go_wp2_with (go_at_call 171; refine HS.out.mono ?_; rintro e w' ⟨rfl, rfl⟩)
   go_round
   case rel => exact ⟨k + 1, by omega, by rw [HE.out], by go_num⟩
   case measure => simp [intOf]; omega
  ·have h0 : k = 8 := by omega
   subst h0
   go_wp2
   go_ret
   exact ⟨by rw [HT.out]; rfl, rfl⟩
theorem flip_bits {r : Nat} (h : Cr.B32 r) : bits .xor .u32 IntKind.u32.max (r : Int) = ((Cr.flip r : Nat) : Int) := by
 have h1 := bits_xor_u32_nat 4294967295 r (by unfold Cr.B32; omega) h
 rw [Cr.flip_eq, Cr.ones_eq]
 exact h1
set_option maxHeartbeats 400000 in
theorem more_any (s : Nat) (h : Cr.B32 s) (v : Value) (l : List Nat) (B : Nat) (w : World) (hv : Bv w B v l) : Calls Tryz.prog 149 #[.int .u32 s, v] w (IsU32 (Cr.more s l) w) := by
 have hr : s < 4294967296 := h
 obtain ⟨A, c, rfl, hlc, hcm, hnil, hb⟩ := hv
 have hlm : l.length ≤ maxLen := by omega
 unfold maxLen at hlm
 have hs := flip_bits h
 have HF := Lib.hid (Cr.flip_b32 h)
 have HL := Lib.hid hb.1
 have HM := Lib.hid (Cr.more_eq s l)
 obtain ⟨f, hf⟩ : ∃ f, Cr.flip s = f := ⟨_, rfl⟩
 rw [hf] at hs HF HM
 have HB := Lib.hid hb
 clear hb hnil
 go_enter Tryz.func149, Tryz.ntmps149
 go_wp2
 go_loop [5, 12] (fun v i => ∃ k : Nat, k ≤ l.length ∧ v = .int .u32 (Cr.raw f (l.take k) : Nat) ∧ i = .int .i64 k) (fun _ i => l.length - (intOf i).toNat)
 case atStart => exact ⟨0, by omega, by simp [Cr.raw_nil], rfl⟩
 case round =>
  obtain ⟨k, hk, rfl, rfl⟩ := hrel
  have hb := Cr.raw_b32 (l := l.take k) (fun x hx => HL.out x (List.mem_of_mem_take hx)) HF.out
  by_cases h8 : k < l.length
  ·obtain ⟨b1, o1, x, rfl, hb1, hx, hd, hcell⟩ := HB.out.at_ h8
   have HS := Lib.hid (take_any (Cr.raw f (l.take k)) x hb hx w)
   have HE := Lib.hid (Cr.raw_step (r := f) hd)
   obtain ⟨q, hq⟩ : ∃ q, Cr.raw f (l.take k) = q := ⟨_, rfl⟩
   rw [hq] at HS HE ⊢
   clear hb hs hd
   go_wp2_with (go_at_call 165; refine HS.out.mono ?_; rintro e w' ⟨rfl, rfl⟩)
   go_round
   case rel => exact ⟨k + 1, by omega, by rw [HE.out], by go_num⟩
   case measure => simp [intOf]; omega
  ·have h0 : k = l.length := by omega
   subst h0
   rw [List.take_length] at hb ⊢
   have hs2 := flip_bits hb
   have HX := Lib.hid hs2
   obtain ⟨q, hq⟩ : ∃ q, Cr.raw f l = q := ⟨_, rfl⟩
   rw [hq] at HX HM hs2 ⊢
   clear hb
   go_wp2
   go_ret
   exact ⟨by rw [HM.out]; simp, rfl⟩
theorem of_any (v : Value) (l : List Nat) (B : Nat) (w : World) (hv : Bv w B v l) : Calls Tryz.prog 134 #[v] w (IsU32 (Cr.of l) w) := by
 have HC := Lib.hid (more_any 0 Cr.zero_b32 v l B w hv)
 have HX : Hid (Cr.of l = Cr.more 0 l) := rfl
 obtain ⟨q, hq⟩ : ∃ q, Cr.more 0 l = q := ⟨_, rfl⟩
 rw [hq] at HC HX
 obtain ⟨A, c, rfl, _⟩ := hv
 go_enter Tryz.func134, Tryz.ntmps134
 go_wp2_with (go_at_call 149; refine HC.out.mono ?_; rintro e w' ⟨rfl, rfl⟩)
 go_ret
 exact ⟨by rw [HX.out]; rfl, rfl⟩
end Go.Proofs.YtiafeniflkikeaaGreat
