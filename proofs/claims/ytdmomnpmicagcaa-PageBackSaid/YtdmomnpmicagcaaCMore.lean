/-
  crc.More, crc.Of and the document's: the sum of bytes.
-/
import Derived.Test.YtdmomnpmicagcaaCTake
import Derived.Test.YtdmomnpmicagcaaApp
namespace Go.Proofs.Ytdmomnpmicagcaa
open Go.RowKit
set_option linter.unusedVariables false

theorem flip_bits {r : Nat} (h : Cr.B32 r) : bits .xor .u32 IntKind.u32.max (r : Int) = ((Cr.flip r : Nat) : Int) := by
  have h1 := bits_xor_u32_nat 4294967295 r (by unfold Cr.B32; omega) h
  rw [Cr.flip_eq, Cr.ones_eq]
  exact h1
theorem Bv.lt_ {w : World} {B : Nat} {v : Value} {l : List Nat} (h : Bv w B v l) : ∀ x ∈ l, x < 256 := by
  obtain ⟨A, c, e, h1, h2, h3, h4⟩ := h
  exact h4.1

set_option maxHeartbeats 400000 in
theorem more_any (s : Nat) (h : Cr.B32 s) (v : Value) (l : List Nat) (B : Nat) (w : World) (hv : Bv w B v l) : Calls Try.prog 27 #[.int .u32 s, v] w (IsU32 (Cr.more s l) w) := by
  have hr : s < 4294967296 := h
  obtain ⟨A, c, rfl, hlc, hcm, hnil, hb⟩ := hv
  have hlm : l.length ≤ maxLen := by omega
  unfold maxLen at hlm
  have hs := flip_bits h
  have HF := Lib.hid (Cr.flip_b32 h)
  have HL := Lib.hid hb.1
  have HM := Lib.hid (Cr.more_eq s l)
  obtain ⟨f, hf⟩ : ∃ f, Cr.flip s = f := ⟨_, rfl⟩
  rw [hf] at hs HF HM
  have HB := Lib.hid hb
  clear hb hnil
  go_enter Try.func27, Try.ntmps27
  go_wp2
  go_loop [5, 12] (fun v i => ∃ k : Nat, k ≤ l.length ∧ v = .int .u32 (Cr.raw f (l.take k) : Nat) ∧ i = .int .i64 k) (fun _ i => l.length - (intOf i).toNat)
  case atStart => exact ⟨0, by omega, by simp [Cr.raw_nil], rfl⟩
  case round =>
    obtain ⟨k, hk, rfl, rfl⟩ := hrel
    have hb := Cr.raw_b32 (l := l.take k) (fun x hx => HL.out x (List.mem_of_mem_take hx)) HF.out
    by_cases h8 : k < l.length
    · obtain ⟨b1, o1, x, rfl, hb1, hx, hd, hcell⟩ := HB.out.at_ h8
      have HS := Lib.hid (take_any (Cr.raw f (l.take k)) x hb hx w)
      have HE := Lib.hid (Cr.raw_step (r := f) hd)
      obtain ⟨q, hq⟩ : ∃ q, Cr.raw f (l.take k) = q := ⟨_, rfl⟩
      rw [hq] at HS HE ⊢
      clear hb hs hd
      go_wp2_with (go_at_call 29; refine HS.out.mono ?_; rintro e w' ⟨rfl, rfl⟩)
      go_round
      case rel => exact ⟨k + 1, by omega, by rw [HE.out], by go_num⟩
      case measure => simp [intOf]; omega
    · have h0 : k = l.length := by omega
      subst h0
      rw [List.take_length] at hb ⊢
      have hs2 := flip_bits hb
      have HX := Lib.hid hs2
      obtain ⟨q, hq⟩ : ∃ q, Cr.raw f l = q := ⟨_, rfl⟩
      rw [hq] at HX HM hs2 ⊢
      clear hb
      go_wp2
      go_ret
      exact ⟨by rw [HM.out]; simp, rfl⟩
set_option maxHeartbeats 400000 in
theorem rmore_any (s : Nat) (h : Cr.B32 s) (v : Value) (l : List Nat) (B : Nat) (w : World) (hv : Bv w B v l) : Calls Try.prog 26 #[.int .u32 s, v] w (IsU32 (Cr.more s l) w) := by
  have hr : s < 4294967296 := h
  obtain ⟨A, c, rfl, hlc, hcm, hnil, hb⟩ := hv
  have hlm : l.length ≤ maxLen := by omega
  unfold maxLen at hlm
  have hs := flip_bits h
  have HF := Lib.hid (Cr.flip_b32 h)
  have HL := Lib.hid hb.1
  have HM := Lib.hid (Cr.more_eq s l)
  obtain ⟨f, hf⟩ : ∃ f, Cr.flip s = f := ⟨_, rfl⟩
  rw [hf] at hs HF HM
  have HB := Lib.hid hb
  clear hb hnil
  go_enter Try.func26, Try.ntmps26
  go_wp2
  go_loop [5, 6] (fun v i => ∃ k : Nat, k ≤ l.length ∧ v = .int .u32 (Cr.raw f (l.take k) : Nat) ∧ i = .int .i64 k) (fun _ i => l.length - (intOf i).toNat)
  case atStart => exact ⟨0, by omega, by simp [Cr.raw_nil], rfl⟩
  case round =>
    obtain ⟨k, hk, rfl, rfl⟩ := hrel
    have hb := Cr.raw_b32 (l := l.take k) (fun x hx => HL.out x (List.mem_of_mem_take hx)) HF.out
    by_cases h8 : k < l.length
    · obtain ⟨b1, o1, x, rfl, hb1, hx, hd, hcell⟩ := HB.out.at_ h8
      have HS := Lib.hid (rtake_any (Cr.raw f (l.take k)) x hb hx w)
      have HE := Lib.hid (Cr.raw_step (r := f) hd)
      obtain ⟨q, hq⟩ : ∃ q, Cr.raw f (l.take k) = q := ⟨_, rfl⟩
      rw [hq] at HS HE ⊢
      clear hb hs hd
      go_wp2_with (go_at_call 28; refine HS.out.mono ?_; rintro e w' ⟨rfl, rfl⟩)
      go_round
      case rel => exact ⟨k + 1, by omega, by rw [HE.out], by go_num⟩
      case measure => simp [intOf]; omega
    · have h0 : k = l.length := by omega
      subst h0
      rw [List.take_length] at hb ⊢
      have hs2 := flip_bits hb
      have HX := Lib.hid hs2
      obtain ⟨q, hq⟩ : ∃ q, Cr.raw f l = q := ⟨_, rfl⟩
      rw [hq] at HX HM hs2 ⊢
      clear hb
      go_wp2
      go_ret
      exact ⟨by rw [HM.out]; simp, rfl⟩

theorem of_any (v : Value) (l : List Nat) (B : Nat) (w : World) (hv : Bv w B v l) : Calls Try.prog 25 #[v] w (IsU32 (Cr.of l) w) := by
  have HC := Lib.hid (more_any 0 Cr.zero_b32 v l B w hv)
  have HX : Hid (Cr.of l = Cr.more 0 l) := rfl
  obtain ⟨q, hq⟩ : ∃ q, Cr.more 0 l = q := ⟨_, rfl⟩
  rw [hq] at HC HX
  obtain ⟨A, c, rfl, _⟩ := hv
  go_enter Try.func25, Try.ntmps25
  go_wp2_with (go_at_call 27; refine HC.out.mono ?_; rintro e w' ⟨rfl, rfl⟩)
  go_ret
  exact ⟨by rw [HX.out]; rfl, rfl⟩

theorem rof_any (v : Value) (l : List Nat) (B : Nat) (w : World) (hv : Bv w B v l) : Calls Try.prog 20 #[v] w (IsU32 (Cr.of l) w) := by
  have HC := Lib.hid (rmore_any 0 Cr.zero_b32 v l B w hv)
  have HX : Hid (Cr.of l = Cr.more 0 l) := rfl
  obtain ⟨q, hq⟩ : ∃ q, Cr.more 0 l = q := ⟨_, rfl⟩
  rw [hq] at HC HX
  obtain ⟨A, c, rfl, _⟩ := hv
  go_enter Try.func20, Try.ntmps20
  go_wp2_with (go_at_call 26; refine HC.out.mono ?_; rintro e w' ⟨rfl, rfl⟩)
  go_ret
  exact ⟨by rw [HX.out]; rfl, rfl⟩
end Go.Proofs.Ytdmomnpmicagcaa
