/-
  CMore: crc.More, crc.Of and the document's: the sum of bytes.
  LAns: Words for what calls answer: a list in new memory, a list and an error.
  CopyO: stookref00.Copy.
-/
import Derived.Test.YtoefogmjekcbeaaPk05
import Derived.Test.YtoefogmjekcbeaaPk01
import Derived.Test.YtoefogmjekcbeaaPk02
namespace Go.Proofs.Ytoefogmjekcbeaa
open Go.RowKit
set_option linter.unusedVariables false

theorem flip_bits {r : Nat} (h : Cr.B32 r) : bits .xor .u32 IntKind.u32.max (r : Int) = ((Cr.flip r : Nat) : Int) := by
  have h1 := bits_xor_u32_nat 4294967295 r (by unfold Cr.B32; omega) h
  rw [Cr.flip_eq, Cr.ones_eq]
  exact h1
theorem Bv.lt_ {w : World} {B : Nat} {v : Value} {l : List Nat} (h : Bv w B v l) : ∀ x ∈ l, x < 256 := by
  obtain ⟨A, c, e, h1, h2, h3, h4⟩ := h
  exact h4.1

set_option maxHeartbeats 400000 in
theorem more_any (s : Nat) (h : Cr.B32 s) (v : Value) (l : List Nat) (B : Nat) (w : World) (hv : Bv w B v l) : Calls Try.prog 44 #[.int .u32 s, v] w (IsU32 (Cr.more s l) w) := by
  have hr : s < 4294967296 := h
  obtain ⟨A, c, rfl, hlc, hcm, hnil, hb⟩ := hv
  have hlm : l.length ≤ maxLen := by omega
  unfold maxLen at hlm
  have hs := flip_bits h
  have HF := Lib.hid (Cr.flip_b32 h)
  have HL := Lib.hid hb.1
  have HM := Lib.hid (Cr.more_eq s l)
  obtain ⟨f, hf⟩ : ∃ f, Cr.flip s = f := ⟨_, rfl⟩
  rw [hf] at hs HF HM
  have HB := Lib.hid hb
  clear hb hnil
  go_enter Try.func44, Try.ntmps44
  go_wp2
  go_loop [5, 12] (fun v i => ∃ k : Nat, k ≤ l.length ∧ v = .int .u32 (Cr.raw f (l.take k) : Nat) ∧ i = .int .i64 k) (fun _ i => l.length - (intOf i).toNat)
  case atStart => exact ⟨0, by omega, by simp [Cr.raw_nil], rfl⟩
  case round =>
    obtain ⟨k, hk, rfl, rfl⟩ := hrel
    have hb := Cr.raw_b32 (l := l.take k) (fun x hx => HL.out x (List.mem_of_mem_take hx)) HF.out
    by_cases h8 : k < l.length
    · obtain ⟨b1, o1, x, rfl, hb1, hx, hd, hcell⟩ := HB.out.at_ h8
      have HS := Lib.hid (take_any (Cr.raw f (l.take k)) x hb hx w)
      have HE := Lib.hid (Cr.raw_step (r := f) hd)
      obtain ⟨q, hq⟩ : ∃ q, Cr.raw f (l.take k) = q := ⟨_, rfl⟩
      rw [hq] at HS HE ⊢
      clear hb hs hd
      go_wp2_with (go_at_call 46; refine HS.out.mono ?_; rintro e w' ⟨rfl, rfl⟩)
      go_round
      case rel => exact ⟨k + 1, by omega, by rw [HE.out], by go_num⟩
      case measure => simp [intOf]; omega
    · have h0 : k = l.length := by omega
      subst h0
      rw [List.take_length] at hb ⊢
      have hs2 := flip_bits hb
      have HX := Lib.hid hs2
      obtain ⟨q, hq⟩ : ∃ q, Cr.raw f l = q := ⟨_, rfl⟩
      rw [hq] at HX HM hs2 ⊢
      clear hb
      go_wp2
      go_ret
      exact ⟨by rw [HM.out]; simp, rfl⟩
set_option maxHeartbeats 400000 in
theorem rmore_any (s : Nat) (h : Cr.B32 s) (v : Value) (l : List Nat) (B : Nat) (w : World) (hv : Bv w B v l) : Calls Try.prog 43 #[.int .u32 s, v] w (IsU32 (Cr.more s l) w) := by
  have hr : s < 4294967296 := h
  obtain ⟨A, c, rfl, hlc, hcm, hnil, hb⟩ := hv
  have hlm : l.length ≤ maxLen := by omega
  unfold maxLen at hlm
  have hs := flip_bits h
  have HF := Lib.hid (Cr.flip_b32 h)
  have HL := Lib.hid hb.1
  have HM := Lib.hid (Cr.more_eq s l)
  obtain ⟨f, hf⟩ : ∃ f, Cr.flip s = f := ⟨_, rfl⟩
  rw [hf] at hs HF HM
  have HB := Lib.hid hb
  clear hb hnil
  go_enter Try.func43, Try.ntmps43
  go_wp2
  go_loop [5, 6] (fun v i => ∃ k : Nat, k ≤ l.length ∧ v = .int .u32 (Cr.raw f (l.take k) : Nat) ∧ i = .int .i64 k) (fun _ i => l.length - (intOf i).toNat)
  case atStart => exact ⟨0, by omega, by simp [Cr.raw_nil], rfl⟩
  case round =>
    obtain ⟨k, hk, rfl, rfl⟩ := hrel
    have hb := Cr.raw_b32 (l := l.take k) (fun x hx => HL.out x (List.mem_of_mem_take hx)) HF.out
    by_cases h8 : k < l.length
    · obtain ⟨b1, o1, x, rfl, hb1, hx, hd, hcell⟩ := HB.out.at_ h8
      have HS := Lib.hid (rtake_any (Cr.raw f (l.take k)) x hb hx w)
      have HE := Lib.hid (Cr.raw_step (r := f) hd)
      obtain ⟨q, hq⟩ : ∃ q, Cr.raw f (l.take k) = q := ⟨_, rfl⟩
      rw [hq] at HS HE ⊢
      clear hb hs hd
      go_wp2_with (go_at_call 45; refine HS.out.mono ?_; rintro e w' ⟨rfl, rfl⟩)
      go_round
      case rel => exact ⟨k + 1, by omega, by rw [HE.out], by go_num⟩
      case measure => simp [intOf]; omega
    · have h0 : k = l.length := by omega
      subst h0
      rw [List.take_length] at hb ⊢
      have hs2 := flip_bits hb
      have HX := Lib.hid hs2
      obtain ⟨q, hq⟩ : ∃ q, Cr.raw f l = q := ⟨_, rfl⟩
      rw [hq] at HX HM hs2 ⊢
      clear hb
      go_wp2
      go_ret
      exact ⟨by rw [HM.out]; simp, rfl⟩

theorem of_any (v : Value) (l : List Nat) (B : Nat) (w : World) (hv : Bv w B v l) : Calls Try.prog 41 #[v] w (IsU32 (Cr.of l) w) := by
  have HC := Lib.hid (more_any 0 Cr.zero_b32 v l B w hv)
  have HX : Hid (Cr.of l = Cr.more 0 l) := rfl
  obtain ⟨q, hq⟩ : ∃ q, Cr.more 0 l = q := ⟨_, rfl⟩
  rw [hq] at HC HX
  obtain ⟨A, c, rfl, _⟩ := hv
  go_enter Try.func41, Try.ntmps41
  go_wp2_with (go_at_call 44; refine HC.out.mono ?_; rintro e w' ⟨rfl, rfl⟩)
  go_ret
  exact ⟨by rw [HX.out]; rfl, rfl⟩

theorem rof_any (v : Value) (l : List Nat) (B : Nat) (w : World) (hv : Bv w B v l) : Calls Try.prog 34 #[v] w (IsU32 (Cr.of l) w) := by
  have HC := Lib.hid (rmore_any 0 Cr.zero_b32 v l B w hv)
  have HX : Hid (Cr.of l = Cr.more 0 l) := rfl
  obtain ⟨q, hq⟩ : ∃ q, Cr.more 0 l = q := ⟨_, rfl⟩
  rw [hq] at HC HX
  obtain ⟨A, c, rfl, _⟩ := hv
  go_enter Try.func34, Try.ntmps34
  go_wp2_with (go_at_call 43; refine HC.out.mono ?_; rintro e w' ⟨rfl, rfl⟩)
  go_ret
  exact ⟨by rw [HX.out]; rfl, rfl⟩
end Go.Proofs.Ytoefogmjekcbeaa
namespace Go.Proofs.Ytoefogmjekcbeaa
open Go.RowKit
set_option linter.unusedVariables false

section
variable {P : Program} {α : Type}
/-- A call that answers this list in new memory, and turns nothing that was there. -/
def IsL1 (K : El P α) (l : List α) (w : World) (e : Ending) (w' : World) : Prop :=
  ∃ A c, e = .returned (.slice A l.length c) ∧ OwnL K w' w.heap.size (.slice A l.length c) l ∧ Below w.heap.size w w'
/-- A call that answers this list in new memory and an error, and turns nothing that was there. -/
def IsLE (K : El P α) (r : List α × Nat) (w : World) (e : Ending) (w' : World) : Prop :=
  ∃ A c, e = .returned (.tuple #[.slice A r.1.length c, .int .i64 r.2]) ∧ OwnL K w' w.heap.size (.slice A r.1.length c) r.1 ∧ Below w.heap.size w w'
/-- A call that answers nothing, and turns but one slice of the caller's own. -/
def IsTurned (v : Value) (w : World) (e : Ending) (w' : World) : Prop := (∃ x, e = .returned x) ∧ w.grownBy w' v.ownBlock
/-- A call that answers an error, and turns nothing that was there. -/
def IsErr (n : Nat) (w : World) (e : Ending) (w' : World) : Prop := e = .returned (.int .i64 (n : Nat)) ∧ Below w.heap.size w w'

variable {K : El P α}
theorem IsLE.none_ {w : World} {r : List α × Nat} {e : Nat} {x : Int} (h : r = ([], e)) (hx : x = (e : Nat)) : IsLE K r w (.returned (.tuple #[.slice none 0 0, .int .i64 x])) w := by
  subst h hx; exact ⟨none, 0, rfl, OwnL.nil_ _ _ _, Below.refl _ _⟩
theorem IsLE.none_b {w w' : World} {r : List α × Nat} {e : Nat} {x : Int} (h : r = ([], e)) (hx : x = (e : Nat)) (hb : Below w.heap.size w w') : IsLE K r w (.returned (.tuple #[.slice none 0 0, .int .i64 x])) w' := by
  subst h hx; exact ⟨none, 0, rfl, OwnL.nil_ _ _ _, hb⟩
theorem IsLE.of {w w' : World} {r : List α × Nat} {y : List α} {e c n : Nat} {x : Int} {A : Option Addr} (h : r = (y, e)) (hn : n = y.length) (hx : x = (e : Nat)) (ho : OwnL K w' w.heap.size (.slice A n c) y) (hb : Below w.heap.size w w') :
    IsLE K r w (.returned (.tuple #[.slice A n c, .int .i64 x])) w' := by subst h hx hn; exact ⟨A, c, rfl, ho, hb⟩
/-- What a call of a list and an error answered, where it is known. -/
theorem IsLE.out_ {w w' : World} {e : Ending} {r : List α × Nat} (h : IsLE K r w e w') {l : List α} {n : Nat} (hr : r = (l, n)) :
    ∃ A c, e = .returned (.tuple #[.slice A l.length c, .int .i64 n]) ∧ OwnL K w' w.heap.size (.slice A l.length c) l ∧ Below w.heap.size w w' := by subst hr; exact h
theorem grownBy_trans {w w1 w2 : World} {r : Option Nat} (h : w.grownBy w1 r) (h2 : w1.grownBy w2 r) : w.grownBy w2 r :=
  ⟨h2.os.trans h.os, h2.tape.trans h.tape, h2.output.trans h.output, Nat.le_trans h.size h2.size, fun k hk hne => (h2.block k (Nat.lt_of_lt_of_le hk h.size) hne).trans (h.block k hk hne)⟩
/-- What a call turned but in blocks from B on, or in the row of one own slice. -/
theorem Below.turned {w w1 w2 : World} {B : Nat} {v : Value} (h : Below B w w1) (hg : w1.grownBy w2 v.ownBlock) (hB : B ≤ w1.heap.size) (hv : ∀ k, v.ownBlock = some k → B ≤ k) : Below B w w2 := h.grown hg hB hv
end
end Go.Proofs.Ytoefogmjekcbeaa
namespace Go.Proofs.Ytoefogmjekcbeaa
open Go.RowKit
set_option linter.unusedVariables false

set_option maxHeartbeats 1000000 in
set_option maxRecDepth 100000 in
theorem copyO_any (v : Value) (l : List Nat) (B : Nat) (w : World) (h : Lv yK w B v l) (hsz : l.length ≤ 140737488355328) :
    Calls Try.prog 39 #[v] w (IsL1 yK l w) := by
  have H0 := Lib.hid h
  obtain ⟨A, c, rfl, _⟩ := h
  have hnil := Lib.hid (OwnL.nil_ yK w w.heap.size)
  go_enter Try.func39, Try.ntmps39
  go_wp2_with (at_builtin; go_must (refine wpList_append_l _ yK rfl _ _ rfl w.heap.size _ rfl [] hnil.out _ rfl _ l H0.out (by show _ * 1 ≤ _; simp; omega) (by simp [maxLen]; omega) (Nat.le_refl _) ?_; intro A3 c3 w1 hA hG))
  go_ret
  simp only [List.nil_append] at hA
  exact ⟨A3, c3, by simp, hA, (Below.refl w.heap.size w).grown hG (Nat.le_refl _) (by intro k hk; cases hk)⟩
end Go.Proofs.Ytoefogmjekcbeaa
