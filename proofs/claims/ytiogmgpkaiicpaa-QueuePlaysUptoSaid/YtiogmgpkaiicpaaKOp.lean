/-
  The kind of elements stooklaw07.Op: slices of deeds for a queue.
-/
import Derived.Test.YtiogmgpkaiicpaaOpenL
import Derived.Test.YtiogmgpkaiicpaaKInt
namespace Go.Proofs.Ytiogmgpkaiicpaa
open Go.ChangeShapes Go.WideShapes Go.RowKit
set_option linter.unusedVariables false

def oK : El Try.prog (Nat × Int) where
  e := 29
  s := 22
  size := 2
  bytes := 16
  zero := .agg #[.int .u8 0, .int .i64 0]
  z := (0, 0)
  enc := fun x => [.int .u8 (x.1 : Nat), .int .i64 x.2]
  ok := fun x => x.1 < 256 ∧ I64 x.2
  len := fun _ => rfl
  one := fun x u hu => by simp at hu; rcases hu with rfl | rfl <;> rfl
  okz := by simp [I64]
  encz := rfl
  pos := by decide
  under := Try.underlying22
  info := by kernel_rfl

section
variable {w : World} {base B n c : Nat} {A : Option Addr} {l : List (Nat × Int)}
theorem Lv.op_ (h : Lv oK w B (.slice A n c) l) {k : Nat} (hk : k < l.length) :
    ∃ b off t x, A = some ⟨b, off, none⟩ ∧ b < B ∧ t < 256 ∧ I64 x ∧ l[k]? = some (t, x) ∧ w.cell? ⟨b, off + k * 2, none⟩ = some (.int .u8 (t : Nat)) ∧ w.cell? ⟨b, off + k * 2 + 1, none⟩ = some (.int .i64 x) := by
  obtain ⟨b, off, ⟨t, x⟩, h1, h2, h3, h4, h5⟩ := h.at_ hk
  exact ⟨b, off, t, x, h1, h2, h3.1, h3.2, h4, h5 0 _ rfl, h5 1 _ rfl⟩
end
theorem ops_in {H : Type} {enc : TypeId × Value → H} {w : World} {sp : Nat → Bool} {held : Bool} {fuel : Nat} {a : Option Addr} {len cap : Nat} {x : DataW H × List MemPlace} (h : DataW.trod enc Try.prog w 0 sp held fuel 22 [.slice a len cap] = some x) :
    ∃ l : List (Nat × Int), l.length = len ∧ Lv oK w w.heap.size (.slice a len cap) l :=
  lv_open oK (by kernel_rfl) (fun fuel cs x h => by
    obtain ⟨hl, hf⟩ := dec_fields Try.underlying29 (by kernel_rfl) (by kernel_rfl) h
    obtain ⟨n0, v0, y0, h0, g0⟩ := hf 0 _ rfl
    obtain ⟨n1, v1, y1, h1, g1⟩ := hf 1 _ rfl
    obtain ⟨a0, rfl, w0⟩ := dec_int Try.underlying5 g0
    obtain ⟨a1, rfl, w1⟩ := dec_int Try.underlying3 g1
    have b0 := bounds_u8 w0
    have b1 := bounds_i64 w1
    obtain ⟨t, rfl⟩ := Int.eq_ofNat_of_zero_le b0.1
    refine ⟨(t, a1), ⟨by omega, by unfold I64; omega⟩, ?_⟩
    have hl2 : cs.length = 2 := hl
    match cs, hl2 with
    | [c0, c1], _ =>
      simp at h0 h1
      rw [h0, h1]
      rfl) h
end Go.Proofs.Ytiogmgpkaiicpaa
