/-
  The kind of elements api.Piece: slices of pieces; a vocabulary's value.
-/
import Derived.Test.YtgkmlcghkkpgpaaOpenL
import Derived.Test.YtgkmlcghkkpgpaaKInt
import Derived.Test.YtgkmlcghkkpgpaaVoMath
namespace Go.Proofs.Ytgkmlcghkkpgpaa
open Go.ChangeShapes Go.WideShapes Go.RowKit
set_option linter.unusedVariables false

def PcOk (x : Vo.Pc) : Prop := x.byte < 256 ∧ I64 x.left ∧ I64 x.right ∧ x.rank < 4294967296
def pcV (x : Vo.Pc) : Value := .agg #[.bool x.join, .int .u8 (x.byte : Nat), .int .i64 x.left, .int .i64 x.right, .int .u32 (x.rank : Nat)]
def pK : El Try.prog Vo.Pc where
  e := 33
  s := 22
  size := 5
  bytes := 32
  zero := .agg #[.bool false, .int .u8 0, .int .i64 0, .int .i64 0, .int .u32 0]
  z := ⟨false, 0, 0, 0, 0⟩
  enc := fun x => [.bool x.join, .int .u8 (x.byte : Nat), .int .i64 x.left, .int .i64 x.right, .int .u32 (x.rank : Nat)]
  ok := PcOk
  len := fun _ => rfl
  one := fun x u hu => by simp at hu; rcases hu with rfl | rfl | rfl | rfl | rfl <;> rfl
  okz := by simp [PcOk, I64]
  encz := rfl
  pos := by decide
  under := Try.underlying22
  info := by kernel_rfl

section
variable {w : World} {base B n c : Nat} {A : Option Addr} {l : List Vo.Pc}
theorem Lv.piece_ (h : Lv pK w B (.slice A n c) l) {k : Nat} (hk : k < l.length) :
    ∃ b off x, A = some ⟨b, off, none⟩ ∧ b < B ∧ PcOk x ∧ l[k]? = some x ∧ w.cell? ⟨b, off + k * 5, none⟩ = some (.bool x.join) ∧ w.cell? ⟨b, off + k * 5 + 1, none⟩ = some (.int .u8 (x.byte : Nat)) ∧
      w.cell? ⟨b, off + k * 5 + 2, none⟩ = some (.int .i64 x.left) ∧ w.cell? ⟨b, off + k * 5 + 3, none⟩ = some (.int .i64 x.right) ∧ w.cell? ⟨b, off + k * 5 + 4, none⟩ = some (.int .u32 (x.rank : Nat)) := by
  obtain ⟨b, off, x, h1, h2, h3, h4, h5⟩ := h.at_ hk
  exact ⟨b, off, x, h1, h2, h3, h4, h5 0 _ rfl, h5 1 _ rfl, h5 2 _ rfl, h5 3 _ rfl, h5 4 _ rfl⟩
end
theorem pieces_in {H : Type} {enc : TypeId × Value → H} {w : World} {sp : Nat → Bool} {held : Bool} {fuel : Nat} {a : Option Addr} {len cap : Nat} {x : DataW H × List MemPlace} (h : DataW.trod enc Try.prog w 0 sp held fuel 22 [.slice a len cap] = some x) :
    ∃ l : List Vo.Pc, l.length = len ∧ Lv pK w w.heap.size (.slice a len cap) l :=
  lv_open pK (by kernel_rfl) (fun fuel cs x h => by
    obtain ⟨hl, hf⟩ := dec_fields Try.underlying33 (by kernel_rfl) (by kernel_rfl) h
    obtain ⟨n0, v0, y0, h0, g0⟩ := hf 0 _ rfl
    obtain ⟨n1, v1, y1, h1, g1⟩ := hf 1 _ rfl
    obtain ⟨n2, v2, y2, h2, g2⟩ := hf 2 _ rfl
    obtain ⟨n3, v3, y3, h3, g3⟩ := hf 3 _ rfl
    obtain ⟨n4, v4, y4, h4, g4⟩ := hf 4 _ rfl
    obtain ⟨a0, rfl⟩ := dec_bool Try.underlying4 g0
    obtain ⟨a1, rfl, w1⟩ := dec_int Try.underlying5 g1
    obtain ⟨a2, rfl, w2⟩ := dec_int Try.underlying3 g2
    obtain ⟨a3, rfl, w3⟩ := dec_int Try.underlying3 g3
    obtain ⟨a4, rfl, w4⟩ := dec_int Try.underlying31 g4
    have b1 := bounds_u8 w1
    have b2 := bounds_i64 w2
    have b3 := bounds_i64 w3
    have b4 := bounds_u32 w4
    obtain ⟨t1, rfl⟩ := Int.eq_ofNat_of_zero_le b1.1
    obtain ⟨t4, rfl⟩ := Int.eq_ofNat_of_zero_le b4.1
    refine ⟨⟨a0, t1, a2, a3, t4⟩, ⟨(by show t1 < 256; omega), (by show -9223372036854775808 ≤ a2 ∧ a2 < 9223372036854775808; omega), (by show -9223372036854775808 ≤ a3 ∧ a3 < 9223372036854775808; omega), (by show t4 < 4294967296; omega)⟩, ?_⟩
    have hl2 : cs.length = 5 := hl
    match cs, hl2 with
    | [c0, c1, c2, c3, c4], _ =>
      simp at h0 h1 h2 h3 h4
      rw [h0, h1, h2, h3, h4]
      rfl) h
end Go.Proofs.Ytgkmlcghkkpgpaa
