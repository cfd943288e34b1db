/-
  From what a row says of a slice of bytes to a list (Lv yK).
-/
import Derived.Test.YtdmomnpmicagcaaOpenL
import Derived.Test.YtdmomnpmicagcaaKByte
namespace Go.Proofs.Ytdmomnpmicagcaa
open Go.ChangeShapes Go.WideShapes Go.RowKit
set_option linter.unusedVariables false

theorem octs_in {H : Type} {enc : TypeId × Value → H} {w : World} {sp : Nat → Bool} {held : Bool} {fuel : Nat} {a : Option Addr} {len cap : Nat} {x : DataW H × List MemPlace} (h : DataW.trod enc Try.prog w 0 sp held fuel 22 [.slice a len cap] = some x) :
    ∃ l : List Nat, l.length = len ∧ Lv yK w w.heap.size (.slice a len cap) l :=
  lv_open yK (by kernel_rfl) (fun fuel cs x h => by
    obtain ⟨n, rfl, _, hw⟩ := DataW.trod_int Try.underlying5 h
    have hb := bounds_u8 hw
    obtain ⟨t, rfl⟩ := Int.eq_ofNat_of_zero_le hb.1
    exact ⟨t, (by show _ < _; omega), rfl⟩) h
end Go.Proofs.Ytdmomnpmicagcaa
