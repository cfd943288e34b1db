/-
  strings.IndexByte, and the digits: where a letter stands among them.
-/
import Derived.Test.YtejipcnihgpdhaaSpText
import Derived.Test.YtejipcnihgpdhaaShParse
import Derived.Lib.Bytealg
import Derived.BigCall
namespace Go.Proofs.Ytejipcnihgpdhaa
open Go.RowKit
set_option linter.unusedVariables false

set_option maxHeartbeats 1000000 in
set_option maxRecDepth 100000 in
theorem lite_any (s : ByteArray) (c : Int) (w : World) :
    Calls Try.prog 44 #[.string s, .int .u8 c] w (fun e w' => e = .returned (.int .i64 (Lib.indexByte s.data.toList c.toNat.toUInt8)) ∧ w = w') := by
  go_enter Try.func44, Try.ntmps44
  go_wp2
  rw [run_callFunc_extern Try.func46 (by kernel_rfl) (by kernel_rfl) (by kernel_rfl) (e := Extern.BytealgIndexByte.indexByte) (by kernel_rfl), Lib.run_indexByteString]
  simp only [Result.andThen]
  rw [Oper.upon_value]
  go_wp2
  go_ret
  exact ⟨rfl, rfl⟩

set_option maxHeartbeats 1000000 in
set_option maxRecDepth 100000 in
theorem index_any (s : ByteArray) (c : Int) (w : World) :
    Calls Try.prog 36 #[.string s, .int .u8 c] w (fun e w' => e = .returned (.int .i64 (Lib.indexByte s.data.toList c.toNat.toUInt8)) ∧ w = w') := by
  have HLI := Lib.hid (fun w => lite_any s c w)
  go_enter Try.func36, Try.ntmps36
  go_wp2_with (go_at_call 44; (with_reducible refine (HLI.out _).mono ?_); rintro e' w' ⟨rfl, rfl⟩)
  go_ret
  exact ⟨rfl, rfl⟩
/-- Where a letter stands among the digits, or none. -/
def Sh.at_ (c : Nat) : Int := if Sh.val c = 16 then -1 else Sh.val c
theorem digit_index : ∀ c : Nat, c < 256 → Lib.indexByte dgs.data.toList ((c : Int)).toNat.toUInt8 = Sh.at_ c := by decide +kernel
theorem sign_any (c : Nat) (h : c < 256) (w : World) :
    Calls Try.prog 36 #[.string dgs, .int .u8 (c : Nat)] w (fun e w' => e = .returned (.int .i64 (Sh.at_ c)) ∧ w = w') := by
  have := index_any dgs (c : Int) w
  rwa [digit_index c h] at this
theorem at_val {c : Nat} (h : Sh.val c < 16) : Sh.at_ c = (Sh.val c : Int) := by unfold Sh.at_; rw [if_neg (by omega)]
theorem at_none {c : Nat} (h : Sh.val c = 16) : Sh.at_ c = -1 := by unfold Sh.at_; rw [if_pos h]
/-- Two digits in one byte. -/
theorem two_bits : ∀ p < 16, ∀ q < 16, bits BinOp.or IntKind.i64 (((p : Nat) : Int) * 16) ((q : Nat) : Int) = ((16 * p + q : Nat) : Int) := by decide +kernel
end Go.Proofs.Ytejipcnihgpdhaa
