/-
  stooklaw04.works: the digest of abc.
-/
import Derived.Test.YtejipcnihgpdhaaSpSum
import Derived.Test.YtejipcnihgpdhaaSpText
import Derived.Lib.SlBytesConst
namespace Go.Proofs.Ytejipcnihgpdhaa
open Go.RowKit
set_option linter.unusedVariables false

set_option maxRecDepth 100000 in
theorem abc_sum : Sh.sum [97, 98, 99] = [186, 120, 22, 191, 143, 1, 207, 234, 65, 65, 64, 222, 93, 174, 34, 35, 176, 3, 97, 163, 150, 23, 122, 156, 180, 16, 255, 97, 242, 0, 21, 173] := by decide +kernel
/-- The digest of abc, as Go's text. -/
abbrev abcText : ByteArray := { data := #[98, 97, 55, 56, 49, 54, 98, 102, 56, 102, 48, 49, 99, 102, 101, 97, 52, 49, 52, 49, 52, 48, 100, 101, 53, 100, 97, 101, 50, 50, 50, 51, 98, 48, 48, 51, 54, 49, 97, 51, 57, 54, 49, 55, 55, 97, 57, 99, 98, 52, 49, 48, 102, 102, 54, 49, 102, 50, 48, 48, 49, 53, 97, 100] }
set_option maxRecDepth 100000 in
theorem abc_text : txt (Sh.text (Sh.sum [97, 98, 99])) = abcText := by
  rw [abc_sum]
  kernel_rfl
theorem sum_len (l : List Nat) : (Sh.sum l).length = 32 := by unfold Sh.sum; exact St.bytes_len _
theorem sum_lt (l : List Nat) : ∀ x ∈ Sh.sum l, x < 256 := by unfold Sh.sum; exact St.bytes_lt _
def abc : Array Value := #[.int .u8 97, .int .u8 98, .int .u8 99]
theorem Bv.abc_ (w : World) : Bv (w.alloc (.cells abc 5 (3, 4))) (w.heap.size + 1) (.slice (some ⟨w.heap.size, 0, none⟩) 3 3) [97, 98, 99] := by
  refine ⟨some ⟨w.heap.size, 0, none⟩, 3, rfl, by decide, by simp [maxLen], by simp, by decide, fun _ => ⟨w.heap.size, 0, rfl, by omega, fun j c hj => ?_⟩⟩
  rw [Nat.zero_add, World.cell?_alloc_mark]
  have hl : j < 3 := (List.getElem?_eq_some_iff.1 hj).1
  have h : ∀ j, j < 3 → ∀ c, [97, 98, 99][j]? = some c → abc[j]? = some (.int .u8 (c : Nat)) := by
    intro j hj c hc
    rcases j with _|_|_|j
    all_goals first | (simp at hc; subst hc; rfl) | omega
  exact h j hl c hj

set_option maxHeartbeats 1000000 in
set_option maxRecDepth 100000 in
theorem works_any (w : World) : Calls Try.prog 12 #[] w (IsBool true w) := by
  have HB := Lib.hid (Bv.abc_ w)
  have hcv : (convert 28 28 (.slice (some ⟨w.heap.size, 0, none⟩) 3 3)).run Try.prog (w.alloc (.cells #[.int .u8 97, .int .u8 98, .int .u8 99] 5)) = .ok (.slice (some ⟨w.heap.size, 0, none⟩) 3 3) (w.alloc (.cells abc 5 (3, 4))) :=
    Lib.run_convert_bytes_const w 28 5 abc 3 3 Try.underlying28 Try.underlying5
  have HS := Lib.hid (sum_any (.slice (some ⟨w.heap.size, 0, none⟩) 3 3) [97, 98, 99] (w.heap.size + 1) _ (by simp) HB.out (by simp))
  have HT : Hid (∀ w, Calls Try.prog 20 #[.agg (bvs (Sh.sum [97, 98, 99]))] w (fun e w' => e = .returned (.string abcText) ∧ Below w.heap.size w w')) := fun w => by
    have := text_any (Sh.sum [97, 98, 99]) (sum_len _) (sum_lt _) w
    rw [abc_text] at this
    exact this
  obtain ⟨c, hc⟩ : ∃ c, bvs (Sh.sum [97, 98, 99]) = c := ⟨_, rfl⟩
  rw [hc] at HS HT
  clear hc HB
  have hb0 : Hid (Below w.heap.size w (w.alloc (.cells abc 5 (3, 4)))) := (Below.refl _ _).alloc (Nat.le_refl _) _
  go_enter Try.func12, Try.ntmps12
  go_wp2_with (first
    | (go_at_call 16; refine HS.out.mono ?_; rintro e w1 ⟨rfl, hb1⟩; have HB1 := Lib.hid (hb0.out.trans (hb1.mono (by simp))); clear hb1)
    | (go_at_call 20; (with_reducible refine (HT.out _).mono ?_); rintro e w2 ⟨rfl, hb2⟩; have HB2 := Lib.hid (HB1.out.trans (hb2.mono HB1.out.size)); clear hb2))
  go_ret
  exact ⟨rfl, HB2.out⟩
end Go.Proofs.Ytejipcnihgpdhaa
