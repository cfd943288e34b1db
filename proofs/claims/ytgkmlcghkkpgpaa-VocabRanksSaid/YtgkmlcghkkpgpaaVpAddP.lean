/-
  vocab.seen's add.
-/
import Derived.Test.YtgkmlcghkkpgpaaVpByte
import Derived.Test.YtgkmlcghkkpgpaaVpJoin
import Derived.Test.YtgkmlcghkkpgpaaRVoD
namespace Go.Proofs.Ytgkmlcghkkpgpaa
open Go.RowKit Go.Maps
set_option linter.unusedVariables false

set_option maxHeartbeats 1000000 in
theorem padd_any {w : World} {sb base : Nat} {D : List Vo.Pc} (h : SeenD w sb base D) (p : Vo.Pc) (hp : PcOk p) (hD : D.length ≤ 4096) (hg : Vo.Good D) (hb : base ≤ w.heap.size) :
    Calls Try.prog 37 #[.pointer (some ⟨sb, 0, none⟩), pcV p] w (IsAdd sb base D p w) := by
  obtain ⟨W, hW⟩ : ∃ W, w.alloc (.cells #[.bool p.join, .int .u8 (p.byte : Nat), .int .i64 p.left, .int .i64 p.right, .int .u32 (p.rank : Nat)] 33) = W := ⟨_, rfl⟩
  obtain ⟨⟨_, hx⟩, hbx⟩ := pboxed hW
  have c0 := hx 0 _ rfl
  have c1 := hx 1 _ rfl
  have c2 := hx 2 _ rfl
  have c3 := hx 3 _ rfl
  have c4 := hx 4 _ rfl
  have hS := h.to_ hbx
  have HB := Lib.hid (hbx.mono hb)
  have hbW : base ≤ W.heap.size := Nat.le_trans hb hbx.size
  have hfin : ∀ e w', IsAdd sb base D p W e w' → IsAdd sb base D p w e w' := fun e w' h => ⟨h.1, h.2.1, HB.out.trans h.2.2⟩
  have HF := Lib.hid hfin
  cases hj : p.join with
  | true =>
    have HC := Lib.hid (paddJoin_any hS p hp hj hD hg hbW)
    unfold pcV at HC ⊢
    rw [hj] at c0 hW HC ⊢
    clear hx hbx hfin hS h hj
    go_enter Try.func37, Try.ntmps37
    go_wp2_with (fail)
    refine HC.out.mono ?_
    rintro e w' h
    have HE := Lib.hid h
    obtain ⟨rfl, _⟩ := h
    clear HC
    go_wp2
    go_ret
    exact HF.out _ _ HE.out
  | false =>
    have HC := Lib.hid (paddByte_any hS p hp hj hD hbW)
    unfold pcV at HC ⊢
    rw [hj] at c0 hW HC ⊢
    clear hx hbx hfin hS h hj
    go_enter Try.func37, Try.ntmps37
    go_wp2_with (fail)
    refine HC.out.mono ?_
    rintro e w' h
    have HE := Lib.hid h
    obtain ⟨rfl, _⟩ := h
    clear HC
    go_wp2
    go_ret
    exact HF.out _ _ HE.out

end Go.Proofs.Ytgkmlcghkkpgpaa
