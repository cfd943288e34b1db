/-
  Two states added, word by word, as Go's cells.
-/
import Derived.Test.YtejipcnihgpdhaaShPressA
namespace Go.Proofs.Ytejipcnihgpdhaa
open Go.RowKit
set_option linter.unusedVariables false

/-- The state's array, to whose first k words those of another one are added. -/
def addk (s t : Sh.St) (k : Nat) : Array Value := #[wv (if 0 < k then s.a + t.a else s.a), wv (if 1 < k then s.b + t.b else s.b), wv (if 2 < k then s.c + t.c else s.c), wv (if 3 < k then s.d + t.d else s.d), wv (if 4 < k then s.e + t.e else s.e), wv (if 5 < k then s.f + t.f else s.f), wv (if 6 < k then s.g + t.g else s.g), wv (if 7 < k then s.h + t.h else s.h)]
theorem addk_zero (s t : Sh.St) : addk s t 0 = stv s := rfl
theorem addk_end (s t : Sh.St) : addk s t 8 = stv (s.add t) := rfl
theorem addk_step (s t : Sh.St) {k : Nat} (h : k < 8) : ∃ x y, (addk s t k)[k]? = some (.int .u32 (nt x : Nat)) ∧ (stv t)[k]? = some (.int .u32 (nt y : Nat)) ∧ (addk s t k).setIfInBounds k (.int .u32 (nt (x + y) : Nat)) = addk s t (k + 1) := by
  rcases k with _|_|_|_|_|_|_|_|k
  · exact ⟨s.a, t.a, rfl, rfl, rfl⟩
  · exact ⟨s.b, t.b, rfl, rfl, rfl⟩
  · exact ⟨s.c, t.c, rfl, rfl, rfl⟩
  · exact ⟨s.d, t.d, rfl, rfl, rfl⟩
  · exact ⟨s.e, t.e, rfl, rfl, rfl⟩
  · exact ⟨s.f, t.f, rfl, rfl, rfl⟩
  · exact ⟨s.g, t.g, rfl, rfl, rfl⟩
  · exact ⟨s.h, t.h, rfl, rfl, rfl⟩
  · omega
theorem stv_size8 (s : Sh.St) : (Try.prog.info? 23).map (·.size) = some (stv s).size := by rw [stv_size]; exact size23

end Go.Proofs.Ytejipcnihgpdhaa
