/-
  From what a row says of a vocabulary (api.Vocab by value) to a list of pieces.
-/
import Derived.Test.YtgkmlcghkkpgpaaFrameN
import Derived.Test.YtgkmlcghkkpgpaaKPiece
namespace Go.Proofs.Ytgkmlcghkkpgpaa
open Go.ChangeShapes Go.WideShapes Go.RowKit Go.Deep
set_option linter.unusedVariables false

/-- The pieces of a vocabulary by value. -/
theorem pieces_field (u : Value) (w : World) : (Instr.field 24 (.agg #[u]) 0).run Try.prog w = .ok u w := by
  simp [Instr.field, go_sem, part, run_underlying Try.underlying24, asAgg]
theorem bounds_i64' {a : Int} (h : (Lit.int .i64 a).wf = true) : I64 a := by
  have := bounds_i64 h
  unfold I64
  omega
set_option maxRecDepth 100000 in
theorem voc_in {H : Type} {enc : TypeId × Value → H} {w : World} {b : Nat} {sp : Nat → Bool} {held : Bool} {v : Value} {d : DataW H} {p : List MemPlace}
    (hok : Value.okWide Try.prog w .any b 24 v) (h : DataW.Trod enc Try.prog w 0 sp held 24 v d p) : ∃ (u : Value) (l : List Vo.Pc), v = .agg #[u] ∧ Lv pK w w.heap.size u l := by
  obtain ⟨cs, rfl, hsz⟩ := okWide_struct Try.underlying24 hok
  obtain ⟨fuel, hf⟩ := h
  obtain ⟨hl, hx⟩ := dec_fields Try.underlying24 (by kernel_rfl) (by kernel_rfl) hf
  obtain ⟨n0, v0, y0, h0, g0⟩ := hx 0 _ rfl
  have hsz1 : cs.size = 1 := hl
  have hcs : cs = #[v0] := by
    apply Array.ext_getElem?
    intro i
    cases i with
    | zero => simpa [Value.cells] using h0
    | succ i => rw [Array.getElem?_eq_none (by omega), Array.getElem?_eq_none (by simp)]
  subst hcs
  have hv0 : ∃ a n c, v0 = .slice a n c := by
    rcases open_slice Try.underlying22 g0 with ⟨h1, _⟩ | ⟨_, _, _, _, _, _, _, h1, _⟩
    · exact ⟨_, _, _, by simpa using h1⟩
    · exact ⟨_, _, _, by simpa using h1⟩
  obtain ⟨a, n, c, rfl⟩ := hv0
  obtain ⟨l, _, hb⟩ := pieces_in g0
  exact ⟨_, l, rfl, hb⟩
end Go.Proofs.Ytgkmlcghkkpgpaa
