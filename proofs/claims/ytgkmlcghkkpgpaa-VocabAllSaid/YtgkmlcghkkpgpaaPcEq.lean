/-
  Two pieces are compared.
-/
import Derived.Test.YtgkmlcghkkpgpaaKPiece
import Derived.Laws.StructEq
namespace Go.Proofs.Ytgkmlcghkkpgpaa
open Go.RowKit
set_option linter.unusedVariables false

namespace Vo
def eqB (p q : Pc) : Bool := p.join == q.join && (p.byte : Int) == (q.byte : Int) && p.left == q.left && p.right == q.right && (p.rank : Int) == (q.rank : Int)
theorem eqB_iff {p q : Pc} : eqB p q = true ↔ p = q := by
  obtain ⟨a, b, c, d, e⟩ := p
  obtain ⟨a', b', c', d', e'⟩ := q
  simp [eqB, and_assoc]
  omega
instance : DecidableEq Pc := fun p q => decidable_of_iff (eqB p q = true) eqB_iff
end Vo
theorem pc_equalIn (p q : Vo.Pc) (w : World) : (Op.equalIn 10000 33 (pcV p) (pcV q)).run Try.prog w = .ok (Vo.eqB p q) w := by
  have hS : Try.prog.underlying 33 = some (.struct (Try.prog.fieldsOf 33)) := by kernel_rfl
  obtain ⟨a, b, c, d, e⟩ := p
  obtain ⟨a', b', c', d', e'⟩ := q
  unfold pcV Vo.eqB
  rw [show (10000 : Nat) = 9999 + 1 from rfl, run_equalIn_agg w 9999 _ _ _ hS (by kernel_rfl)]
  simp only [Program.fieldsOf, Try.underlying33]
  go_simp
  by_cases h1 : a = a' <;> by_cases h2 : (b : Int) = b' <;> by_cases h3 : c = c' <;> by_cases h4 : d = d' <;> by_cases h5 : (e : Int) = e' <;> simp [h1, h2, h3, h4, h5]
theorem pc_guard : Try.prog.eqGuardType Try.prog.depth 33 = false := by kernel_rfl
theorem pc_neq (p q : Vo.Pc) (w : World) : (binOp .neq 33 (pcV p) (pcV q)).run Try.prog w = .ok (.bool (!Vo.eqB p q)) w := by
  have h := pc_equalIn p q w
  unfold pcV at h ⊢
  rw [run_neq_struct, h]
  rfl
end Go.Proofs.Ytgkmlcghkkpgpaa
