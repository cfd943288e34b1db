/-
  append on a slice of bytes that the call itself made, at a step of a region that draws its order.
-/
import Derived.Test.YtapedjcchcgoeaaApp
import Derived.RegionTactic
namespace Go.Proofs.Ytapedjcchcgoeaa
open Go.RowKit

theorem step_append_bytes (w : World) {ops : Array Oper} {o : Oper} {a : Act} {K : Act → World → Prop} {Q : Exit → Act → World → Prop} {E : Prop} (hgd : o.guard = none) (s t : Operand)
    (ho : o.op = .call { callee := .builtin .append, args := #[s, t], argTypes := #[28, 28] }) (hty : o.type = 28)
    (base : Nat) (v : Value) (hs : a.eval s = v) (l : List Nat) (hown : OwnB w base v l) (x : Value) (hx0 : a.eval t = x) (B : Nat) (m : List Nat) (hx : Bv w B x m) (hsz : l.length + m.length ≤ 140737488355328) (hbase : base ≤ w.heap.size)
    (h : ∀ A c w', Apd w w' base v (.slice A (l ++ m).length c) (l ++ m) → K (a.put o.dst (.slice A (l ++ m).length c)) w') :
    if Region.wanted o (yielded ops a.tmps) = true then Oper.wp Try.prog o a w K Q else E := by
  have hw : Region.wanted o (yielded ops a.tmps) = true := by simp [Region.wanted, hgd]
  rw [if_pos hw]
  obtain ⟨v', w', hr, hA⟩ := run_append_bytes w base v l hown x B m hx hsz hbase
  obtain ⟨A, c, rfl, _⟩ := hA.own.form_
  unfold Oper.wp execOp
  simp only [ho, resolve, invoke, builtin, Sem.run_bind, Sem.run_pure, Result.andThen_ok, List.map_toArray, List.map_cons, List.map_nil, hs, hx0, hr, hty]
  exact h A c w' hA
end Go.Proofs.Ytapedjcchcgoeaa
