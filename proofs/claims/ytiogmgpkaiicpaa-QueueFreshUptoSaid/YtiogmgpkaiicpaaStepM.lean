/-
  An element put behind an own list at a step of a region that draws its order; and where the list lies then.
-/
import Derived.Test.YtiogmgpkaiicpaaEl
namespace Go.Proofs.Ytiogmgpkaiicpaa
open Go.RowKit
set_option linter.unusedVariables false

section
variable {P : Program} {α : Type}
theorem step_append_m (w : World) {ops : Array Oper} {o : Oper} {a : Act} {K' : Act → World → Prop} {Q : Exit → Act → World → Prop} {E : Prop} (K : El P α) (hgd : o.guard = none) (s t : Operand)
    (ho : o.op = .call { callee := .builtin .append, args := #[s, t], argTypes := #[K.s, K.s] })
    (base : Nat) (v : Value) (hs : a.eval s = v) (l : List α) (hown : OwnL K w base v l) (x : Value) (hx0 : a.eval t = x) (B : Nat) (m : List α) (hx : Lv K w B x m) (hsz : (l.length + m.length) * K.bytes ≤ 140737488355328) (h63 : l.length + m.length ≤ maxLen) (hbase : base ≤ w.heap.size)
    (h : ∀ A c w', OwnL K w' base (.slice A (l ++ m).length c) (l ++ m) → w.grownBy w' v.ownBlock → Moved w v (.slice A (l ++ m).length c) → K' (a.put o.dst (.slice A (l ++ m).length c)) w') :
    if Region.wanted o (yielded ops a.tmps) = true then Oper.wp P o a w K' Q else E := by
  have hw : Region.wanted o (yielded ops a.tmps) = true := by simp [Region.wanted, hgd]
  rw [if_pos hw]
  obtain ⟨v', w', hr, hA, hG, hM⟩ := run_append_m w base v l hown o.type x B m hx hsz h63 hbase
  obtain ⟨A, c, rfl, _⟩ := hA.form_
  unfold Oper.wp execOp
  simp only [ho, resolve, invoke, builtin, Sem.run_bind, Sem.run_pure, Result.andThen_ok, List.map_toArray, List.map_cons, List.map_nil, hs, hx0, hr]
  exact h A c w' hA hG hM
theorem step_push_m (w : World) {ops : Array Oper} {o : Oper} {a : Act} {K' : Act → World → Prop} {Q : Exit → Act → World → Prop} {E : Prop} (K : El P α) (hgd : o.guard = none) (s t : Operand)
    (ho : o.op = .call { callee := .builtin .append, args := #[s, t], argTypes := #[K.s, K.s] })
    (base : Nat) (v : Value) (hs : a.eval s = v) (l : List α) (hown : OwnL K w base v l) (ht : a.eval t = .slice (some ⟨w.heap.size, 0, none⟩) 1 1) (x : α) (hx : K.ok x) (cs : Array Value) (hcs : cs = (K.enc x).toArray) (e : TypeId) (he : e = K.e) (hsz : (l.length + 1) * K.bytes ≤ 140737488355328) (h63 : l.length + 1 ≤ maxLen) (hbase : base ≤ w.heap.size)
    (h : ∀ A c w', OwnL K w' base (.slice A (l.length + 1) c) (l ++ [x]) → w.grownBy w' v.ownBlock → Moved w v (.slice A (l.length + 1) c) → K' (a.put o.dst (.slice A (l.length + 1) c)) w') :
    if Region.wanted o (yielded ops a.tmps) = true then Oper.wp P o a (w.alloc (.cells cs e)) K' Q else E := by
  subst hcs he
  refine step_append_m _ K hgd s t ho base v hs l (hown.alloc_ _) _ ht _ [x] (Lv.lit_ w hx) (by simpa using hsz) (by simpa using h63) (by simp; omega) fun A c w' h1 h2 h3 => ?_
  rw [List.length_append, List.length_singleton] at h1 h3 ⊢
  exact h A c w' h1 (grown_alloc h2) (fun k hk => (h3 k hk).imp id (fun h => by simp at h; omega))
end
end Go.Proofs.Ytiogmgpkaiicpaa
