/-
  BvLv: Bytes in two words: Bv (layers 1 to 4) and Lv yK.
  Cat: Rows, one behind the other.
  KI64: What fits into an int.
-/
import Derived.Test.YtlefkaoibokjdaaPf01
import Derived.Test.YtlefkaoibokjdaaPf02
import Derived.Outline
namespace Go.Proofs.Ytlefkaoibokjdaa
open Go.RowKit
set_option linter.unusedVariables false

theorem octs_flat (l : List Nat) : yK.flat l = l.map u8 := by
  show l.flatMap (fun x => [u8 x]) = l.map u8
  induction l with
  | nil => rfl
  | cons x r ih => rw [List.flatMap_cons, ih]; rfl
theorem Bv.lv_ {w : World} {B : Nat} {v : Value} {l : List Nat} (h : Bv w B v l) : Lv yK w B v l := by
  obtain ⟨A, c, e, h1, h2, h3, h4, h5⟩ := h
  refine ⟨A, c, e, h1, h2, h3, h4, fun hp => ?_⟩
  obtain ⟨b, off, hA, hb, hc⟩ := h5 hp
  refine ⟨b, off, hA, hb, fun j u hj => ?_⟩
  have hf := octs_flat l
  rw [hf, List.getElem?_map] at hj
  cases hx : l[j]? with
  | none => rw [hx] at hj; cases hj
  | some x =>
    rw [hx] at hj
    cases hj
    exact hc j x hx
theorem Lv.bv_ {w : World} {B : Nat} {v : Value} {l : List Nat} (h : Lv yK w B v l) : Bv w B v l := by
  obtain ⟨A, c, e, h1, h2, h3, h4, h5⟩ := h
  refine ⟨A, c, e, h1, h2, h3, h4, fun hp => ?_⟩
  obtain ⟨b, off, hA, hb, hc⟩ := h5 hp
  refine ⟨b, off, hA, hb, fun j x hj => hc j (u8 x) ?_⟩
  have hf := octs_flat l
  rw [hf, List.getElem?_map, hj]
  rfl
end Go.Proofs.Ytlefkaoibokjdaa
namespace Go.Proofs.Ytlefkaoibokjdaa

/-- All rows, one behind the other. -/
def cat (ls : List (List Nat)) : List Nat := ls.flatten
theorem flat_succ {ls : List (List Nat)} {k : Nat} {l : List Nat} (h : ls[k]? = some l) : cat (ls.take (k + 1)) = cat (ls.take k) ++ l := by
  unfold cat
  rw [List.take_add_one, h]; simp
theorem flat_le (ls : List (List Nat)) (k : Nat) : (cat (ls.take k)).length ≤ (cat ls).length := by
  unfold cat
  have h := List.take_append_drop k ls
  have h2 := congrArg (fun x => x.flatten.length) h
  simp only [List.flatten_append, List.length_append] at h2
  omega

end Go.Proofs.Ytlefkaoibokjdaa
namespace Go.Proofs.Ytlefkaoibokjdaa
/-- What fits into an int. -/
def I64 (x : Int) : Prop := -9223372036854775808 ≤ x ∧ x < 9223372036854775808
theorem i64_nat {n : Nat} (h : n < 9223372036854775808) : I64 (n : Int) := by unfold I64; omega
theorem i64_wrap {x : Int} (h : I64 x) : IntKind.i64.wrap x = x := by unfold I64 at h; rw [IntKind.wrap_i64]; omega
end Go.Proofs.Ytlefkaoibokjdaa
