/-
  KI64: What fits into an int.
  KWord: The kind of elements uint64: slices of uint64.
  KlAns: A call that answers a kind, bytes and an error.
-/
import Derived.Outline
import Derived.Test.YtoefogmjekcbeaaPk02
import Derived.Test.YtoefogmjekcbeaaProg
import Derived.Test.YtoefogmjekcbeaaPk06
namespace Go.Proofs.Ytoefogmjekcbeaa
/-- What fits into an int. -/
def I64 (x : Int) : Prop := -9223372036854775808 ≤ x ∧ x < 9223372036854775808
theorem i64_nat {n : Nat} (h : n < 9223372036854775808) : I64 (n : Int) := by unfold I64; omega
theorem i64_wrap {x : Int} (h : I64 x) : IntKind.i64.wrap x = x := by unfold I64 at h; rw [IntKind.wrap_i64]; omega
end Go.Proofs.Ytoefogmjekcbeaa
namespace Go.Proofs.Ytoefogmjekcbeaa
open Go.RowKit
set_option linter.unusedVariables false

/-- What fits into a word. -/
def U64 (x : Nat) : Prop := x < 18446744073709551616
def wK : El Try.prog Nat where
  e := 22
  s := 41
  size := 1
  bytes := 8
  zero := .int .u64 0
  z := 0
  enc := fun x => [.int .u64 (x : Nat)]
  ok := U64
  len := fun _ => rfl
  one := fun x u hu => by simp at hu; subst hu; rfl
  okz := by unfold U64; omega
  encz := rfl
  pos := by decide
  under := Try.underlying41
  info := by kernel_rfl

section
variable {w : World} {base B n c : Nat} {A : Option Addr} {l : List Nat}
theorem Lv.word_ (h : Lv wK w B (.slice A n c) l) {k : Nat} (hk : k < l.length) :
    ∃ b off x, A = some ⟨b, off, none⟩ ∧ b < B ∧ U64 x ∧ l[k]? = some x ∧ w.cell? ⟨b, off + k, none⟩ = some (.int .u64 (x : Nat)) := by
  obtain ⟨b, off, x, h1, h2, h3, h4, h5⟩ := h.at_ hk
  have h6 := h5 0 (.int .u64 (x : Nat)) rfl
  refine ⟨b, off, x, h1, h2, h3, h4, ?_⟩
  have e : off + (k * wK.size + 0) = off + k := by show off + (k * 1 + 0) = _; omega
  rw [e] at h6
  exact h6
theorem OwnL.word_ (h : OwnL wK w base (.slice A n c) l) {k : Nat} (hk : k < l.length) :
    ∃ g x, A = some ⟨g, 0, none⟩ ∧ n = l.length ∧ base ≤ g ∧ U64 x ∧ l[k]? = some x ∧ w.cell? ⟨g, k, none⟩ = some (.int .u64 (x : Nat)) ∧ w.frozen? ⟨g, k, none⟩ = false := by
  obtain ⟨g, x, h1, h2, h3, h4, h5, h6, h7⟩ := h.at_ hk
  have h8 := h6 0 (.int .u64 (x : Nat)) rfl
  refine ⟨g, x, h1, h2, h3, h4, h5, ?_, h7 k⟩
  have e : k * wK.size + 0 = k := by show k * 1 + 0 = _; omega
  rw [e] at h8
  exact h8
theorem OwnL.setWord_ {g : Nat} (h : OwnL wK w base (.slice (some ⟨g, 0, none⟩) n c) l) {j : Nat} (hj : j < l.length) {x : Nat} (hx : U64 x) :
    OwnL wK (w.setCell ⟨g, j, none⟩ (.int .u64 (x : Nat))) base (.slice (some ⟨g, 0, none⟩) n c) (l.set j x) ∧ w.grownBy (w.setCell ⟨g, j, none⟩ (.int .u64 (x : Nat))) (some g) := h.set_ rfl hj hx rfl
end
end Go.Proofs.Ytoefogmjekcbeaa
namespace Go.Proofs.Ytoefogmjekcbeaa
open Go.RowKit
set_option linter.unusedVariables false
/-- A call that answers a kind, bytes in new memory, and an error. -/
def IsKL (r : Nat × List Nat × Nat) (w : World) (e : Ending) (w' : World) : Prop :=
  ∃ A c, e = .returned (.tuple #[.int .u8 (r.1 : Nat), .slice A r.2.1.length c, .int .i64 (r.2.2 : Nat)]) ∧ OwnL yK w' w.heap.size (.slice A r.2.1.length c) r.2.1 ∧ Below w.heap.size w w'
theorem IsKL.none_b {w w' : World} {r : Nat × List Nat × Nat} {e : Nat} {x y : Int} (h : r = (0, [], e)) (hx : x = (e : Nat)) (hy : y = 0) (hb : Below w.heap.size w w') : IsKL r w (.returned (.tuple #[.int .u8 y, .slice none 0 0, .int .i64 x])) w' := by
  subst h hx hy; exact ⟨none, 0, rfl, OwnL.nil_ _ _ _, hb⟩
theorem IsKL.of {w w' : World} {r : Nat × List Nat × Nat} {k n c : Nat} {l : List Nat} {A : Option Addr} {x : Int} (h : r = (k, l, 0)) (hn : n = l.length) (hx : x = 0) (ho : OwnL yK w' w.heap.size (.slice A n c) l) (hb : Below w.heap.size w w') :
    IsKL r w (.returned (.tuple #[.int .u8 (k : Nat), .slice A n c, .int .i64 x])) w' := by
  subst h hx hn; exact ⟨A, c, rfl, ho, hb⟩

end Go.Proofs.Ytoefogmjekcbeaa
