/-
  Bytes as the cells of an array.
-/
import Derived.Test.YtdmomnpmicagcaaApp
namespace Go.Proofs.Ytdmomnpmicagcaa
open Go.RowKit
set_option linter.unusedVariables false
/-- Bytes as the cells of an array. -/
def bvs (l : List Nat) : Array Value := (l.map u8).toArray
theorem bvs_size (l : List Nat) : (bvs l).size = l.length := by simp [bvs]
theorem bvs_at (l : List Nat) {k : Nat} (h : k < l.length) : (bvs l)[k]? = some (.int .u8 (l.getD k 0 : Nat)) := by
  simp [bvs, u8, List.getD, List.getElem?_eq_getElem h]
theorem bvs_some {d : List Nat} {k x : Nat} (h : d[k]? = some x) : (bvs d)[k]? = some (.int .u8 (x : Nat)) := by simp [bvs, h, u8]
theorem bvs_one (l : List Nat) : (bvs l).all (·.oneCell') = true := by
  rw [Array.all_eq_true_iff_forall_mem]
  intro v hv
  simp only [bvs, List.mem_toArray, List.mem_map] at hv
  obtain ⟨x, _, rfl⟩ := hv
  rfl
end Go.Proofs.Ytdmomnpmicagcaa
