/-
  stookref00.Same on two slices that read as lists of bytes.
-/
import Derived.Test.YtdmomnpmicagcaaSame
import Derived.Test.YtdmomnpmicagcaaApp
namespace Go.Proofs.Ytdmomnpmicagcaa
open Go.RowKit

theorem same_bv (v v' : Value) (la lb : List Nat) (B B' : Nat) (w : World) (h : Bv w B v la) (h' : Bv w B' v' lb) :
    Calls Try.prog 9 #[v, v'] w (IsBool (decide (la = lb)) w) := by
  obtain ⟨A, c, rfl, h1, h2, h3, h4⟩ := h
  obtain ⟨A', c', rfl, h1', h2', h3', h4'⟩ := h'
  exact same_any A A' la lb c c' B B' w h4 h4' (by omega) (by omega)

end Go.Proofs.Ytdmomnpmicagcaa
