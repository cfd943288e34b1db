/-
  The program's Sorted of texts, by the name that the law uses.
-/
import Derived.Test.YtiogmgpkaiicpaaQuSortedS
namespace Go.Proofs.Ytiogmgpkaiicpaa
open Go.RowKit
theorem psorted_str (v : Value) (l : List ByteArray) (fn : Nat) (caps : Array Value) (lt : ByteArray → ByteArray → Bool) (B : Nat) (w : World) (hB : B ≤ w.heap.size) (h : Lv sK w B v l) (hsz : l.length ≤ 4194304) (ho : Qu.Order lt) (hl : Less strV (fun s => s.size ≤ maxLen) fn caps lt w (fun k => w.heap.size ≤ k)) :
    Calls Try.prog 28 #[v, fnV fn caps] w (IsL1 sK (Qu.sorted lt l) w) := psortedS v l fn caps lt B w hB h hsz ho hl
end Go.Proofs.Ytiogmgpkaiicpaa
