/-
  The program's Sorted, by the name that the laws use.
-/
import Derived.Test.YtiogmgpkaiicpaaQuSortedI
namespace Go.Proofs.Ytiogmgpkaiicpaa
open Go.RowKit
theorem psorted_int (v : Value) (l : List Int) (fn : Nat) (caps : Array Value) (lt : Int → Int → Bool) (B : Nat) (w : World) (hB : B ≤ w.heap.size) (h : Lv iK w B v l) (hsz : l.length ≤ 4194304) (ho : Qu.Order lt) (hl : Less intV I64 fn caps lt w (fun k => w.heap.size ≤ k)) :
    Calls Try.prog 19 #[v, fnV fn caps] w (IsL1 iK (Qu.sorted lt l) w) := psortedI v l fn caps lt B w hB h hsz ho hl
end Go.Proofs.Ytiogmgpkaiicpaa
