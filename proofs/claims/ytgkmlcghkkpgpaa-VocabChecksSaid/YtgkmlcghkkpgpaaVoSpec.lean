/-
  What the calls of package vocab answer, said of pieces.
-/
import Derived.Test.YtgkmlcghkkpgpaaRVoE
import Derived.Test.YtgkmlcghkkpgpaaRVoF
import Derived.Test.YtgkmlcghkkpgpaaRVoG
namespace Go.Proofs.Ytgkmlcghkkpgpaa.Vo
def sizeE (P : List Pc) (t : Int) : Nat × Nat := ((expandE P t).1.length, (expandE P t).2)
def foundE (P : List Pc) (l r : Int) : Nat × Bool := if May P then findE P l r else (0, false)
end Go.Proofs.Ytgkmlcghkkpgpaa.Vo
