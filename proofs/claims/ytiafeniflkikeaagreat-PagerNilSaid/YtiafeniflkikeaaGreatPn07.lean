/- Parts of the proof. -/
import Derived.Test.YtiafeniflkikeaaGreatPn06
import Derived.Test.YtiafeniflkikeaaGreatPn01
import Derived.ProofKit
import Derived.OpenShut
import Derived.ShutString
import Derived.ChangeOld
import Derived.Below
import Derived.Deep.Slices
import Derived.Deep.Fields
import Derived.Test.YtiafeniflkikeaaGreatPn02
namespace Go.Proofs.YtiafeniflkikeaaGreat
open Go.ChangeShapes Go.WideShapes Go.ChangeAt Go.RowKit
open Go.ChangeMaps (open_string shut_string)
set_option linter.unusedVariables false
end Go.Proofs.YtiafeniflkikeaaGreat
namespace Go.Proofs.YtiafeniflkikeaaGreat
open Go.ChangeShapes Go.WideShapes Go.ChangeAt Go.RowKit
set_option linter.unusedVariables false
end Go.Proofs.YtiafeniflkikeaaGreat
namespace Go.Proofs.YtiafeniflkikeaaGreat
open Go.ChangeShapes Go.WideShapes Go.RowKit Go.Deep
set_option linter.unusedVariables false
end Go.Proofs.YtiafeniflkikeaaGreat
namespace Go.Proofs.YtiafeniflkikeaaGreat
open Go.ChangeShapes Go.WideShapes Go.RowKit
set_option linter.unusedVariables false
end Go.Proofs.YtiafeniflkikeaaGreat
