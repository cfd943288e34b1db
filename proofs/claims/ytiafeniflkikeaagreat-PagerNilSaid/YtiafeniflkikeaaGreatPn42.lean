/- Parts of the proof. -/
import Derived.Test.YtiafeniflkikeaaGreatPn08
import Derived.Test.YtiafeniflkikeaaGreatPn41
import Derived.Test.YtiafeniflkikeaaGreatPn04
import Derived.Test.YtiafeniflkikeaaGreatPn13
import Derived.Deep.RegionHeld3
import Derived.Test.YtiafeniflkikeaaGreatPn10
import Derived.Test.YtiafeniflkikeaaGreatPn05
import Derived.Test.YtiafeniflkikeaaGreatPn15
import Derived.Deep.Cut
import Derived.Deep.QuietTactic
namespace Go.Proofs.YtiafeniflkikeaaGreat
open Go.RowKit
set_option linter.unusedVariables false
end Go.Proofs.YtiafeniflkikeaaGreat
namespace Go.Proofs.YtiafeniflkikeaaGreat
open Go.RowKit
set_option linter.unusedVariables false
namespace Pa
end Pa
end Go.Proofs.YtiafeniflkikeaaGreat
namespace Go.Proofs.YtiafeniflkikeaaGreat
open Go.RowKit
set_option linter.unusedVariables false
end Go.Proofs.YtiafeniflkikeaaGreat
namespace Go.Proofs.YtiafeniflkikeaaGreat
open Go.RowKit
set_option linter.unusedVariables false
namespace Pa
def kept (l : List Page) : List Page := (keep l).map used
end Pa
end Go.Proofs.YtiafeniflkikeaaGreat
