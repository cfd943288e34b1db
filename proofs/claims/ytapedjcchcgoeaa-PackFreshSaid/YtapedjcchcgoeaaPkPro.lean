/-
  Package pack's side.
-/
import Derived.Test.YtapedjcchcgoeaaPkProC
import Derived.Test.YtapedjcchcgoeaaPkProD
import Derived.Test.YtapedjcchcgoeaaRPkB
