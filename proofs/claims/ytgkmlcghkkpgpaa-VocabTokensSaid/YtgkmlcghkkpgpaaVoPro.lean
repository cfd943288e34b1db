/-
  Package vocab's side: what each of its functions answers (but All: VpAll).
-/
import Derived.Test.YtgkmlcghkkpgpaaVpPlain
import Derived.Test.YtgkmlcghkkpgpaaVpExp
import Derived.Test.YtgkmlcghkkpgpaaVpFind
import Derived.Test.YtgkmlcghkkpgpaaVpJoins
