
/-
The contracts of package edit, all of them.
-/
import Derived.Test.YtapjodbaaejldaaEdAp
import Derived.Test.YtapjodbaaejldaaEdUn
import Derived.Test.YtapjodbaaejldaaEdPl
import Derived.Test.YtapjodbaaejldaaEdOf
