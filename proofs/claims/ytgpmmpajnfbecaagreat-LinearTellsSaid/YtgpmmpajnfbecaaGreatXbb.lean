/- Walks: the reference's Int of right arguments. Walks: the reference's Read. Printed by a program (rread.py). Walks: Same of both, whatever the arguments. Printed by a program (samebad.py). -/
import Derived.Test.YtgpmmpajnfbecaaGreatXba
import Derived.Test.YtgpmmpajnfbecaaGreatXai
import Derived.Deep.RegionHeld3
import Derived.Deep.QuietTactic
import Derived.Test.YtgpmmpajnfbecaaGreatXah
import Derived.Deep.Cut

namespace Go.Proofs.YtgpmmpajnfbecaaGreat
open Go.RowKit

end Go.Proofs.YtgpmmpajnfbecaaGreat

namespace Go.Proofs.YtgpmmpajnfbecaaGreat
open Go.RowKit

end Go.Proofs.YtgpmmpajnfbecaaGreat

namespace Go.Proofs.YtgpmmpajnfbecaaGreat
open Go.RowKit

end Go.Proofs.YtgpmmpajnfbecaaGreat
