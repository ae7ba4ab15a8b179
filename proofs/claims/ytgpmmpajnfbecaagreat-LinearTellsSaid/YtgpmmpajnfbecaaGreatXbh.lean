/- Plain: the text of a fraction, cut at its stroke. No program. Walks: Cut at a stroke. Walks: Read of fractions. Printed by a program (gread.py). -/
import Derived.Test.YtgpmmpajnfbecaaGreatXas
import Derived.Lib.IndexMore
import Derived.Test.YtgpmmpajnfbecaaGreatXbg
import Derived.Test.YtgpmmpajnfbecaaGreatShelf
import Derived.Lib.CutLaws
import Derived.Lib.IndexBytes
import Derived.RegionTactic
import Derived.ChangeAlike

namespace Go.Proofs.YtgpmmpajnfbecaaGreat
open Go.RowKit

end Go.Proofs.YtgpmmpajnfbecaaGreat

namespace Go.Proofs.YtgpmmpajnfbecaaGreat
open Go.RowKit

end Go.Proofs.YtgpmmpajnfbecaaGreat

namespace Go.Proofs.YtgpmmpajnfbecaaGreat
open Go.RowKit

end Go.Proofs.YtgpmmpajnfbecaaGreat
