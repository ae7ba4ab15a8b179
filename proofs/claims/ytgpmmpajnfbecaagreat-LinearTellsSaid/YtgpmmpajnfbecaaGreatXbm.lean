/- Walks: the reference's below and Compare. Printed by a program (rfmore.py). Walks: the reference's operations on fractions where one is not right. Printed by a program (rfops.py). Walks: the reference's Floor and Text; New and Floor where an argument is not right. Printed by a program (rfmore.py). -/
import Derived.Test.YtgpmmpajnfbecaaGreatXbe
import Derived.Test.YtgpmmpajnfbecaaGreatXao
import Derived.IntWalk
import Derived.Test.YtgpmmpajnfbecaaGreatXau
import Derived.Test.YtgpmmpajnfbecaaGreatXbi
import Derived.Test.YtgpmmpajnfbecaaGreatXat

namespace Go.Proofs.YtgpmmpajnfbecaaGreat
open Go.RowKit

end Go.Proofs.YtgpmmpajnfbecaaGreat

namespace Go.Proofs.YtgpmmpajnfbecaaGreat
open Go.RowKit

end Go.Proofs.YtgpmmpajnfbecaaGreat

namespace Go.Proofs.YtgpmmpajnfbecaaGreat
open Go.RowKit

end Go.Proofs.YtgpmmpajnfbecaaGreat
