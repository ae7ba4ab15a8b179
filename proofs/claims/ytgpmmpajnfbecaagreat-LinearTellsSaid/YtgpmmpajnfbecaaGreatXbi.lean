/- Walks: Floor of a right fraction. Plain: the documented examples of fractions. Floor as a rational number's. No more program than that. Walks: the laws' head: the documented examples of fractions. Printed by a program (fsmall.py). -/
import Derived.Test.YtgpmmpajnfbecaaGreatXas
import Derived.Test.YtgpmmpajnfbecaaGreatXbh
import Derived.Test.YtgpmmpajnfbecaaGreatXat

namespace Go.Proofs.YtgpmmpajnfbecaaGreat
open Go.RowKit

end Go.Proofs.YtgpmmpajnfbecaaGreat

namespace Go.Proofs.YtgpmmpajnfbecaaGreat
open Go.RowKit

theorem Rb.mono {x : Rat} {k m k' m' : Nat} (h : Rb x k m) (h1 : k ≤ k') (h2 : m ≤ m') : Rb x k' m' :=
  ⟨by have := h.n; have := pw_le h1; omega, by have := h.d; have := pw_le h2; omega⟩
end Go.Proofs.YtgpmmpajnfbecaaGreat

namespace Go.Proofs.YtgpmmpajnfbecaaGreat
open Go.RowKit

end Go.Proofs.YtgpmmpajnfbecaaGreat
