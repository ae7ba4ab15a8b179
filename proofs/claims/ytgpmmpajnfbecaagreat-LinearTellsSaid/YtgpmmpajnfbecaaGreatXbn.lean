/- Walks: the reference's Read of fractions. Printed by a program (rfread.py). The module and the reference, told together for fractions. Printed by a program (rfboth.py). Walks: the law that the module and the reference tell the same of fractions. Printed by a program (jf.py). -/
import Derived.Test.YtgpmmpajnfbecaaGreatXbm
import Derived.Test.YtgpmmpajnfbecaaGreatXbh
import Derived.Test.YtgpmmpajnfbecaaGreatXbb
import Derived.Test.YtgpmmpajnfbecaaGreatXbf
import Derived.Test.YtgpmmpajnfbecaaGreatXbe
import Derived.Test.YtgpmmpajnfbecaaGreatXbj

namespace Go.Proofs.YtgpmmpajnfbecaaGreat
open Go.RowKit

end Go.Proofs.YtgpmmpajnfbecaaGreat

namespace Go.Proofs.YtgpmmpajnfbecaaGreat
open Go.RowKit

section
variable {s1 s2 s3 s4 : Int} {l1 l2 l3 l4 : List Int} {A1 A2 A3 A4 : Option Addr} {n1 d1 n2 d2 n3 d3 n4 d4 : Nat} {w : World}
theorem RF.two (h : RF s1 l1 s2 l2) (h1 : Ar w s1 l1 A1 n1 d1) (h2 : Ar w s2 l2 A2 n2 d2) : ∃ x : Rat, Rb x 60 60 ∧ ∀ w1, Below w.heap.size w w1 → FV w1 w1.heap.size s1 A1 n1 d1 s2 A2 n2 d2 x.num x.den := by
  obtain ⟨x, hv, _, a, b, _⟩ := h.fv h1 h2
  exact ⟨x, ⟨a, b⟩, fun w1 hb => hv.later hb⟩
end

end Go.Proofs.YtgpmmpajnfbecaaGreat

namespace Go.Proofs.YtgpmmpajnfbecaaGreat
open Go.RowKit

/-- A result stored into a box that was there. -/
theorem putf {W w0 : World} {g : Nat} {a0 a1 a2 a3 : Value} {s s' : Int} {A A' : Option Addr} {n c n' c' : Nat}
    (hg : Blk W g 41 #[a0, a1, a2, a3]) (hT : Below w0.heap.size w0 W) (h0 : w0.heap.size ≤ g) :
    ∃ V, V = (((W.setCell ⟨g, 0, none⟩ (.int .i64 s)).setCell ⟨g, 1, none⟩ (.slice A n c)).setCell ⟨g, 2, none⟩ (.int .i64 s')).setCell ⟨g, 3, none⟩ (.slice A' n' c') ∧
      Below w0.heap.size w0 V ∧ V.heap.size = W.heap.size ∧ Blk V g 41 #[.int .i64 s, .slice A n c, .int .i64 s', .slice A' n' c'] ∧
      (∀ h t cs, Blk W h t cs → h ≠ g → Blk V h t cs) ∧ (∀ v p q B', FO W B' v p q → g < B' → FO V B' v p q) := by
  refine ⟨_, rfl, below_st4 hT h0 _ _ _ _, by simp, hg.set4 _ _ _ _, fun h t cs hb h1 => hb.far4 h1 _ _ _ _, ?_⟩
  intro v p q B' ho h1
  obtain ⟨s1, A1, n1, c1, s2, A2, n2, c2, rfl, g1, g2⟩ := ho
  exact ⟨s1, A1, n1, c1, s2, A2, n2, c2, rfl, g1.far4 h1 _ _ _ _, g2.far4 h1 _ _ _ _⟩

end Go.Proofs.YtgpmmpajnfbecaaGreat
