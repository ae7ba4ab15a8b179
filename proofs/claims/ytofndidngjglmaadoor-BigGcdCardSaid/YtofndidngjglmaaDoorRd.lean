/- Walks: the law on the greatest common divisor, whole. -/
import Derived.Test.YtofndidngjglmaaDoorRg0
import Derived.Test.YtofndidngjglmaaDoorRg1
import Derived.Test.YtofndidngjglmaaDoorRg2
namespace Go.Proofs.YtofndidngjglmaaDoor
open Go.RowKit

theorem gcd_law (s1 s2 s3 : Int) (l1 l2 l3 : List Int) (A1 A2 A3 : Option Addr) (n1 c1 n2 c2 n3 c3 : Nat) (w : World) (ht : TB w) (h1 : Ar w s1 l1 A1 n1 c1) (h2 : Ar w s2 l2 A2 n2 c2) (h3 : Ar w s3 l3 A3 n3 c3) :
    Calls Tryd.prog 6 #[.agg #[.int .i64 s1, .slice A1 n1 c1], .agg #[.int .i64 s2, .slice A2 n2 c2], .agg #[.int .i64 s3, .slice A3 n3 c3]] w fun e w' => e = .returned (.bool true) ∧ Below w.heap.size w w' := by
  by_cases e1 : s1 = 0
  · by_cases e2 : s2 = 0
    · exact gcd_0 s1 s2 s3 l1 l2 l3 A1 A2 A3 n1 c1 n2 c2 n3 c3 w e1 e2 ht h1 h2 h3
    · exact gcd_1 s1 s2 s3 l1 l2 l3 A1 A2 A3 n1 c1 n2 c2 n3 c3 w e1 e2 ht h1 h2 h3
  · exact gcd_2 s1 s2 s3 l1 l2 l3 A1 A2 A3 n1 c1 n2 c2 n3 c3 w e1 ht h1 h2 h3

end Go.Proofs.YtofndidngjglmaaDoor
