/- What a law leaves; strings cut. -/
import Derived.Test.YtgocnjiabfmdpaaDXc
import Derived.Lib.Strings
namespace Go.Proofs.Ytgocnjiabfmdpaa
set_option maxRecDepth 8000
open Go.RowKit

/-- No block is anybody's. -/
def L0 : Lab := fun _ => none
theorem L0_fresh (w : World) : Fresh L0 w := fun _ _ => rfl

theorem Fr.to_below {M : Nat × Role → Prop} {w : World} {L' : Lab} {w' : World} (h : Fr M L0 w L' w') : Below w.heap.size w w' :=
  ⟨h.os, h.tape, h.output, h.size, fun b hb => h.block b hb (fun t ht => by cases ht)⟩

/-- What a law leaves: true, and of what was there nothing has turned. -/
def LawPost (w : World) (e : Ending) (w' : World) : Prop := e = .returned (.bool true) ∧ Below w.heap.size w w'

theorem law_head {w w' : World} {L' : Lab} {M : Nat × Role → Prop} (h : Fr M L0 w L' w') : LawPost w (.returned (.bool true)) w' := ⟨rfl, h.to_below⟩

def MT : Nat × Role → Prop := fun _ => True
theorem mt {M : Nat × Role → Prop} : ∀ t, M t → MT t := fun _ _ => trivial

theorem ba_ex (l : List UInt8) (a b : Nat) : ((ba l).extract a b).toList = (l.drop a).take (b - a) := by
  rw [ByteArray.toList_eq, Go.Lib.extract_data, ba_toList]
theorem not_beq_self {l m : List UInt8} (h : l = m) : (!(l == m)) = false := by rw [h]; simp
theorem beq_self' {l m : List UInt8} (h : l = m) : (l == m) = true := by rw [h]; simp

end Go.Proofs.Ytgocnjiabfmdpaa
