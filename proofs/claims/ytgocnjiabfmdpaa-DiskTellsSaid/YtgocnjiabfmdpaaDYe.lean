/- The reference's New, Arm. -/
import Derived.Test.YtgocnjiabfmdpaaDYd
namespace Go.Proofs.Ytgocnjiabfmdpaa
set_option maxRecDepth 8000
open Go.RowKit

theorem rnew_any {L : Lab} {w : World} (k : Nat) (hL : Fresh L w) : Calls Try.prog 12 #[] w fun e w' => ∃ d L', e = .returned (.pointer (some ⟨d, 0, none⟩)) ∧ RAt L' w' k d [] [] St.new ∧ Fr (fun _ => False) L w L' w' := by
  go_enter Try.func12, Try.ntmps12
  go_wp2_with fail
  go_ret
  refine ⟨w.heap.size, setL L w.heap.size (k, .disk), rfl, ⟨.slice none 0 0, .slice none 0 0, .slice none 0 0, setL_same _ _ _, heap_alloc_new w _, Sl.nil _ _ _ _ _, Sl.nil _ _ _ _ _, ⟨Sl.nil _ _ _ _ _, FewF.nil⟩, Reads.new⟩, ((Fr.refl hL).alloc _).label (Nat.le_refl _) (by simp) _⟩

end Go.Proofs.Ytgocnjiabfmdpaa
