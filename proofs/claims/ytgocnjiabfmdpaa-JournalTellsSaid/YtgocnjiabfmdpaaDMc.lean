/- One file of the disk has turned: what holds of the disk then. -/
import Derived.Test.YtgocnjiabfmdpaaDV
namespace Go.Proofs.Ytgocnjiabfmdpaa
set_option maxRecDepth 8000
open Go.RowKit

/-- The blocks of the file f. -/
def MF (k : Nat) (f : Int) : Nat × Role → Prop := fun t => t = (k, Role.file f) ∨ t = (k, Role.sect f) ∨ t = (k, Role.now f) ∨ t = (k, Role.dur f)

theorem put_label {M : Nat × Role → Prop} {L : Lab} {w w2 : World} {e : TypeId} {size n : Nat} {v v' : Value} {xs : List Value} {t : Nat × Role} (hL : Fresh L w) (hM : M t) (hown : w2.ownsRow 0 e size v' n xs) (hg : w.grownBy w2 v.ownBlock)
    (hlab : ∀ g, v.ownBlock = some g → L g = some t) (hat : v'.ownBlock = v.ownBlock ∨ v'.ownBlock = some w.heap.size) : ∃ L', Fr M L w L' w2 ∧ Sl L' w2 e size v' n xs t := by
  have h1 : Fr M L w L w2 := Fr.grown hL hg (fun g hg' _ => ⟨t, hlab g hg', hM⟩)
  rcases hat with hat | hat
  · exact ⟨L, h1, hown, fun g hg' => hlab g (by rw [← hat]; exact hg')⟩
  · refine ⟨setL L w.heap.size t, h1.label (Nat.le_refl _) (hown.lt _ hat).2 t, hown, fun g hg' => ?_⟩
    rw [hat] at hg'
    injection hg' with hg'
    subst hg'
    exact setL_same _ _ _

theorem new_label {M : Nat × Role → Prop} {L : Lab} {w w2 : World} {e : TypeId} {size n : Nat} {v' : Value} {xs : List Value} (t : Nat × Role) (hL : Fresh L w) (hown : w2.ownsRow 0 e size v' n xs) (hb : Below w.heap.size w w2)
    (hnew : ∀ g, v'.ownBlock = some g → w.heap.size ≤ g) : ∃ L', Fr M L w L' w2 ∧ Sl L' w2 e size v' n xs t := by
  have h1 : Fr M L w L w2 := Fr.below hL hb
  cases hv : v'.ownBlock with
  | none => exact ⟨L, h1, hown, fun g hg => by rw [hv] at hg; cases hg⟩
  | some g =>
    refine ⟨setL L g t, h1.label (hnew g hv) (hown.lt _ hv).2 t, hown, fun g' hg' => ?_⟩
    rw [hv] at hg'
    injection hg' with hg'
    subst hg'
    exact setL_same _ _ _

section
variable {M : Nat × Role → Prop} {L L1 : Lab} {w w1 : World} {k d mb : Nat} {pv kv : Value} {fb : Int → Nat} {s s' : St} {f : Int}

theorem DBody.file (h : DBody L w k mb pv kv fb s) (hL : Fresh L w) (hf : Fr (MF k f) L w L1 w1) (hs : ∀ i, i ≠ f → s'.now i = s.now i ∧ s'.dur i = s.dur i ∧ s'.sec i = s.sec i) (hp : s'.pend = s.pend) (hk : s'.keep = s.keep)
    (hnew : FAt L1 w1 k f (fb f) (s'.now f) (s'.dur f) (s'.sec f)) : DBody L1 w1 k mb pv kv fb s' := by
  obtain ⟨a1, a2, a3, a4, a5⟩ := h
  have hm : ∀ r, (∀ i, r ≠ Role.file i ∧ r ≠ Role.sect i ∧ r ≠ Role.now i ∧ r ≠ Role.dur i) → ¬ MF k f (k, r) := by
    intro r hr hh
    rcases hh with hh | hh | hh | hh <;> injection hh with _ hh
    · exact (hr f).1 hh
    · exact (hr f).2.1 hh
    · exact (hr f).2.2.1 hh
    · exact (hr f).2.2.2 hh
  refine ⟨hf.lab_of hL a1, a2.keep a1 hL hf (hm _ (by simp)), by rw [hp]; exact a3.keep hL hf (hm _ (by simp)), by rw [hk]; exact a4.keep hL hf (hm _ (by simp)), fun i hi => ?_⟩
  by_cases hif : i = f
  · subst hif; exact hnew
  · obtain ⟨e1, e2, e3⟩ := hs i hif
    rw [e1, e2, e3]
    refine (a5 i hi).keep hL hf ?_ ?_ ?_ ?_ <;> (intro hh; rcases hh with hh | hh | hh | hh <;> injection hh with _ hh <;> (cases hh; try exact hif rfl))

/-- The head stands, the rest is known anew. -/
theorem DAt.head (hL : Fresh L w) (hd : L d = some (k, .disk)) (hb : w.heap[d]? = some (.cells (dcells mb pv kv s) 78 (0, 0))) (hf : Fr M L w L1 w1) (hm : ¬ M (k, .disk)) (hc : dcells mb pv kv s = dcells mb pv kv s') (hbody : DBody L1 w1 k mb pv kv fb s') : DAt L1 w1 k d s' :=
  ⟨mb, pv, kv, fb, hf.lab_of hL hd, by rw [← hc]; exact (hf.keeps hL hd hm).trans hb, hbody⟩

theorem mf_disk : ¬ MF k f (k, Role.disk) := by
  rintro (h | h | h | h) <;> injection h with _ h <;> cases h

theorem MF.own {t : Nat × Role} (h : MF k f t) : t.1 = k := by
  rcases h with h | h | h | h <;> rw [h]
end

end Go.Proofs.Ytgocnjiabfmdpaa
