/- Plain: the arrivals by a way in two parts, and from a later time on. -/
import Derived.Test.YteiojobgjdfdpaaSc
namespace Go.Proofs.Yteiojobgjdfdpaa

theorem getD_take {p : List Int} {k j : Nat} (h : j < k) : (p.take k).getD j 0 = p.getD j 0 := by
  rw [List.getD_eq_getElem?_getD, List.getElem?_take_of_lt h, ← List.getD_eq_getElem?_getD]
theorem getD_drop {p : List Int} {k j : Nat} : (p.drop k).getD j 0 = p.getD (k + j) 0 := by
  rw [List.getD_eq_getElem?_getD, List.getElem?_drop, ← List.getD_eq_getElem?_getD]
section
variable {l : List Am} {p : List Int}
theorem runW_take (b : Bool) (t : Int) {k : Nat} : ∀ j, j ≤ k → runW l b t (p.take k) j = runW l b t p j
  | 0, _ => rfl
  | j + 1, h => by
    show (am l ((p.take k).getD j 0).toNat).a.pass b (runW l b t (p.take k) j) = (am l (p.getD j 0).toNat).a.pass b (runW l b t p j)
    rw [getD_take (by omega), runW_take b t j (by omega)]
theorem runW_drop (b : Bool) (t : Int) {k : Nat} : ∀ j, runW l b (runW l b t p k) (p.drop k) j = runW l b t p (k + j)
  | 0 => rfl
  | j + 1 => by
    show (am l ((p.drop k).getD j 0).toNat).a.pass b (runW l b (runW l b t p k) (p.drop k) j) = (am l (p.getD (k + j) 0).toNat).a.pass b (runW l b t p (k + j))
    rw [getD_drop, runW_drop b t j]
theorem WayP.take (h : WayP l p) (k : Nat) : WayP l (p.take k) := by
  refine ⟨by rw [List.length_take]; have := h.1; omega, fun j hj => ?_⟩
  rw [List.length_take] at hj
  have h2 := h.2 j (by omega)
  rw [getD_take (by omega)]
  refine ⟨h2.1, fun hj0 => ?_⟩
  rw [getD_take (by omega)]
  exact h2.2 hj0
theorem WayP.drop (h : WayP l p) (k : Nat) : WayP l (p.drop k) := by
  refine ⟨by rw [List.length_drop]; have := h.1; omega, fun j hj => ?_⟩
  rw [List.length_drop] at hj
  have h2 := h.2 (k + j) (by omega)
  rw [getD_drop]
  refine ⟨h2.1, fun hj0 => ?_⟩
  rw [getD_drop]
  have := h2.2 (by omega)
  rw [show k + j - 1 = k + (j - 1) by omega] at this
  exact this
/-- Who begins earlier does not arrive later. -/
theorem run_mono (hV : ValidP l) (hW : WayP l p) {b : Bool} {s t : Int} (hs : IsT s) (hst : s ≤ t) : ∀ k, k ≤ p.length → IsT (runW l b t p k) → IsT (runW l b s p k) ∧ runW l b s p k ≤ runW l b t p k := by
  intro k
  induction k with
  | zero => intro _ _; exact ⟨hs, hst⟩
  | succ k ih =>
    intro hk h
    have hh := run_time' (Nat.le_succ k) h
    obtain ⟨g1, g2⟩ := ih (by omega) hh
    have hix := (hW.2 k (by omega)).1
    have ho := hV.2 (p.getD k 0).toNat (by omega)
    have h1 : runW l b s p (k + 1) ≤ runW l b t p (k + 1) := (pass_arr (b := b) ho g1).mono (pass_arr (b := b) ho hh) g2
    have h2 : runW l b s p k ≤ runW l b s p (k + 1) := (pass_arr (b := b) ho g1).ge ho
    have h3 := g1.1
    have h4 := h.2
    exact ⟨⟨by omega, by omega⟩, h1⟩
theorem spanO_ok {t x y z : Int} (h : spanO l p t = (x, y, z)) : (z = 0 ∧ ValidP l ∧ WayP l p ∧ IsT t ∧ IsT (runW l true t p p.length) ∧ x = runW l false t p p.length ∧ y = runW l true t p p.length) ∨ (z ≠ 0 ∧ x = 0 ∧ y = 0) := by
  unfold spanO at h
  split at h
  · rename_i hc
    split at h
    · rename_i hd
      injection h with e1 h
      injection h with e2 e3
      exact .inl ⟨e3.symm, hc.1, hc.2.1, hc.2.2, hd, e1.symm, e2.symm⟩
    · injection h with e1 h
      injection h with e2 e3
      exact .inr ⟨by omega, e1.symm, e2.symm⟩
  · injection h with e1 h
    injection h with e2 e3
    exact .inr ⟨by omega, e1.symm, e2.symm⟩
theorem spanO_yes {t : Int} (hV : ValidP l) (hW : WayP l p) (ht : IsT t) (h : IsT (runW l true t p p.length)) : spanO l p t = (runW l false t p p.length, runW l true t p p.length, 0) := by
  unfold spanO
  rw [if_pos ⟨hV, hW, ht⟩, if_pos h]
/-- What LabelSpan says. -/
theorem span_law {t x y : Int} (h : spanO l p t = (x, y, 0)) {k : Nat} (hk : k ≤ p.length) : ∃ a b : Int, spanO l (p.take k) t = (a, b, 0) ∧ (∃ d1, spanO l (p.drop k) a = (x, d1, 0)) ∧ (∃ c1, spanO l (p.drop k) b = (c1, y, 0)) ∧ x ≤ y ∧ t ≤ x ∧ t ≤ 1048576 ∧ 0 ≤ t ∧
    ∀ d : Int, 0 ≤ d → ∀ x' y' z', spanO l p (t + d) = (x', y', z') → z' ≠ 0 ∨ (z' = 0 ∧ x ≤ x' ∧ y ≤ y') := by
  rcases spanO_ok h with ⟨_, hV, hW, ht, hT, rfl, rfl⟩ | ⟨h1, _⟩
  · have hTk := run_time' hk hT
    obtain ⟨l1, l2, l3⟩ := run_low hV hW ht k hk hTk
    obtain ⟨m1, m2, m3⟩ := run_low hV hW ht p.length (Nat.le_refl _) hT
    have hlt : (p.take k).length = k := by rw [List.length_take]; omega
    have hld : (p.drop k).length = p.length - k := List.length_drop
    have e1 : ∀ b, runW l b t (p.take k) (p.take k).length = runW l b t p k := fun b => by rw [hlt]; exact runW_take b t k (Nat.le_refl _)
    have e2 : ∀ b, runW l b (runW l b t p k) (p.drop k) (p.drop k).length = runW l b t p p.length := fun b => by rw [runW_drop, hld, show k + (p.length - k) = p.length by omega]
    refine ⟨runW l false t p k, runW l true t p k, ?_, ⟨runW l true (runW l false t p k) (p.drop k) (p.drop k).length, ?_⟩, ⟨runW l false (runW l true t p k) (p.drop k) (p.drop k).length, ?_⟩, m2, m3, ht.2, ht.1, fun d hd x' y' z' hz => ?_⟩
    · rw [spanO_yes hV (hW.take k) ht (by rw [e1]; exact hTk), e1, e1]
    · have hm := run_mono hV (hW.drop k) (b := true) l1 l2 (p.drop k).length (Nat.le_refl _) (by rw [e2]; exact hT)
      rw [spanO_yes hV (hW.drop k) l1 hm.1, e2]
    · rw [spanO_yes hV (hW.drop k) hTk (by rw [e2]; exact hT), e2]
    · rcases spanO_ok hz with ⟨h0, _, _, ht', hT', rfl, rfl⟩ | ⟨h1, _⟩
      · have hT2 := (run_low hV hW ht' p.length (Nat.le_refl _) hT').1
        exact .inr ⟨h0, (run_mono hV hW (b := false) ht (by omega) p.length (Nat.le_refl _) hT2).2, (run_mono hV hW (b := true) ht (by omega) p.length (Nat.le_refl _) hT').2⟩
      · exact .inl h1
  · exact absurd rfl h1
end

end Go.Proofs.Yteiojobgjdfdpaa
