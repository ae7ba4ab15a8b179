/- Plain: the way of the labels and its span; no way beats the labels. -/
import Derived.Test.YteiojobgjdfdpaaSn
namespace Go.Proofs.Yteiojobgjdfdpaa

section
variable {n : Nat} {l : List Am} {src : Nat} {t : Int} {b : Bool} {e : List Lb}
theorem getD_map {p : List Nat} {j : Nat} (h : j < p.length) : (p.map (fun i : Nat => (i : Int))).getD j 0 = ((p.getD j 0 : Nat) : Int) := by
  rw [List.getD_eq_getElem?_getD, List.getElem?_map, List.getElem?_eq_getElem h, List.getD_eq_getElem?_getD, List.getElem?_eq_getElem h]; rfl
theorem leads_run (hf : (netE n l b).Fin src t e) {v : Nat} {p : List Nat} (h : Leads (netE n l b) e src v p) : ∀ j, j ≤ p.length → runW l b t (p.map (fun i : Nat => (i : Int))) j = (lb e (nodeAt (netE n l b) src p j)).1 := by
  intro j
  induction j with
  | zero => intro _; show t = (lb e src).1; rw [hf.sr]
  | succ j ih =>
    intro hj
    obtain ⟨h1, h2, h3, h4⟩ := h.at_ j (by omega)
    have e1 := ih (by omega)
    show (am l ((p.map (fun i : Nat => (i : Int))).getD j 0).toNat).a.pass b (runW l b t (p.map (fun i : Nat => (i : Int))) j) = _
    rw [e1, getD_map (by omega), Int.toNat_natCast, h4]
    rfl
theorem leads_way (hR : RRight n l) {v : Nat} {p : List Nat} (h : Leads (netE n l b) e src v p) (hp : p.length < n) : WayP l (p.map (fun i : Nat => (i : Int))) := by
  refine ⟨by rw [List.length_map]; have := hR.2.1; omega, fun k hk => ?_⟩
  rw [List.length_map] at hk
  obtain ⟨h1, h2, _, _⟩ := h.at_ k hk
  have h1 : p.getD k 0 < l.length := h1
  rw [getD_map hk]
  refine ⟨⟨by omega, by omega⟩, fun hk0 => ?_⟩
  rw [getD_map (by omega), Int.toNat_natCast, Int.toNat_natCast]
  obtain ⟨g1, _, _, _⟩ := h.at_ (k - 1) (by omega)
  have g1 : p.getD (k - 1) 0 < l.length := g1
  have h2 : (am l (p.getD k 0)).a.f.toNat = nodeAt (netE n l b) src p k := h2
  have h3 : nodeAt (netE n l b) src p k = (am l (p.getD (k - 1) 0)).a.t.toNat := by
    unfold nodeAt
    rw [if_neg (by omega)]
    rfl
  have h4 := (hR.2.2.2 _ h1).1.1
  have h5 := (hR.2.2.2 _ g1).1.2.1
  omega
theorem right_valid (hR : RRight n l) : ValidP l := ⟨hR.2.2.1, fun k hk => (hR.2.2.2 k hk).1⟩
/-- The way of the labels with high has its label's time. -/
theorem way_span (hR : RRight n l) (hf : (netE n l true).Fin src t e) (hs : src < n) (ht : IsT t) {v : Nat} (hv : v < n) (h0 : 0 ≤ (lb e v).1) : ∃ x, spanO l (wayP e (ends l) l.length (v : Int)) t = (x, (lb e v).1, 0) ∧ x ≤ (lb e v).1 := by
  obtain ⟨p, hp, hpl⟩ := hf.leads hv h0
  have hpl : p.length < n := hpl
  have hW := leads_way hR hp hpl
  have hr := leads_run hf hp p.length (Nat.le_refl _)
  rw [hp.last] at hr
  have hlm : (p.map (fun i : Nat => (i : Int))).length = p.length := List.length_map _
  have hT : IsT (lb e v).1 := by
    rcases hf.ty v hv with k | ⟨k, _⟩
    · rw [k] at h0; exact absurd h0 (by decide)
    · exact k
  rw [hp.way hR hf hs hv h0 hpl]
  have hz := spanO_yes (right_valid hR) hW ht (by rw [hlm, hr]; exact hT)
  rw [hlm, hr] at hz
  refine ⟨_, hz, ?_⟩
  rw [← hr]
  exact (run_low (right_valid hR) hW ht p.length (by rw [hlm]; exact Nat.le_refl _) (by rw [hr]; exact hT)).2.1
/-- No way beats the labels. -/
theorem not_beaten (hR : RRight n l) (hf : (netE n l b).Fin src t e) {p : List Int} (hW : WayP l p) (hs : (am l (p.getD 0 0).toNat).a.f = (src : Int)) (ht : IsT t) : ∀ k, k ≤ p.length → IsT (runW l b t p k) →
    0 ≤ (lb e (if k = 0 then src else (am l (p.getD (k - 1) 0).toNat).a.t.toNat)).1 ∧ (lb e (if k = 0 then src else (am l (p.getD (k - 1) 0).toNat).a.t.toNat)).1 ≤ runW l b t p k := by
  intro k
  induction k with
  | zero =>
    intro _ _
    rw [if_pos rfl, hf.sr]
    exact ⟨ht.1, Int.le_refl _⟩
  | succ k ih =>
    intro hk hT
    have hT' := run_time' (Nat.le_succ k) hT
    obtain ⟨g1, g2⟩ := ih (by omega) hT'
    rw [if_neg (by omega), Nat.add_sub_cancel]
    obtain ⟨hx, hc⟩ := hW.2 k (by omega)
    obtain ⟨i, hi⟩ : ∃ i, (p.getD k 0).toNat = i := ⟨_, rfl⟩
    have hil : i < l.length := by omega
    have hra := hR.2.2.2 i hil
    have hsrc : (if k = 0 then src else (am l (p.getD (k - 1) 0).toNat).a.t.toNat) = (netE n l b).s i := by
      show _ = (am l i).a.f.toNat
      by_cases h0 : k = 0
      · subst h0
        rw [if_pos rfl, ← hi, hs]; rfl
      · rw [if_neg h0, hc (by omega), hi]
    rw [hsrc] at g1 g2
    rw [hi]
    have hTe : IsT (lb e ((netE n l b).s i)).1 := ⟨g1, by have := hT'.2; omega⟩
    have e1 : runW l b t p (k + 1) = (am l i).a.pass b (runW l b t p k) := by
      show (am l (p.getD k 0).toNat).a.pass b _ = _
      rw [hi]
    have hm := (pass_arr (b := b) hra.1 hTe).mono (pass_arr (b := b) hra.1 hT') g2
    have hz := (pass_arr (b := b) hra.1 hTe).ge hra.1
    have hT2 := hT.2
    have c := hf.cl i hil g1 (by
      show IsT ((am l i).a.pass b (lb e ((netE n l b).s i)).1)
      exact ⟨by omega, by omega⟩)
    have c2 : (lb e (am l i).a.t.toNat).1 ≤ (am l i).a.pass b (lb e ((netE n l b).s i)).1 := c.2
    exact ⟨c.1, by omega⟩
end

end Go.Proofs.Yteiojobgjdfdpaa
