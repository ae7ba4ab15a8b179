/- Plain: more arcs, an earlier start, lower bounds: nobody is later. -/
import Derived.Test.YteiojobgjdfdpaaSa
namespace Go.Proofs.Yteiojobgjdfdpaa

theorem later_gen {n : Nat} {l1 l2 : List Am} {b1 b2 : Bool} {src : Nat} {t1 t2 : Int} {e1 e2 : List Lb} (hR2 : RRight n l2) (hpre : ∀ i, i < l2.length → i < l1.length ∧ am l1 i = am l2 i) (hf1 : (netE n l1 b1).Fin src t1 e1) (hf2 : (netE n l2 b2).Fin src t2 e2) (ht : t1 ≤ t2) (ht1 : 0 ≤ t1) (hb : b1 = b2 ∨ b1 = false) :
    ∀ v, v < n → 0 ≤ (lb e2 v).1 → 0 ≤ (lb e1 v).1 ∧ (lb e1 v).1 ≤ (lb e2 v).1 := by
  intro v hv h0
  obtain ⟨k, _, hk⟩ := hf2.ind (fun _ u => 0 ≤ (lb e1 u).1 ∧ (lb e1 u).1 ≤ (lb e2 u).1) (by rw [hf1.sr, hf2.sr]; exact ⟨ht1, ht⟩) (fun k v i hv hne h0 hi hd hs he hq => by
    have hi2 : i < l2.length := hi
    obtain ⟨hi1, ham⟩ := hpre i hi2
    obtain ⟨g1, g2⟩ := hq
    have hra := hR2.2.2.2 i hi2
    have hsn : (netE n l2 b2).s i < n := (netE_ok hR2).st i hi
    have e : (lb e2 v).1 = (am l2 i).a.pass b2 (lb e2 ((netE n l2 b2).s i)).1 := by rw [he]; rfl
    have hTv : IsT (lb e2 v).1 := by
      rcases hf2.ty v hv with k | ⟨k, _⟩
      · rw [k] at h0; exact absurd h0 (by decide)
      · exact k
    have hTs : IsT (lb e2 ((netE n l2 b2).s i)).1 := by
      rcases hf2.ty _ hsn with k | ⟨k, _⟩
      · rw [k] at hs; exact absurd hs (by decide)
      · exact k
    have hT1 : IsT (lb e1 ((netE n l2 b2).s i)).1 := ⟨g1, by have := hTs.2; omega⟩
    have es : (netE n l1 b1).s i = (netE n l2 b2).s i := by show (am l1 i).a.f.toNat = (am l2 i).a.f.toNat; rw [ham]
    have ed : (netE n l1 b1).d i = v := by
      have h : (am l2 i).a.t.toNat = v := hd
      show (am l1 i).a.t.toNat = v
      rw [ham]; exact h
    have hp : (am l2 i).a.pass b1 (lb e1 ((netE n l2 b2).s i)).1 ≤ (am l2 i).a.pass b2 (lb e2 ((netE n l2 b2).s i)).1 := by
      refine Int.le_trans ((pass_arr (b := b1) hra.1 hT1).mono (pass_arr (b := b1) hra.1 hTs) g2) ((pass_arr (b := b1) hra.1 hTs).less (pass_arr (b := b2) hra.1 hTs) (fun u => ?_))
      rcases hb with h | h
      · rw [h]; exact Int.le_refl _
      · rw [h]
        cases b2
        · exact Int.le_refl _
        · exact hra.1.low u
    have hz := (pass_arr (b := b1) hra.1 hT1).ge hra.1
    have hc := hf1.cl i hi1 (by rw [es]; exact g1) (by
      show IsT ((am l1 i).a.pass b1 (lb e1 ((netE n l1 b1).s i)).1)
      rw [es, ham]
      exact ⟨by omega, by have := hTv.2; omega⟩)
    rw [ed] at hc
    have h3 : (lb e1 v).1 ≤ (am l1 i).a.pass b1 (lb e1 ((netE n l1 b1).s i)).1 := hc.2
    rw [es, ham] at h3
    exact ⟨hc.1, by omega⟩) v hv h0
  exact hk
theorem am_pre {l : List Am} {x : Am} {i : Nat} (h : i < l.length) : am (l ++ [x]) i = am l i := by
  show (l ++ [x]).getD i anil = l.getD i anil
  rw [List.getD_eq_getElem?_getD, List.getElem?_append_left h, ← List.getD_eq_getElem?_getD]
theorem am_last {l : List Am} {x : Am} : am (l ++ [x]) l.length = x := by
  show (l ++ [x]).getD l.length anil = x
  rw [List.getD_eq_getElem?_getD, List.getElem?_append_right (Nat.le_refl _)]
  simp

end Go.Proofs.Yteiojobgjdfdpaa
