/- Plain: late and early. -/
import Derived.Test.YteiojobgjdfdpaaQs
namespace Go.Proofs.Yteiojobgjdfdpaa

set_option linter.unusedSectionVars false
section
variable {n : Nat} {l : List Am} (hR : RRight n l) {dst : Nat} {y : Int} (hd : dst < n) (hy : IsT y) {lab : List Lb} (hf : (netL n l).Fin dst y lab)
include hR hf
theorem netL_i {i : Nat} (hi : i < l.length) {t : Int} : LastA (am l i).a true t ((netL n l).f i t) := netL_last (hR.2.2.2 i hi).1
theorem late_le {v : Nat} (hv : v < n) : (lb lab v).1 ≤ y ∨ (lb lab v).1 = -1 := by
  rcases hf.ty v hv with e | ⟨hT, _⟩
  · right; rw [e]
  · left
    obtain ⟨k, _, hk⟩ := hf.ind (fun _ u => (lb lab u).1 ≤ y) (by rw [hf.sr]; exact Int.le_refl _) (fun k u i hu hne h0 hi hdi hs he hq => by
      have hL := netL_i hR hf hi (t := (lb lab ((netL n l).s i)).1)
      rw [he] at h0 ⊢
      have h1 := hL.out h0
      have h2 := ((hR.2.2.2 i hi).1.mm true ((netL n l).f i (lb lab ((netL n l).s i)).1)).1
      show (netL n l).f i (lb lab ((netL n l).s i)).1 ≤ y
      omega) v hv hT.1
    exact hk
theorem late_ge {v : Nat} (hv : v < n) : -1 ≤ (lb lab v).1 := by
  rcases hf.ty v hv with e | ⟨hT, _⟩
  · rw [e]; omega
  · have := hT.1; omega
include hy
theorem late_in {v : Nat} (hv : v < n) {lab2 : List Lb} (h0 : 0 ≤ (lb lab v).1) (h2 : (netE n l true).Fin v (lb lab v).1 lab2) : 0 ≤ (lb lab2 dst).1 ∧ (lb lab2 dst).1 ≤ y := by
  obtain ⟨k, _, hk⟩ := hf.ind (fun _ u => 0 ≤ (lb lab2 u).1 ∧ (lb lab2 u).1 ≤ (lb lab u).1 → 0 ≤ (lb lab2 dst).1 ∧ (lb lab2 dst).1 ≤ y) (fun h => by rw [hf.sr] at h; exact h) (fun k u i hu hne h0 hi hdi hs he hq h => hq (by
      have hL := netL_i hR hf hi (t := (lb lab ((netL n l).s i)).1)
      have hsn : (netL n l).s i < n := by
        show (am l i).a.t.toNat < n
        have h1 := (hR.2.2.2 i hi).1.2.1
        have h2 := (hR.2.2.2 i hi).2.2
        omega
      have hu2 : IsT (lb lab2 u).1 := by
        rcases h2.ty u hu with e | ⟨hT, _⟩
        · rw [e] at h; exact absurd h.1 (by decide)
        · exact hT
      have hA := netE_arr (n := n) (l := l) (b := true) (i := i) (hR.2.2.2 i hi).1 hu2
      have e1 : (lb lab u).1 = (netL n l).f i (lb lab ((netL n l).s i)).1 := by rw [he]
      have h3 : (netE n l true).f i (lb lab2 u).1 ≤ (lb lab ((netL n l).s i)).1 := (hL.iff hu2 hA).2 (by rw [← e1]; exact h.2)
      have h4 := hA.ge (hR.2.2.2 i hi).1
      have h5 : (lb lab ((netL n l).s i)).1 ≤ y := by
        rcases late_le hR hf hsn with e | e
        · exact e
        · have := hy.1; omega
      have es : (netE n l true).s i = u := hdi
      have c := h2.cl i hi (by rw [es]; exact hu2.1) (by rw [es]; exact ⟨by have := hu2.1; omega, by have := hy.2; omega⟩)
      rw [es] at c
      have c2 : (lb lab2 ((netE n l true).d i)).1 ≤ (netE n l true).f i (lb lab2 u).1 := c.2
      exact ⟨c.1, Int.le_trans c2 h3⟩)) v hv h0
  exact hk ⟨by rw [h2.sr]; exact h0, by rw [h2.sr]; exact Int.le_refl _⟩
theorem late_out {v : Nat} (hv : v < n) {lab2 : List Lb} (h2 : (netE n l true).Fin v ((lb lab v).1 + 1) lab2) (hd : dst < n) (h : 0 ≤ (lb lab2 dst).1) : y < (lb lab2 dst).1 := by
  obtain ⟨k, _, hk⟩ := h2.ind (fun _ u => (lb lab u).1 < (lb lab2 u).1) (by rw [h2.sr]; show (lb lab v).1 < (lb lab v).1 + 1; omega) (fun k u i hu hne h0 hi hdi hs he hq => by
    by_cases hc : (lb lab u).1 < (lb lab2 u).1
    · exact hc
    · exfalso
      have hsn : (netE n l true).s i < n := by
        show (am l i).a.f.toNat < n
        have h1 := (hR.2.2.2 i hi).1.1
        have h2 := (hR.2.2.2 i hi).2.1
        omega
      have hs2 : IsT (lb lab2 ((netE n l true).s i)).1 := by
        rcases h2.ty _ hsn with e | ⟨hT, _⟩
        · rw [e] at hs; exact absurd hs (by decide)
        · exact hT
      have hA := netE_arr (n := n) (l := l) (b := true) (i := i) (hR.2.2.2 i hi).1 hs2
      have e1 : (lb lab2 u).1 = (netE n l true).f i (lb lab2 ((netE n l true).s i)).1 := by rw [he]
      have hL := netL_i hR hf hi (t := (lb lab u).1)
      have h3 := (hL.iff hs2 hA).1 (by rw [← e1]; omega)
      have es : (netL n l).s i = u := hdi
      have c := hf.cl i hi (by rw [es]; omega) (by rw [es]; exact ⟨by have := hs2.1; omega, hL.high⟩)
      rw [es] at c
      have c2 : -(lb lab ((netL n l).d i)).1 ≤ -((netL n l).f i (lb lab u).1) := c.2
      have hq2 : (lb lab ((netL n l).d i)).1 < (lb lab2 ((netE n l true).s i)).1 := hq
      omega) dst hd h
  rw [hf.sr] at hk
  exact hk
end

end Go.Proofs.Yteiojobgjdfdpaa
