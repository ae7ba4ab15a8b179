/- Plain: the way of the earliest labels. -/
import Derived.Test.YteiojobgjdfdpaaQs
import Derived.Test.YteiojobgjdfdpaaQy
namespace Go.Proofs.Yteiojobgjdfdpaa

/-- From src to v by these arcs, as the labels say. -/
inductive Leads (G : Net) (lab : List Lb) (src : Nat) : Nat → List Nat → Prop
  | base : Leads G lab src src []
  | step {v i : Nat} {p : List Nat} (hv : v < G.n) (h0 : 0 ≤ (lb lab v).1) (hi : i < G.m) (hd : G.d i = v) (hs : 0 ≤ (lb lab (G.s i)).1) (he : lb lab v = (G.f i (lb lab (G.s i)).1, (i : Int))) (k : Leads G lab src (G.s i) p) : Leads G lab src v (p ++ [i])
/-- Where one is behind so many arcs. -/
def nodeAt (G : Net) (src : Nat) (p : List Nat) (j : Nat) : Nat := if j = 0 then src else G.d (p.getD (j - 1) 0)
theorem nodeAt_snoc {G : Net} {src : Nat} {p : List Nat} {i j : Nat} (h : j ≤ p.length) : nodeAt G src (p ++ [i]) j = nodeAt G src p j := by
  unfold nodeAt
  by_cases hj : j = 0
  · rw [if_pos hj, if_pos hj]
  · rw [if_neg hj, if_neg hj, List.getD_eq_getElem?_getD, List.getElem?_append_left (by omega), ← List.getD_eq_getElem?_getD]
theorem Leads.last {G : Net} {lab : List Lb} {src v : Nat} {p : List Nat} (h : Leads G lab src v p) : nodeAt G src p p.length = v := by
  cases h with
  | base => rfl
  | @step _ i p hv h0 hi hd hs he k =>
    unfold nodeAt
    rw [List.length_append, if_neg (by simp), List.getD_eq_getElem?_getD]
    simp [hd]
theorem Leads.at_ {G : Net} {lab : List Lb} {src v : Nat} {p : List Nat} (h : Leads G lab src v p) : ∀ j, j < p.length →
    p.getD j 0 < G.m ∧ G.s (p.getD j 0) = nodeAt G src p j ∧ 0 ≤ (lb lab (nodeAt G src p j)).1 ∧ lb lab (nodeAt G src p (j + 1)) = (G.f (p.getD j 0) (lb lab (nodeAt G src p j)).1, (p.getD j 0 : Int)) := by
  induction h with
  | base => intro j hj; exact absurd hj (by simp)
  | @step v i p hv h0 hi hd hs he k ih =>
    intro j hj
    rw [List.length_append] at hj
    simp only [List.length_cons, List.length_nil] at hj
    by_cases hjl : j < p.length
    · have e : (p ++ [i]).getD j 0 = p.getD j 0 := by rw [List.getD_eq_getElem?_getD, List.getElem?_append_left hjl, ← List.getD_eq_getElem?_getD]
      rw [e, nodeAt_snoc (by omega), nodeAt_snoc (by omega)]
      exact ih j hjl
    · have : j = p.length := by omega
      subst this
      have e : (p ++ [i]).getD p.length 0 = i := by rw [List.getD_eq_getElem?_getD, List.getElem?_append_right (Nat.le_refl _)]; simp
      have e2 : nodeAt G src (p ++ [i]) (p.length + 1) = v := by
        have := (Leads.step hv h0 hi hd hs he k).last
        rw [List.length_append] at this
        exact this
      rw [e, e2, nodeAt_snoc (Nat.le_refl _), k.last]
      exact ⟨hi, rfl, hs, he⟩
theorem Net.Fin.leads {G : Net} {src : Nat} {t : Int} {lab : List Lb} (h : G.Fin src t lab) {v : Nat} (hv : v < G.n) (h0 : 0 ≤ (lb lab v).1) : ∃ p, Leads G lab src v p ∧ p.length < G.n := by
  obtain ⟨k, hk, p, hp, hl⟩ := h.ind (fun k v => ∃ p, Leads G lab src v p ∧ p.length = k) ⟨[], .base, rfl⟩ (fun k v i hv hne h0 hi hd hs he ⟨p, hp, hl⟩ => ⟨p ++ [i], .step hv h0 hi hd hs he hp, by simp [hl]⟩) v hv h0
  exact ⟨p, hp, by omega⟩
theorem Leads.path {n : Nat} {l : List Am} {b : Bool} {lab : List Lb} {src v : Nat} {t : Int} {p : List Nat} (hR : RRight n l) (hf : (netE n l b).Fin src t lab) (hs : src < n) (h : Leads (netE n l b) lab src v p) : PathTo lab (ends l) l.length (v : Int) (p.map (fun i : Nat => (i : Int))) := by
  have hlen : lab.length = n := hf.len
  induction h with
  | base => exact .base (by omega) (by rw [Int.toNat_natCast, hf.sr])
  | @step v i p hv h0 hi hd hs' he k ih =>
    have hv' : v < n := hv
    have hi' : i < l.length := hi
    have hr := hR.2.2.2 i hi'
    rw [List.map_append]
    have e1 : (am l i).a.t = (v : Int) := by
      have h1 : (am l i).a.t.toNat = v := hd
      have := hr.1.2.1
      omega
    have e2 : (am l i).a.f = (((netE n l b).s i : Nat) : Int) := by
      show (am l i).a.f = (((am l i).a.f.toNat : Nat) : Int)
      have := hr.1.1
      omega
    refine .step (i := i) (by omega) (by rw [Int.toNat_natCast, he]) hi' e1 ?_
    show PathTo lab (ends l) l.length (am l i).a.f _
    rw [e2]; exact ih
theorem Leads.way {n : Nat} {l : List Am} {b : Bool} {lab : List Lb} {src v : Nat} {t : Int} {p : List Nat} (hR : RRight n l) (hf : (netE n l b).Fin src t lab) (hs : src < n) (hv : v < n) (h0 : 0 ≤ (lb lab v).1) (h : Leads (netE n l b) lab src v p) (hp : p.length < n) :
    wayP lab (ends l) l.length (v : Int) = p.map (fun i : Nat => (i : Int)) := by
  have hlen : lab.length = n := hf.len
  rw [wayP, if_pos ⟨by omega, by omega, by rw [Int.toNat_natCast]; omega⟩, (h.path hR hf hs).way _ _ (by rw [List.length_map]; omega) (by rw [List.length_map]; simp; omega), List.append_nil]
theorem way_none {lab : List Lb} {ar : Nat → Int × Int} {m v : Nat} (h : (lb lab v).1 = -1) : wayP lab ar m (v : Int) = [] := by
  rw [wayP, if_neg (by rw [Int.toNat_natCast, h]; simp)]

end Go.Proofs.Yteiojobgjdfdpaa
