/- Plain: the least that is not settled; the search's steps as the reference takes them. -/
import Derived.Test.YteiojobgjdfdpaaOl
namespace Go.Proofs.Yteiojobgjdfdpaa
open Go.RowKit Go.Shelf

def PickTo (bk : Bool) (lab : List Lb) (dn : List Nat) (i : Nat) (z : Int) : Prop :=
  (z = -1 ∧ ∀ v, v < i → v ∉ dn → (lb lab v).1 < 0) ∨ ∃ u : Nat, z = u ∧ u < i ∧ u ∉ dn ∧ 0 ≤ (lb lab u).1 ∧
    ∀ v, v < i → v ∉ dn → 0 ≤ (lb lab v).1 → cst bk (lb lab u).1 < cst bk (lb lab v).1 ∨ (cst bk (lb lab u).1 = cst bk (lb lab v).1 ∧ u ≤ v)
section
variable {bk : Bool} {lab : List Lb} {dn : List Nat} {i : Nat} {z : Int}
theorem PickTo.zero : PickTo bk lab dn 0 (-1) := .inl ⟨rfl, fun v hv => by omega⟩
theorem PickTo.skip (h : PickTo bk lab dn i z) (hs : i ∈ dn ∨ (lb lab i).1 < 0) : PickTo bk lab dn (i + 1) z := by
  rcases h with ⟨e, h⟩ | ⟨u, e, hu, h1, h2, h⟩
  · refine .inl ⟨e, fun v hv hd => ?_⟩
    by_cases e2 : v = i
    · subst e2
      rcases hs with k | k
      · exact absurd k hd
      · exact k
    · exact h v (by omega) hd
  · refine .inr ⟨u, e, by omega, h1, h2, fun v hv hd hp => ?_⟩
    by_cases e2 : v = i
    · subst e2
      rcases hs with k | k
      · exact absurd k hd
      · omega
    · exact h v (by omega) hd hp
theorem PickTo.first (h : PickTo bk lab dn i (-1)) (h1 : i ∉ dn) (h2 : 0 ≤ (lb lab i).1) : PickTo bk lab dn (i + 1) i := by
  rcases h with ⟨_, h⟩ | ⟨u, e, _⟩
  · refine .inr ⟨i, rfl, by omega, h1, h2, fun v hv hd hp => ?_⟩
    by_cases e2 : v = i
    · subst e2; exact .inr ⟨rfl, Nat.le_refl _⟩
    · have := h v (by omega) hd
      omega
  · omega
theorem PickTo.take {u : Nat} (h : PickTo bk lab dn i u) (h1 : i ∉ dn) (h2 : 0 ≤ (lb lab i).1) (h3 : cst bk (lb lab i).1 < cst bk (lb lab u).1) : PickTo bk lab dn (i + 1) i := by
  rcases h with ⟨e, h⟩ | ⟨u', e, hu, k1, k2, h⟩
  · omega
  · have : u' = u := by omega
    subst this
    refine .inr ⟨i, rfl, by omega, h1, h2, fun v hv hd hp => ?_⟩
    by_cases e2 : v = i
    · subst e2; exact .inr ⟨rfl, Nat.le_refl _⟩
    · rcases h v (by omega) hd hp with k | k <;> exact .inl (by omega)
theorem PickTo.keep {u : Nat} (h : PickTo bk lab dn i u) (h3 : cst bk (lb lab u).1 ≤ cst bk (lb lab i).1) : PickTo bk lab dn (i + 1) u := by
  rcases h with ⟨e, h⟩ | ⟨u', e, hu, k1, k2, h⟩
  · omega
  · have : u' = u := by omega
    subst this
    refine .inr ⟨u', rfl, by omega, k1, k2, fun v hv hd hp => ?_⟩
    by_cases e2 : v = i
    · subst e2
      by_cases e3 : cst bk (lb lab u').1 < cst bk (lb lab v).1
      · exact .inl e3
      · exact .inr ⟨by omega, by omega⟩
    · exact h v (by omega) hd hp
theorem PickTo.lt (h : PickTo bk lab dn i z) : z = -1 ∨ ∃ u : Nat, z = u ∧ u < i ∧ u ∉ dn ∧ 0 ≤ (lb lab u).1 := by
  rcases h with ⟨e, _⟩ | ⟨u, e, h1, h2, h3, _⟩
  · exact .inl e
  · exact .inr ⟨u, e, h1, h2, h3⟩
end
theorem PickTo.pick {G : Net} {a : St} {u : Nat} (h : PickTo G.bk a.lab a.dn G.n u) : G.pick a u := by
  rcases h with ⟨e, h⟩ | ⟨u', e, hu, k1, k2, h⟩
  · omega
  · have : u' = u := by omega
    subst this
    exact ⟨hu, k1, k2, h⟩
theorem PickTo.fin {G : Net} {a : St} (h : PickTo G.bk a.lab a.dn G.n (-1)) : G.fin a := by
  rcases h with ⟨_, h⟩ | ⟨u', e, _⟩
  · exact h
  · omega
theorem Net.rel1_dn {G : Net} {dn : List Nat} {t : Int} {lab : List Lb} {i v : Nat} (hv : v ∈ dn) : lb (G.rel1 dn t lab i) v = lb lab v := by
  unfold Net.rel1
  split
  · rename_i hc
    by_cases hl : G.d i < lab.length
    · rw [lb_set hl, if_neg (fun e : v = G.d i => hc.2.1 (e ▸ hv))]
    · rw [List.set_eq_of_length_le (by omega)]
  · rfl
theorem Net.relA_dn {G : Net} {dn : List Nat} {t : Int} (l : List Nat) {v : Nat} (hv : v ∈ dn) : ∀ {lab : List Lb}, lb (G.relA dn t l lab) v = lb lab v := by
  induction l with
  | nil => intro lab; rfl
  | cons i l ih => intro lab; show lb (G.relA dn t l (G.rel1 dn t lab i)) v = _; rw [ih, Net.rel1_dn hv]
/-- One arc of the reference's loop over all arcs. -/
theorem Net.relA_next (G : Net) (dn : List Nat) (t : Int) (lab : List Lb) (u i : Nat) :
    G.relA dn t (G.arcs u (i + 1)) lab = if G.s i = u then G.rel1 dn t (G.relA dn t (G.arcs u i) lab) i else G.relA dn t (G.arcs u i) lab := by
  rw [Net.arcs_succ]
  split
  · rw [Net.relA_snoc]
  · rfl
theorem Net.rel1_skip {G : Net} {dn : List Nat} {t : Int} {lab : List Lb} {i : Nat} (h : ¬ (IsT (G.f i t) ∧ G.d i ∉ dn ∧ bet G.bk (G.f i t, (i : Int)) (lb lab (G.d i)))) : G.rel1 dn t lab i = lab := if_neg h
theorem Net.rel1_do {G : Net} {dn : List Nat} {t : Int} {lab : List Lb} {i : Nat} (h : IsT (G.f i t) ∧ G.d i ∉ dn ∧ bet G.bk (G.f i t, (i : Int)) (lb lab (G.d i))) : G.rel1 dn t lab i = lab.set (G.d i) (G.f i t, (i : Int)) := if_pos h
theorem LabB.of_run {G : Net} {src : Nat} {start : Int} (hG : G.ok) (hs : src < G.n) (hT0 : IsT start) {a : St} (h : G.Run (G.ini src start) a) : LabB a.lab := fun v => by
  have hI := h.inv hG hs hT0
  by_cases hv : v < G.n
  · rcases hI.ty v hv with e | ⟨k, _⟩
    · rw [e]; decide
    · have := k.1; have := k.2; omega
  · rw [lb_len (by rw [hI.len]; omega)]; decide
theorem RS.unw {w : World} {N gl gd n cap : Nat} {lab : List Lb} {dn : List Nat} (h : RS w N gl gd n cap lab dn) : unW w gd n = un n dn := by
  unfold unW un
  congr 1
  apply List.filter_congr
  intro k hk
  rw [h.settled (by simpa using hk)]

end Go.Proofs.Yteiojobgjdfdpaa
