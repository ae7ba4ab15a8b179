/- Plain: the example of the law. -/
import Derived.Test.YteiojobgjdfdpaaQs
import Derived.Test.YteiojobgjdfdpaaQv
import Derived.Test.YteiojobgjdfdpaaQc
namespace Go.Proofs.Yteiojobgjdfdpaa

abbrev sA0 : Arc := ⟨0, 1, hoursL 10 5, hoursL 20 5⟩
abbrev sA1 : Arc := ⟨1, 2, hoursL 10 10, hoursL 10 10⟩
abbrev sA2 : Arc := ⟨0, 2, hoursL 40 40, hoursL 40 40⟩
theorem some3 {l : List Am} (h : l.map Am.a = someArcs) : l.length = 3 ∧ (am l 0).a = sA0 ∧ (am l 1).a = sA1 ∧ (am l 2).a = sA2 := by
  rcases l with _ | ⟨x, _ | ⟨y, _ | ⟨z, _ | ⟨u, t⟩⟩⟩⟩ <;> simp [someArcs] at h
  obtain ⟨h1, h2, h3⟩ := h
  exact ⟨rfl, h1, h2, h3⟩
theorem hoursL_get (f a : Int) (h : Nat) (hh : h < 24) : (hoursL f a).getD h 0 = if h = 0 then f else a := by
  cases h with
  | zero => rfl
  | succ h =>
    rw [if_neg (by omega), hoursL, List.getD_cons_succ, List.getD_eq_getElem?_getD, List.getElem?_replicate, if_pos (by omega)]
    rfl
theorem hoursL_ok {f t a b c d : Int} (h1 : 0 ≤ f ∧ 0 ≤ t) (h2 : 0 ≤ a ∧ a ≤ c ∧ c ≤ 600) (h3 : 0 ≤ b ∧ b ≤ d ∧ d ≤ 600) : Arc.ok ⟨f, t, hoursL a b, hoursL c d⟩ := by
  refine ⟨h1.1, h1.2, hoursL_len _ _, hoursL_len _ _, fun h hh => ?_⟩
  show 0 ≤ (hoursL a b).getD h 0 ∧ (hoursL a b).getD h 0 ≤ (hoursL c d).getD h 0 ∧ (hoursL c d).getD h 0 ≤ 600
  rw [hoursL_get _ _ _ hh, hoursL_get _ _ _ hh]
  split <;> omega
theorem hoursL_mm (f t a b c d : Int) (k : Bool) (u : Int) : Arc.mm ⟨f, t, hoursL a b, hoursL c d⟩ k u = if hr u = 0 then (if k then c else a) else (if k then d else b) := by
  have hh := hr_lt u
  cases k
  · show (hoursL a b).getD (hr u) 0 = _
    rw [hoursL_get _ _ _ hh]; simp
  · show (hoursL c d).getD (hr u) 0 = _
    rw [hoursL_get _ _ _ hh]; simp
theorem hr_zero {u : Int} (h0 : 0 ≤ u) (h : u < 60) : hr u = 0 := by unfold hr; omega
/-- Two hours alike. -/
theorem pass_same {f t a : Int} (k : Bool) (u : Int) (h : Arc.ok ⟨f, t, hoursL a a, hoursL a a⟩) (hu : IsT u) : Arc.pass ⟨f, t, hoursL a a, hoursL a a⟩ k u = u + a := by
  have e : ∀ v, Arc.mm ⟨f, t, hoursL a a, hoursL a a⟩ k v = a := fun v => by rw [hoursL_mm]; cases k <;> simp
  exact pass_eq h hu ⟨fun v h1 _ => by rw [e]; omega, u, Int.le_refl _, hu.2, by rw [e]⟩
theorem last_eq2 {a : Arc} {y z : Int} (h : LastA a true y z) (ho : a.ok) : a.last true y = z := by
  have hx := netL_last (n := 1) (l := [⟨a, none, 0, none, 0⟩]) (i := 0) (t := y) ho
  exact hx.eq h
theorem last_same {f t a y : Int} (h : Arc.ok ⟨f, t, hoursL a a, hoursL a a⟩) (ha : 0 ≤ a) (hy : y ≤ 1048576) : Arc.last ⟨f, t, hoursL a a, hoursL a a⟩ true y = if a ≤ y then y - a else -1 := by
  have e : ∀ v, Arc.mm ⟨f, t, hoursL a a, hoursL a a⟩ true v = a := fun v => by rw [hoursL_mm]; simp
  refine last_eq2 ?_ h
  by_cases hc : a ≤ y
  · rw [if_pos hc]
    exact ⟨by omega, by omega, fun _ => by rw [e]; omega, fun v h1 _ _ => by rw [e]; omega⟩
  · rw [if_neg hc]
    exact ⟨by omega, by omega, fun h => by omega, fun v h1 _ _ => by rw [e]; omega⟩
theorem sA0_ok : sA0.ok := hoursL_ok (by omega) (by omega) (by omega)
theorem sA1_ok : sA1.ok := hoursL_ok (by omega) (by omega) (by omega)
theorem sA2_ok : sA2.ok := hoursL_ok (by omega) (by omega) (by omega)
theorem sA0_pass0 : sA0.pass false 0 = 10 := by
  refine pass_eq sA0_ok ⟨by omega, by omega⟩ ⟨fun u h1 _ => ?_, 0, by omega, by omega, by rw [hoursL_mm]; rfl⟩
  rw [hoursL_mm]
  by_cases h : u < 60
  · rw [if_pos (hr_zero h1 h)]; simp; omega
  · split <;> simp <;> omega
theorem sA0_pass50 : sA0.pass true 50 = 65 := by
  refine pass_eq sA0_ok ⟨by omega, by omega⟩ ⟨fun u h1 _ => ?_, 60, by omega, by omega, by rw [hoursL_mm]; rfl⟩
  rw [hoursL_mm]
  by_cases h : u < 60
  · rw [if_pos (hr_zero (by omega) h)]; simp; omega
  · split <;> simp <;> omega
theorem sA0_last65 : sA0.last true 65 = 60 := by
  refine last_eq2 ⟨by omega, by omega, fun _ => by rw [hoursL_mm]; simp [hr], fun u h1 _ _ => ?_⟩ sA0_ok
  rw [hoursL_mm]
  split <;> simp <;> omega
theorem sA0_last19 : sA0.last true 19 = -1 := by
  refine last_eq2 ⟨by omega, by omega, fun h => by omega, fun u h1 h2 _ => ?_⟩ sA0_ok
  rw [hoursL_mm]
  by_cases h : u < 60
  · rw [if_pos (hr_zero h2 h)]; simp; omega
  · split <;> simp <;> omega
theorem lb3 {lab : List Lb} {x y z : Lb} (h : lab.length = 3) (h0 : lb lab 0 = x) (h1 : lb lab 1 = y) (h2 : lb lab 2 = z) : lab = [x, y, z] := by
  rcases lab with _ | ⟨a, _ | ⟨b, _ | ⟨c, _ | ⟨d, t⟩⟩⟩⟩ <;> simp at h
  rw [← h0, ← h1, ← h2]; rfl
theorem some_right {l : List Am} (h : l.map Am.a = someArcs) : RRight 3 l ∧ ¬ RRight 2 l := by
  obtain ⟨hl, e0, e1, e2⟩ := some3 h
  constructor
  · refine ⟨by omega, by omega, by omega, fun k hk => ?_⟩
    rw [hl] at hk
    match k, hk with
    | 0, _ => unfold RArc; rw [e0]; exact ⟨sA0_ok, by decide, by decide⟩
    | 1, _ => unfold RArc; rw [e1]; exact ⟨sA1_ok, by decide, by decide⟩
    | 2, _ => unfold RArc; rw [e2]; exact ⟨sA2_ok, by decide, by decide⟩
  · intro hr
    have := hr.2.2.2 1 (by omega)
    unfold RArc at this
    rw [e1] at this
    exact absurd this.2.2 (by decide)

/-- One sets out from 0. -/
theorem early3 {l : List Am} (h : l.map Am.a = someArcs) {b : Bool} {t p q r : Int} {lab : List Lb} (hf : (netE 3 l b).Fin 0 t lab) (ht : IsT t) (h0 : sA0.pass b t = p) (h1 : sA1.pass b p = q) (h2 : sA2.pass b t = r) (hp : IsT p) (hq : IsT q) (hqr : q < r) :
    lab = [(t, -1), (p, 0), (q, 1)] := by
  obtain ⟨hl, e0, e1, e2⟩ := some3 h
  have hm : (netE 3 l b).m = 3 := hl
  have d0 : (netE 3 l b).d 0 = 1 := by show (am l 0).a.t.toNat = 1; rw [e0]; rfl
  have d1 : (netE 3 l b).d 1 = 2 := by show (am l 1).a.t.toNat = 2; rw [e1]; rfl
  have d2 : (netE 3 l b).d 2 = 2 := by show (am l 2).a.t.toNat = 2; rw [e2]; rfl
  have s0 : (netE 3 l b).s 0 = 0 := by show (am l 0).a.f.toNat = 0; rw [e0]; rfl
  have s1 : (netE 3 l b).s 1 = 1 := by show (am l 1).a.f.toNat = 1; rw [e1]; rfl
  have s2 : (netE 3 l b).s 2 = 0 := by show (am l 2).a.f.toNat = 0; rw [e2]; rfl
  have f0 : (netE 3 l b).f 0 t = p := by show (am l 0).a.pass b t = p; rw [e0]; exact h0
  have f1 : (netE 3 l b).f 1 p = q := by show (am l 1).a.pass b p = q; rw [e1]; exact h1
  have f2 : (netE 3 l b).f 2 t = r := by show (am l 2).a.pass b t = r; rw [e2]; exact h2
  have hs := hf.sr
  have k1 : lb lab 1 = (p, 0) := by
    have c0 := hf.cl 0 (by omega) (by rw [s0, hs]; exact ht.1) (by rw [s0, hs, f0]; exact hp)
    rw [d0] at c0
    rcases hf.ty 1 (by show 1 < 3; omega) with e | ⟨_, e⟩
    · rw [e] at c0; have := c0.1; simp at this
    · obtain ⟨i, hi, hd, _, e⟩ := e (by omega)
      rw [hm] at hi
      match i, hi with
      | 0, _ => rw [e, s0, hs, f0]; rfl
      | 1, _ => omega
      | 2, _ => omega
  have k2 : lb lab 2 = (q, 1) := by
    have c1 := hf.cl 1 (by omega) (by rw [s1, k1]; exact hp.1) (by rw [s1, k1, f1]; exact hq)
    rw [d1, s1, k1, f1] at c1
    rcases hf.ty 2 (by show 2 < 3; omega) with e | ⟨_, e⟩
    · rw [e] at c1; have := c1.1; simp at this
    · obtain ⟨i, hi, hd, _, e⟩ := e (by omega)
      rw [hm] at hi
      match i, hi with
      | 0, _ => omega
      | 1, _ => rw [e, s1, k1, f1]; rfl
      | 2, _ =>
        rw [e, s2, hs, f2] at c1
        have : r ≤ q := c1.2
        omega
  exact lb3 hf.len hs k1 k2
/-- One sets out from 2. -/
theorem early2 {l : List Am} (h : l.map Am.a = someArcs) {b : Bool} {t : Int} {lab : List Lb} (hf : (netE 3 l b).Fin 2 t lab) : lab = [(-1, -1), (-1, -1), (t, -1)] := by
  obtain ⟨hl, e0, e1, e2⟩ := some3 h
  have hm : (netE 3 l b).m = 3 := hl
  have d0 : (netE 3 l b).d 0 = 1 := by show (am l 0).a.t.toNat = 1; rw [e0]; rfl
  have d1 : (netE 3 l b).d 1 = 2 := by show (am l 1).a.t.toNat = 2; rw [e1]; rfl
  have d2 : (netE 3 l b).d 2 = 2 := by show (am l 2).a.t.toNat = 2; rw [e2]; rfl
  have s0 : (netE 3 l b).s 0 = 0 := by show (am l 0).a.f.toNat = 0; rw [e0]; rfl
  have k0 : lb lab 0 = (-1, -1) := by
    rcases hf.ty 0 (by show 0 < 3; omega) with e | ⟨_, e⟩
    · exact e
    · obtain ⟨i, hi, hd, _, e⟩ := e (by omega)
      rw [hm] at hi
      match i, hi with
      | 0, _ => omega
      | 1, _ => omega
      | 2, _ => omega
  have k1 : lb lab 1 = (-1, -1) := by
    rcases hf.ty 1 (by show 1 < 3; omega) with e | ⟨_, e⟩
    · exact e
    · obtain ⟨i, hi, hd, hx, e⟩ := e (by omega)
      rw [hm] at hi
      match i, hi with
      | 0, _ => rw [s0, k0] at hx; simp at hx
      | 1, _ => omega
      | 2, _ => omega
  exact lb3 hf.len k0 k1 hf.sr
/-- One has to be at 2. -/
theorem late3 {l : List Am} (h : l.map Am.a = someArcs) {t p q r : Int} {lab : List Lb} (hf : (netL 3 l).Fin 2 t lab) (ht : IsT t) (h1 : sA1.last true t = p) (h0 : sA0.last true p = q) (h2 : sA2.last true t = r) (hp : IsT p) (hq : -1 ≤ q ∧ q ≤ 1048576) (hqr : r < q ∨ (r = -1 ∧ q = -1)) :
    lab = [(q, if q = -1 then -1 else 0), (p, 1), (t, -1)] := by
  obtain ⟨hl, e0, e1, e2⟩ := some3 h
  have hm : (netL 3 l).m = 3 := hl
  have d0 : (netL 3 l).d 0 = 0 := by show (am l 0).a.f.toNat = 0; rw [e0]; rfl
  have d1 : (netL 3 l).d 1 = 1 := by show (am l 1).a.f.toNat = 1; rw [e1]; rfl
  have d2 : (netL 3 l).d 2 = 0 := by show (am l 2).a.f.toNat = 0; rw [e2]; rfl
  have s0 : (netL 3 l).s 0 = 1 := by show (am l 0).a.t.toNat = 1; rw [e0]; rfl
  have s1 : (netL 3 l).s 1 = 2 := by show (am l 1).a.t.toNat = 2; rw [e1]; rfl
  have s2 : (netL 3 l).s 2 = 2 := by show (am l 2).a.t.toNat = 2; rw [e2]; rfl
  have f0 : (netL 3 l).f 0 p = q := by show (am l 0).a.last true p = q; rw [e0]; exact h0
  have f1 : (netL 3 l).f 1 t = p := by show (am l 1).a.last true t = p; rw [e1]; exact h1
  have f2 : (netL 3 l).f 2 t = r := by show (am l 2).a.last true t = r; rw [e2]; exact h2
  have hs := hf.sr
  have k1 : lb lab 1 = (p, 1) := by
    have c1 := hf.cl 1 (by omega) (by rw [s1, hs]; exact ht.1) (by rw [s1, hs, f1]; exact hp)
    rw [d1] at c1
    rcases hf.ty 1 (by show 1 < 3; omega) with e | ⟨_, e⟩
    · rw [e] at c1; have := c1.1; simp at this
    · obtain ⟨i, hi, hd, _, e⟩ := e (by omega)
      rw [hm] at hi
      match i, hi with
      | 0, _ => omega
      | 1, _ => rw [e, s1, hs, f1]; rfl
      | 2, _ => omega
  have k0 : lb lab 0 = (q, if q = -1 then -1 else 0) := by
    rcases hf.ty 0 (by show 0 < 3; omega) with e | ⟨hT, e⟩
    · by_cases hz : q = -1
      · rw [e, if_pos hz, hz]
      · have c0 := hf.cl 0 (by omega) (by rw [s0, k1]; exact hp.1) (by rw [s0, k1, f0]; exact ⟨by omega, hq.2⟩)
        rw [d0, e] at c0; have := c0.1; simp at this
    · obtain ⟨i, hi, hd, _, e⟩ := e (by omega)
      rw [hm] at hi
      match i, hi with
      | 0, _ =>
        rw [e, s0, k1, f0] at hT
        have hz : q ≠ -1 := fun h => by have := hT.1; simp only at this; omega
        rw [e, s0, k1, f0, if_neg hz]; rfl
      | 1, _ => omega
      | 2, _ =>
        rw [e, s2, hs, f2] at hT
        have hr0 : 0 ≤ r := hT.1
        have c0 := hf.cl 0 (by omega) (by rw [s0, k1]; exact hp.1) (by rw [s0, k1, f0]; exact ⟨by omega, hq.2⟩)
        rw [d0, e, s2, hs, f2, s0, k1, f0] at c0
        have : -r ≤ -q := c0.2
        omega
  exact lb3 hf.len k0 k1 hs

end Go.Proofs.Yteiojobgjdfdpaa
