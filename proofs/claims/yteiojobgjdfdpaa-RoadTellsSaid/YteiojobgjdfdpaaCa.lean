/- Plain: arcs, arrivals, the latest time to begin. No program. -/
import Derived.Test.YteiojobgjdfdpaaRows
namespace Go.Proofs.Yteiojobgjdfdpaa

structure Arc where
  f : Int
  t : Int
  lo : List Int
  hi : List Int

def Arc.ok (a : Arc) : Prop := 0 ≤ a.f ∧ 0 ≤ a.t ∧ a.lo.length = 24 ∧ a.hi.length = 24 ∧ ∀ h, h < 24 → 0 ≤ a.lo.getD h 0 ∧ a.lo.getD h 0 ≤ a.hi.getD h 0 ∧ a.hi.getD h 0 ≤ 600
def Arc.row (a : Arc) (b : Bool) : List Int := if b then a.hi else a.lo
def hr (u : Int) : Nat := (u / 60 % 24).toNat
theorem hr_lt (u : Int) : hr u < 24 := by unfold hr; omega
theorem hr_eq {u : Int} (_h : 0 ≤ u) : u / 60 % 24 = (hr u : Int) := by unfold hr; omega
theorem hr_same {u v : Int} (h : u / 60 = v / 60) : hr u = hr v := by unfold hr; rw [h]
theorem hr_day (u : Int) : hr (u + 1440) = hr u := by unfold hr; omega
/-- What it takes from u on. -/
def Arc.mm (a : Arc) (b : Bool) (u : Int) : Int := (a.row b).getD (hr u) 0
theorem Arc.mm_same {a : Arc} {b : Bool} {u v : Int} (h : u / 60 = v / 60) : a.mm b u = a.mm b v := by unfold Arc.mm; rw [hr_same h]
theorem Arc.mm_day {a : Arc} {b : Bool} (u : Int) : a.mm b (u + 1440) = a.mm b u := by unfold Arc.mm; rw [hr_day]
theorem Arc.ok.mm {a : Arc} (h : a.ok) (b : Bool) (u : Int) : 0 ≤ a.mm b u ∧ a.mm b u ≤ 600 := by
  have := h.2.2.2.2 (hr u) (hr_lt u)
  unfold Arc.mm Arc.row
  cases b
  · show 0 ≤ a.lo.getD (hr u) 0 ∧ a.lo.getD (hr u) 0 ≤ 600
    omega
  · show 0 ≤ a.hi.getD (hr u) 0 ∧ a.hi.getD (hr u) 0 ≤ 600
    omega
theorem Arc.ok.low {a : Arc} (h : a.ok) (u : Int) : a.mm false u ≤ a.mm true u := by
  have := h.2.2.2.2 (hr u) (hr_lt u)
  show a.lo.getD (hr u) 0 ≤ a.hi.getD (hr u) 0
  omega

def IsT (t : Int) : Prop := 0 ≤ t ∧ t ≤ 1048576

/-- z is the least arrival from t on. -/
structure Arr (a : Arc) (b : Bool) (t z : Int) : Prop where
  le : ∀ u, t ≤ u → u ≤ 1048576 → z ≤ u + a.mm b u
  at_ : ∃ u, t ≤ u ∧ u ≤ 1048576 ∧ z = u + a.mm b u
theorem Arr.eq {a : Arc} {b : Bool} {t z z' : Int} (h : Arr a b t z) (h' : Arr a b t z') : z = z' := by
  obtain ⟨u, h1, h2, h3⟩ := h.at_
  obtain ⟨v, k1, k2, k3⟩ := h'.at_
  have := h.le v k1 k2
  have := h'.le u h1 h2
  omega

noncomputable def Arc.took (a : Arc) (b : Bool) (t : Int) : Int := open Classical in if a.ok ∧ IsT t then a.mm b t else -1
theorem Arc.took_yes {a : Arc} {b : Bool} {t : Int} (h : a.ok) (ht : IsT t) : a.took b t = a.mm b t := if_pos ⟨h, ht⟩
theorem Arc.took_no {a : Arc} {b : Bool} {t : Int} (h : ¬ (a.ok ∧ IsT t)) : a.took b t = -1 := if_neg h

/-- What Pass returns. -/
def PassP (a : Arc) (b : Bool) (t z : Int) : Prop := (a.ok ∧ IsT t ∧ Arr a b t z) ∨ (¬ (a.ok ∧ IsT t) ∧ z = -1)
theorem PassP.eq {a : Arc} {b : Bool} {t z z' : Int} (h : PassP a b t z) (h' : PassP a b t z') : z = z' := by
  rcases h with ⟨h1, h2, h3⟩ | ⟨h1, rfl⟩ <;> rcases h' with ⟨k1, k2, k3⟩ | ⟨k1, rfl⟩
  · exact h3.eq k3
  · exact absurd ⟨h1, h2⟩ k1
  · exact absurd ⟨k1, k2⟩ h1
  · rfl
theorem PassP.arr {a : Arc} {b : Bool} {t z : Int} (h : PassP a b t z) (h1 : a.ok) (h2 : IsT t) : Arr a b t z := by
  rcases h with ⟨_, _, h3⟩ | ⟨k, _⟩
  · exact h3
  · exact absurd ⟨h1, h2⟩ k

/-- z is the greatest time from which one can be there by some time, or -1. -/
structure LastA (a : Arc) (b : Bool) (y z : Int) : Prop where
  low : -1 ≤ z
  high : z ≤ 1048576
  out : 0 ≤ z → z + a.mm b z ≤ y
  no : ∀ v, z < v → 0 ≤ v → v ≤ 1048576 → y < v + a.mm b v
theorem LastA.eq {a : Arc} {b : Bool} {y z z' : Int} (h : LastA a b y z) (h' : LastA a b y z') : z = z' := by
  have h1 := h.low
  have h2 := h.high
  have h3 := h'.low
  have h4 := h'.high
  rcases Int.lt_trichotomy z z' with hl | he | hl
  · have h5 := h.no z' hl (by omega) (by omega)
    have h6 := h'.out (by omega)
    omega
  · exact he
  · have h5 := h'.no z hl (by omega) (by omega)
    have h6 := h.out (by omega)
    omega
def LastP (a : Arc) (b : Bool) (y z : Int) : Prop := (a.ok ∧ LastA a b y z) ∨ (¬ a.ok ∧ z = -1)
theorem LastP.eq {a : Arc} {b : Bool} {y z z' : Int} (h : LastP a b y z) (h' : LastP a b y z') : z = z' := by
  rcases h with ⟨h1, h3⟩ | ⟨h1, rfl⟩ <;> rcases h' with ⟨k1, k3⟩ | ⟨k1, rfl⟩
  · exact h3.eq k3
  · exact absurd h1 k1
  · exact absurd k1 h1
  · rfl
theorem LastP.la {a : Arc} {b : Bool} {y z : Int} (h : LastP a b y z) (h1 : a.ok) : LastA a b y z := by
  rcases h with ⟨_, h3⟩ | ⟨k, _⟩
  · exact h3
  · exact absurd h1 k
/-- One arrives by y exactly if one begins at most at the latest time. -/
theorem LastA.iff {a : Arc} {b : Bool} {y z t p : Int} (h : LastA a b y z) (ht : IsT t) (hp : Arr a b t p) : p ≤ y ↔ t ≤ z := by
  obtain ⟨u, u1, u2, u3⟩ := hp.at_
  have := ht.1
  constructor
  · intro hpy
    apply Classical.byContradiction
    intro hn
    have := h.no u (by omega) (by omega) u2
    omega
  · intro htz
    have h1 := h.high
    have := hp.le z htz h1
    have := h.out (by omega)
    omega
theorem LastA.of_neg {a : Arc} {b : Bool} {y : Int} (h : a.ok) (hy : y < 0) : LastA a b y (-1) :=
  ⟨Int.le_refl _, by omega, fun h => by omega, fun v _ hv _ => by have := (h.mm b v).1; omega⟩

theorem Arc.ok.of_false {a : Arc} {h : Nat} (hh : h < 24) (hb : a.lo.getD h 0 < 0 ∨ a.hi.getD h 0 < a.lo.getD h 0 ∨ 600 < a.hi.getD h 0) : ¬ a.ok := fun ho => by
  have := ho.2.2.2.2 h hh
  omega

/-- The arrival is not earlier from a later time on. -/
theorem Arr.mono {a : Arc} {b : Bool} {t t' z z' : Int} (h : Arr a b t z) (h' : Arr a b t' z') (ht : t ≤ t') : z ≤ z' := by
  obtain ⟨u, u1, u2, rfl⟩ := h'.at_
  exact h.le u (by omega) u2
theorem Arr.ge {a : Arc} {b : Bool} {t z : Int} (ho : a.ok) (h : Arr a b t z) : t ≤ z := by
  obtain ⟨u, u1, u2, rfl⟩ := h.at_
  have := (ho.mm b u).1
  omega
theorem Arr.le_took {a : Arc} {b : Bool} {t z : Int} (h : Arr a b t z) (ht : IsT t) : z ≤ t + a.mm b t := h.le t (Int.le_refl _) ht.2

/-- Less is needed. -/
theorem Arr.less {a a' : Arc} {b b' : Bool} {t z z' : Int} (h : Arr a b t z) (h' : Arr a' b' t z') (hm : ∀ u, a.mm b u ≤ a'.mm b' u) : z ≤ z' := by
  obtain ⟨u, u1, u2, rfl⟩ := h'.at_
  have := h.le u u1 u2
  have := hm u
  omega
theorem LastA.less {a a' : Arc} {b b' : Bool} {y z z' : Int} (h : LastA a b y z) (h' : LastA a' b' y z') (hm : ∀ u, a.mm b u ≤ a'.mm b' u) : z' ≤ z := by
  apply Classical.byContradiction
  intro hn
  have h1 := h.low
  have h2 := h'.high
  have := h.no z' (by omega) (by omega) h2
  have := h'.out (by omega)
  have := hm z'
  omega

/-- The loop of Pass: the least of what was tried, up to the time u. -/
structure Till (a : Arc) (b : Bool) (t u z : Int) : Prop where
  le : ∀ v, t ≤ v → v < u → v ≤ 1048576 → z ≤ v + a.mm b v
  at_ : ∃ v, t ≤ v ∧ v ≤ 1048576 ∧ z = v + a.mm b v
theorem Till.done {a : Arc} {b : Bool} {t u z : Int} (h : Till a b t u z) (ho : a.ok) (hu : z ≤ u ∨ 1048576 < u) : Arr a b t z :=
  ⟨fun v h1 h2 => by
    by_cases hv : v < u
    · exact h.le v h1 hv h2
    · have := (ho.mm b v).1
      omega, h.at_⟩
/-- A whole hour more. -/
theorem Till.hour {a : Arc} {b : Bool} {t u z : Int} (h : Till a b t u z) (hu : u % 60 = 0) (htu : t ≤ u) (hm : u ≤ 1048576) : Till a b t (u + 60) (min z (u + a.mm b u)) := by
  refine ⟨fun v h1 h2 h3 => ?_, ?_⟩
  · by_cases hv : v < u
    · have := h.le v h1 hv h3
      omega
    · have e : a.mm b v = a.mm b u := Arc.mm_same (by omega)
      omega
  · obtain ⟨v, v1, v2, v3⟩ := h.at_
    rcases Int.le_total z (u + a.mm b u) with hl | hl
    · exact ⟨v, v1, v2, by omega⟩
    · exact ⟨u, htu, hm, by omega⟩
theorem Till.first {a : Arc} {b : Bool} {t : Int} (ht : IsT t) : Till a b t (t - t % 60 + 60) (t + a.mm b t) := by
  refine ⟨fun v h1 h2 h3 => ?_, ⟨t, Int.le_refl _, ht.2, rfl⟩⟩
  have := ht.1
  have e : a.mm b v = a.mm b t := Arc.mm_same (by omega)
  omega
/-- One minute more. -/
theorem Till.minute {a : Arc} {b : Bool} {t u z : Int} (h : Till a b t u z) (htu : t ≤ u) (hm : u ≤ 1048576) : Till a b t (u + 1) (min z (u + a.mm b u)) := by
  refine ⟨fun v h1 h2 h3 => ?_, ?_⟩
  · by_cases hv : v < u
    · have := h.le v h1 hv h3
      omega
    · have e : v = u := by omega
      subst e
      omega
  · obtain ⟨v, v1, v2, v3⟩ := h.at_
    rcases Int.le_total z (u + a.mm b u) with hl | hl
    · exact ⟨v, v1, v2, by omega⟩
    · exact ⟨u, htu, hm, by omega⟩
theorem Till.one {a : Arc} {b : Bool} {t : Int} (ht : IsT t) : Till a b t (t + 1) (t + a.mm b t) := by
  refine ⟨fun v h1 h2 h3 => ?_, ⟨t, Int.le_refl _, ht.2, rfl⟩⟩
  have e : v = t := by omega
  subst e
  omega

/-- The loop of Last: from s on there is nothing. -/
def Over (a : Arc) (b : Bool) (y s : Int) : Prop := ∀ v, s ≤ v → 0 ≤ v → v ≤ 1048576 → y < v + a.mm b v
theorem Over.first {a : Arc} {b : Bool} {y : Int} (ho : a.ok) (s : Int) (hs : min y 1048576 < s) : Over a b y s := fun v h1 h2 h3 => by
  have := (ho.mm b v).1
  omega
theorem Over.hour {a : Arc} {b : Bool} {y s : Int} (h : Over a b y (s + 60)) (hs : s % 60 = 0) (hm : min (y - a.mm b s) (min (s + 59) 1048576) < s) : Over a b y s := fun v h1 h2 h3 => by
  by_cases hv : s + 60 ≤ v
  · exact h v hv h2 h3
  · have e : a.mm b v = a.mm b s := Arc.mm_same (by omega)
    omega
theorem Over.found {a : Arc} {b : Bool} {y s u : Int} (h : Over a b y (s + 60)) (hs : s % 60 = 0) (h0 : 0 ≤ s) (hu : u = min (y - a.mm b s) (min (s + 59) 1048576)) (hm : s ≤ u) : LastA a b y u := by
  refine ⟨by omega, by omega, fun _ => ?_, fun v h1 h2 h3 => ?_⟩
  · have e : a.mm b u = a.mm b s := Arc.mm_same (by omega)
    omega
  · by_cases hv : s + 60 ≤ v
    · exact h v hv h2 h3
    · have e : a.mm b v = a.mm b s := Arc.mm_same (by omega)
      omega
theorem Over.none {a : Arc} {b : Bool} {y s : Int} (h : Over a b y s) (hs : s ≤ 0) : LastA a b y (-1) :=
  ⟨Int.le_refl _, by omega, fun h => by omega, fun v _ h2 h3 => h v (by omega) h2 h3⟩
theorem Over.step {a : Arc} {b : Bool} {y s p : Int} (h : Over a b y (s + 1)) (h0 : IsT s) (hp : Arr a b s p) (hy : y < p) : Over a b y s := fun v h1 h2 h3 => by
  by_cases hv : s + 1 ≤ v
  · exact h v hv h2 h3
  · have e : v = s := by omega
    subst e
    have := hp.le_took h0
    omega
theorem Over.stop {a : Arc} {b : Bool} {y s p : Int} (h : Over a b y (s + 1)) (h0 : IsT s) (hp : Arr a b s p) (hy : p ≤ y) : LastA a b y s := by
  have h1 := h0.1
  have h2 := h0.2
  refine ⟨by omega, h2, fun _ => ?_, fun v k1 k2 k3 => h v (by omega) k2 k3⟩
  obtain ⟨u, u1, u2, u3⟩ := hp.at_
  have hus : u = s := by
    apply Classical.byContradiction
    intro hn
    have := h u (by omega) (by omega) u2
    omega
  subst hus
  omega

end Go.Proofs.Yteiojobgjdfdpaa
