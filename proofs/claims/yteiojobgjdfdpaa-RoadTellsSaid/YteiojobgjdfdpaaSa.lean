/- Plain: labels that are sound and tight; the arrivals by a way. -/
import Derived.Test.YteiojobgjdfdpaaRg
namespace Go.Proofs.Yteiojobgjdfdpaa

/-- The node from which the arc of a node's label comes; the first one stays. -/
def par (l : List Am) (src : Nat) (lab : List Lb) (v : Nat) : Nat := if v = src then src else (am l (lb lab v).2.toNat).a.f.toNat
def itr (f : Nat → Nat) : Nat → Nat → Nat
  | 0, v => v
  | k + 1, v => itr f k (f v)
theorem itr_succ (f : Nat → Nat) (k v : Nat) : itr f (k + 1) v = f (itr f k v) := by
  induction k generalizing v with
  | zero => rfl
  | succ k ih => exact ih (f v)
theorem itr_add (f : Nat → Nat) (j k v : Nat) : itr f (j + k) v = itr f k (itr f j v) := by
  induction j generalizing v with
  | zero => rw [Nat.zero_add]; rfl
  | succ j ih => rw [Nat.succ_add]; exact ih (f v)
theorem itr_fix {f : Nat → Nat} {v : Nat} (h : f v = v) (k : Nat) : itr f k v = v := by
  induction k with
  | zero => rfl
  | succ k ih => show itr f k (f v) = v; rw [h]; exact ih
theorem itr_mul {f : Nat → Nat} {v j : Nat} (h : itr f j v = v) (k : Nat) : itr f (k * j) v = v := by
  induction k with
  | zero => rw [Nat.zero_mul]; rfl
  | succ k ih => rw [Nat.succ_mul, itr_add, ih, h]
/-- One comes back to the first node. -/
def Back (f : Nat → Nat) (src v : Nat) : Prop := ∃ k, itr f k v = src
theorem Back.step {f : Nat → Nat} {src v : Nat} (hf : f src = src) : Back f src (f v) ↔ Back f src v := by
  constructor
  · rintro ⟨k, hk⟩; exact ⟨k + 1, hk⟩
  · rintro ⟨k, hk⟩
    refine ⟨k, ?_⟩
    have : itr f (k + 1) v = f (itr f k v) := itr_succ f k v
    rw [hk, hf] at this
    exact this
theorem Back.circle {f : Nat → Nat} {src v j : Nat} (hf : f src = src) (hj : 0 < j) (hc : itr f j v = v) (h : Back f src v) : v = src := by
  obtain ⟨k, hk⟩ := h
  have h1 := itr_mul hc k
  have h2 : k * j = k + (k * j - k) := by
    have : k * 1 ≤ k * j := Nat.mul_le_mul_left k hj
    omega
  rw [h2, itr_add, hk, itr_fix hf] at h1
  exact h1.symm

/-- The label of a node follows from the one of the node before it. -/
def FollP (l : List Am) (src : Nat) (t : Int) (b : Bool) (lab : List Lb) (v : Nat) : Prop :=
  (v = src ∧ lb lab v = (t, -1)) ∨ (v ≠ src ∧ (lb lab v).1 = -1 ∧ (lb lab v).2 = -1) ∨
  (v ≠ src ∧ (lb lab v).1 ≠ -1 ∧ IsT (lb lab v).1 ∧ ∃ i : Nat, i < l.length ∧ (lb lab v).2 = (i : Int) ∧ (am l i).a.t = (v : Int) ∧ (am l i).a.pass b (lb lab (am l i).a.f.toNat).1 = (lb lab v).1)
structure SoundP (l : List Am) (src : Nat) (t : Int) (b : Bool) (lab : List Lb) : Prop where
  fo : ∀ v, v < lab.length → FollP l src t b lab v
  ba : ∀ v, v < lab.length → (lb lab v).1 ≠ -1 → Back (par l src lab) src v
def TightP (l : List Am) (b : Bool) (lab : List Lb) : Prop :=
  ∀ i, i < l.length → IsT ((am l i).a.pass b (lb lab (am l i).a.f.toNat).1) → (lb lab (am l i).a.t.toNat).1 ≠ -1 ∧ (lb lab (am l i).a.t.toNat).1 ≤ (am l i).a.pass b (lb lab (am l i).a.f.toNat).1

section
variable {n : Nat} {l : List Am} {src : Nat} {t : Int} {b : Bool} {lab : List Lb}
theorem par_src : par l src lab src = src := if_pos rfl
theorem pass_neg {a : Arc} {x : Int} (hz : IsT (a.pass b x)) (ha : ∃ z, PassP a b x z) : IsT x ∧ a.ok := by
  obtain ⟨z, h⟩ := ha
  have h2 := h.spec
  rcases h2 with ⟨h3, h4, _⟩ | ⟨_, h4⟩
  · exact ⟨h4, h3⟩
  · rw [h4] at hz; exact absurd hz.1 (by decide)
theorem arr_ex2 (a : Arc) (b : Bool) {x : Int} (ht : IsT x) (ho : a.ok) : ∃ z, Arr a b x z := by
  have key : ∀ k : Nat, ∀ u z, Till a b x u z → x ≤ u → (1048577 - u).toNat ≤ k → ∃ z, Arr a b x z := by
    intro k
    induction k with
    | zero => intro u z h hu hk; exact ⟨z, h.done ho (.inr (by omega))⟩
    | succ k ih =>
      intro u z h hu hk
      by_cases hm : u ≤ 1048576
      · exact ih _ _ (h.minute hu hm) (by omega) (by omega)
      · exact ⟨z, h.done ho (.inr (by omega))⟩
  exact key _ _ _ (Till.one ht) (by omega) (Nat.le_refl _)
theorem passP_ex (a : Arc) (b : Bool) (x : Int) : ∃ z, PassP a b x z := by
  by_cases h : a.ok ∧ IsT x
  · obtain ⟨z, hz⟩ := arr_ex2 a b h.2 h.1
    exact ⟨z, .inl ⟨h.1, h.2, hz⟩⟩
  · exact ⟨-1, .inr ⟨h, rfl⟩⟩
theorem pass_spec (a : Arc) (b : Bool) (x : Int) : PassP a b x (a.pass b x) := by
  obtain ⟨z, h⟩ := passP_ex a b x
  exact h.spec
theorem pass_arr {a : Arc} {b : Bool} {x : Int} (ho : a.ok) (hx : IsT x) : Arr a b x (a.pass b x) := (pass_spec a b x).arr ho hx
theorem pass_time {a : Arc} {b : Bool} {x : Int} (h : IsT (a.pass b x)) : IsT x ∧ a.ok := pass_neg h (passP_ex a b x)
theorem pass_out1 {a : Arc} {b : Bool} {x : Int} (h : ¬ IsT x) : a.pass b x = -1 := by
  rcases pass_spec a b x with ⟨_, h2, _⟩ | ⟨_, h2⟩
  · exact absurd h2 h
  · exact h2
theorem netE_f (v : Nat) (x : Int) : (netE n l b).f v x = (am l v).a.pass b x := rfl

/-- What is sound is not too early. -/
theorem SoundP.ge (hR : RRight n l) (hs : src < n) (h : SoundP l src t b lab) (hl : lab.length = n) {e : List Lb} (hf : (netE n l b).Fin src t e) : ∀ v, v < n → (lb lab v).1 ≠ -1 → 0 ≤ (lb e v).1 ∧ (lb e v).1 ≤ (lb lab v).1 := by
  have key : ∀ k v, v < n → (lb lab v).1 ≠ -1 → itr (par l src lab) k v = src → 0 ≤ (lb e v).1 ∧ (lb e v).1 ≤ (lb lab v).1 := by
    intro k
    induction k with
    | zero =>
      intro v hv hr hk
      have hk : v = src := hk
      subst hk
      rcases h.fo v (by omega) with ⟨_, h2⟩ | ⟨h1, _⟩ | ⟨h1, _⟩
      · rw [hf.sr, h2]
        have hT : IsT t := by
          rcases hf.ty v hv with k | ⟨k, _⟩
          · rw [hf.sr] at k
            injection k with k1 _
            rw [h2] at hr; exact absurd k1 hr
          · rw [hf.sr] at k; exact k
        exact ⟨hT.1, Int.le_refl _⟩
      · exact absurd rfl h1
      · exact absurd rfl h1
    | succ k ih =>
      intro v hv hr hk
      by_cases he : v = src
      · subst he
        exact ih v hv hr (itr_fix par_src k)
      · rcases h.fo v (by omega) with ⟨h1, _⟩ | ⟨_, h1, _⟩ | ⟨_, _, hT, i, hi, hb, ht, hp⟩
        · exact absurd h1 he
        · exact absurd h1 hr
        · have hra := hR.2.2.2 i hi
          have hpu : par l src lab v = (am l i).a.f.toNat := by
            unfold par
            rw [if_neg he, hb, Int.toNat_natCast]
          obtain ⟨hTu, hok⟩ := pass_time (a := (am l i).a) (b := b) (x := (lb lab (am l i).a.f.toNat).1) (by rw [hp]; exact hT)
          have hu : (am l i).a.f.toNat < n := by
            have h1 := hra.2.1
            have h2 := hra.1.1
            omega
          have hk' : itr (par l src lab) k ((am l i).a.f.toNat) = src := by rw [← hpu]; exact hk
          obtain ⟨g1, g2⟩ := ih _ hu (by have := hTu.1; omega) hk'
          have hTe : IsT (lb e (am l i).a.f.toNat).1 := ⟨g1, by have := hTu.2; omega⟩
          have hm := (pass_arr (b := b) hok hTe).mono (pass_arr (b := b) hok hTu) g2
          have hz := (pass_arr (b := b) hok hTe).ge hok
          have hc := hf.cl i hi (by show 0 ≤ (lb e (am l i).a.f.toNat).1; exact g1) (by
            show IsT ((am l i).a.pass b (lb e (am l i).a.f.toNat).1)
            exact ⟨by omega, by have := hT.2; omega⟩)
          have ed : (netE n l b).d i = v := by show (am l i).a.t.toNat = v; omega
          rw [ed] at hc
          refine ⟨hc.1, ?_⟩
          have h3 : (lb e v).1 ≤ (am l i).a.pass b (lb e (am l i).a.f.toNat).1 := hc.2
          omega
  intro v hv hr
  obtain ⟨k, hk⟩ := h.ba v (by omega) hr
  exact key k v hv hr hk
/-- What is tight is not too late. -/
theorem TightP.le (hR : RRight n l) (hT : TightP l b lab) (hlab : lb lab src = (t, -1)) (hty : ∀ v, v < n → (lb lab v).1 ≠ -1 → IsT (lb lab v).1) {e : List Lb} (hf : (netE n l b).Fin src t e) : ∀ v, v < n → 0 ≤ (lb e v).1 → 0 ≤ (lb lab v).1 ∧ (lb lab v).1 ≤ (lb e v).1 := by
  intro v hv h0
  obtain ⟨k, _, hk⟩ := hf.ind (fun _ u => 0 ≤ (lb e u).1 → 0 ≤ (lb lab u).1 ∧ (lb lab u).1 ≤ (lb e u).1) (fun h => by rw [hf.sr] at h ⊢; rw [hlab]; exact ⟨h, Int.le_refl _⟩) (fun k v i hv hne h0 hi hd hs he hq _ => by
    have hra := hR.2.2.2 i hi
    obtain ⟨g1, g2⟩ := hq hs
    have hsn : (netE n l b).s i < n := (netE_ok hR).st i hi
    have e1 : (lb e v).1 = (am l i).a.pass b (lb e ((netE n l b).s i)).1 := by rw [he]; rfl
    have hTe : IsT (lb e v).1 := by
      rcases hf.ty v hv with k | ⟨k, _⟩
      · rw [k] at h0; exact absurd h0 (by decide)
      · exact k
    have hTs : IsT (lb e ((netE n l b).s i)).1 := by
      rcases hf.ty _ hsn with k | ⟨k, _⟩
      · rw [k] at hs; exact absurd hs (by decide)
      · exact k
    have hTl : IsT (lb lab ((netE n l b).s i)).1 := ⟨g1, by have := hTs.2; omega⟩
    have hm := (pass_arr (b := b) hra.1 hTl).mono (pass_arr (b := b) hra.1 hTs) g2
    have hz := (pass_arr (b := b) hra.1 hTl).ge hra.1
    have hc := hT i hi (by show IsT ((am l i).a.pass b (lb lab ((netE n l b).s i)).1); exact ⟨by omega, by have := hTe.2; omega⟩)
    have ed : (am l i).a.t.toNat = v := hd
    rw [ed] at hc
    have h3 : (lb lab v).1 ≤ (am l i).a.pass b (lb lab ((netE n l b).s i)).1 := hc.2
    exact ⟨(hty v hv hc.1).1, by omega⟩) v hv h0
  exact hk h0
theorem SoundP.ty (h : SoundP l src t b lab) (ht : IsT t) (hl : lab.length = n) : ∀ v, v < n → (lb lab v).1 ≠ -1 → IsT (lb lab v).1 := by
  intro v hv hr
  rcases h.fo v (by omega) with ⟨_, h2⟩ | ⟨_, h1, _⟩ | ⟨_, _, hT, _⟩
  · rw [h2]; exact ht
  · exact absurd h1 hr
  · exact hT
/-- Labels that are sound and tight have the times of the search. -/
theorem sound_same (hR : RRight n l) (hs : src < n) (ht : IsT t) (h : SoundP l src t b lab) (hT : TightP l b lab) (hl : lab.length = n) {e : List Lb} (hf : (netE n l b).Fin src t e) {v : Nat} (hv : v < n) : (lb lab v).1 = (lb e v).1 := by
  have hty := h.ty ht hl
  have hlab : lb lab src = (t, -1) := by
    rcases h.fo src (by omega) with ⟨_, h2⟩ | ⟨h1, _⟩ | ⟨h1, _⟩
    · exact h2
    · exact absurd rfl h1
    · exact absurd rfl h1
  by_cases hr : (lb lab v).1 = -1
  · rcases hf.ty v hv with k | ⟨k, _⟩
    · rw [hr, k]
    · have := hT.le hR hlab hty hf v hv k.1
      omega
  · have g := h.ge hR hs hl hf v hv hr
    have g2 := hT.le hR hlab hty hf v hv g.1
    omega
/-- The labels of the search are sound and tight. -/
theorem fin_sound (hR : RRight n l) {e : List Lb} (hf : (netE n l b).Fin src t e) : SoundP l src t b e ∧ TightP l b e := by
  have hlen : e.length = n := hf.len
  refine ⟨⟨fun v hv => ?_, fun v hv hr => ?_⟩, fun i hi hT => ?_⟩
  · by_cases he : v = src
    · exact .inl ⟨he, by rw [he]; exact hf.sr⟩
    · rcases hf.ty v (by show v < n; omega) with k | ⟨k, k2⟩
      · exact .inr (.inl ⟨he, by rw [k], by rw [k]⟩)
      · obtain ⟨i, i1, i2, i3, i4⟩ := k2 he
        have h1 : (am l i).a.t.toNat = v := i2
        have hra := hR.2.2.2 i i1
        have := hra.1.2.1
        exact .inr (.inr ⟨he, by have := k.1; omega, k, i, i1, by rw [i4], by omega, by rw [i4]; rfl⟩)
  · have hn0 : 0 ≤ (lb e v).1 := by
      rcases hf.ty v (by show v < n; omega) with k | ⟨k, _⟩
      · rw [k] at hr; exact absurd rfl hr
      · exact k.1
    obtain ⟨k, _, hk⟩ := hf.ind (fun _ u => Back (par l src e) src u) ⟨0, rfl⟩ (fun k v i hv hne h0 hi hd hs he hq => by
      have hpu : par l src e v = (netE n l b).s i := by
        unfold par
        rw [if_neg hne, he]
        rfl
      rw [← hpu] at hq
      exact (Back.step par_src).1 hq) v (by show v < n; omega) hn0
    exact hk
  · have hra := hR.2.2.2 i hi
    obtain ⟨hTu, hok⟩ := pass_time hT
    have hc := hf.cl i hi hTu.1 hT
    have h1 : 0 ≤ (lb e (am l i).a.t.toNat).1 := hc.1
    exact ⟨by omega, hc.2⟩
end

end Go.Proofs.Yteiojobgjdfdpaa
