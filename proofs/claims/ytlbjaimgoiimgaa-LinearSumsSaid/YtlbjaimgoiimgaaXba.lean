/- Plain: the rank, and the values. Plain: fewer equations than unknowns have a solution that is not 0. Plain: the rank by the kernel. Plain: systems of at most three unknowns with one digit: what their solutions and kernels are. Solve, Kernel and Rank at small systems; the law LinearOnly. -/
import Derived.Test.YtlbjaimgoiimgaaXaz
import Derived.Test.YtlbjaimgoiimgaaXay

namespace Go.Proofs.Ytlbjaimgoiimgaa

theorem runRank_le {m c p q : Nat} {X : List (List Rat)} (h : runRank m c p X = some q) : q ≤ p + m := by
  induction m generalizing c p X with
  | zero => simp [runRank] at h; omega
  | succ m ih =>
    rw [runRank] at h
    cases he : elimS X p c with
    | none => rw [he] at h; cases h
    | some pr =>
      obtain ⟨b, Y⟩ := pr
      rw [he] at h
      have := ih h
      cases b <;> simp at this <;> omega
/-- The rank is the number of unknowns exactly if no column is free. -/
theorem rank_free {m c n k q : Nat} {X Y : List (List Rat)} (hq : runRank m c c X = some q) (hf : runFree m c X = some (k, Y)) (hcm : c + m = n) : q = n ↔ k = n := by
  induction m generalizing c X with
  | zero =>
    simp [runRank] at hq
    simp [runFree] at hf
    omega
  | succ m ih =>
    rw [runRank] at hq
    rw [runFree] at hf
    cases he : elimS X c c with
    | none => rw [he] at hf; cases hf
    | some pr =>
      obtain ⟨b, Z⟩ := pr
      rw [he] at hf hq
      cases b with
      | true => exact ih hq hf (by omega)
      | false =>
        simp at hf
        have := runRank_le hq
        simp at this
        omega
theorem SameA.first {n c r m : Nat} {X X' : List (List Rat)} (h : SameA n X X') (hc : c < n) (hrm : r + m ≤ X.length) : firstNZ X c r m = firstNZ X' c r m := by
  induction m generalizing r with
  | zero => rfl
  | succ m ih =>
    rw [firstNZ, firstNZ, h.2 r (by omega) c hc, ih (by omega)]
/-- A step does not depend on the values. -/
theorem SameA.step {n r c : Nat} {X X' Y Y' : List (List Rat)} {b b' : Bool} (hs : SameA n X X') (hl : LenA n X) (hl' : LenA n X') (hr : r < X.length) (hc : c < n) (h : elimS X r c = some (b, Y)) (h' : elimS X' r c = some (b', Y')) : b = b' ∧ SameA n Y Y' := by
  have hfs := hs.first (r := r) (m := X.length - r) hc (by omega)
  rcases elimS_parts h with ⟨rfl, rfl, f1⟩ | ⟨rfl, q, p, f1, d1, m1⟩
  · rcases elimS_parts h' with ⟨rfl, rfl, _⟩ | ⟨rfl, q', p', f2, _⟩
    · exact ⟨rfl, hs⟩
    · rw [hfs, hs.1, f2] at f1
      cases f1
  · rcases elimS_parts h' with ⟨rfl, rfl, f2⟩ | ⟨rfl, q', p', f2, d2, m2⟩
    · rw [hfs, hs.1, f2] at f1
      cases f1
    · rw [hfs, hs.1, f2] at f1
      injection f1 with f1
      subst f1
      obtain ⟨hq1, hq2, hq3⟩ := firstNZ_lt f2
      have hqX : q' < X.length := by rw [hs.1]; omega
      have hrX' : r < X'.length := by rw [← hs.1]; exact hr
      have hqX' : q' < X'.length := by rw [← hs.1]; exact hqX
      have hsw : ∀ k, k < X.length → ∀ j, j < n → ((swapR [] X r q').getD k []).getD j 0 = ((swapR [] X' r q').getD k []).getD j 0 := fun k hk j hj => by
        rw [swapR_getD _ _ hr hqX, swapR_getD _ _ hrX' hqX']
        exact hs.2 _ (place_lt hr hqX hk) j hj
      have hsl : ∀ k, k < X.length → ((swapR [] X r q').getD k []).length = n + 1 := fun k hk => by rw [swapR_getD _ _ hr hqX]; exact hl _ (place_lt hr hqX hk)
      have hsl' : ∀ k, k < X.length → ((swapR [] X' r q').getD k []).length = n + 1 := fun k hk => by rw [swapR_getD _ _ hrX' hqX']; exact hl' _ (place_lt hrX' hqX' (by rw [← hs.1]; exact hk))
      have hp : ∀ j, j < n → p.getD j 0 = p'.getD j 0 := fun j hj => by
        rw [divL_get d1 (by rw [hsl r hr]; omega), divL_get d2 (by rw [hsl' r hr]; omega), hsw r hr j hj, hsw r hr c hc]
      have g1 : ∀ k, k < X.length → redG p r c k (((swapR [] X r q').set r p).getD k []) = some (Y.getD k []) := fun k hk => by
        have := mapR_get m1 k (by rw [List.length_set, swapR_length]; exact hk)
        rwa [Nat.zero_add] at this
      have g2 : ∀ k, k < X.length → redG p' r c k (((swapR [] X' r q').set r p').getD k []) = some (Y'.getD k []) := fun k hk => by
        have := mapR_get m2 k (by rw [List.length_set, swapR_length, ← hs.1]; exact hk)
        rwa [Nat.zero_add] at this
      have l1 := mapR_length m1
      have l2 := mapR_length m2
      rw [List.length_set, swapR_length] at l1 l2
      refine ⟨rfl, by rw [l1, l2, hs.1], fun k hk j hj => ?_⟩
      rw [l1] at hk
      have e1 := g1 k hk
      have e2 := g2 k hk
      by_cases hkr : r = k
      · subst hkr
        rw [getD_set_self (by rw [swapR_length]; exact hr)] at e1
        rw [getD_set_self (by rw [swapR_length]; exact hrX')] at e2
        unfold redG at e1 e2
        rw [if_pos (.inl rfl)] at e1 e2
        injection e1 with e1
        injection e2 with e2
        rw [← e1, ← e2]
        exact hp j hj
      · rw [getD_set_ne hkr] at e1 e2
        unfold redG at e1 e2
        rw [← hsw k hk c hc] at e2
        by_cases hz : k = r ∨ ((swapR [] X r q').getD k []).getD c 0 = 0
        · rw [if_pos hz] at e1 e2
          injection e1 with e1
          injection e2 with e2
          rw [← e1, ← e2]
          exact hsw k hk j hj
        · rw [if_neg hz] at e1 e2
          rw [subL_get e1 (by rw [hsl k hk]; omega), subL_get e2 (by rw [hsl' k hk]; omega), hsw k hk j hj, hp j hj]
/-- The rank does not depend on the values. -/
theorem SameA.rank {m c p n q q' : Nat} {X X' : List (List Rat)} (hs : SameA n X X') (hl : LenA n X) (hl' : LenA n X') (hX : X.length = n) (hp : p ≤ c) (hcm : c + m = n) (h : runRank m c p X = some q) (h' : runRank m c p X' = some q') : q = q' := by
  induction m generalizing c p X X' with
  | zero => simp [runRank] at h h'; omega
  | succ m ih =>
    rw [runRank] at h h'
    cases he : elimS X p c with
    | none => rw [he] at h; cases h
    | some pr =>
      obtain ⟨b, Y⟩ := pr
      cases he' : elimS X' p c with
      | none => rw [he'] at h'; cases h'
      | some pr' =>
        obtain ⟨b', Y'⟩ := pr'
        rw [he] at h
        rw [he'] at h'
        obtain ⟨rfl, hs2⟩ := hs.step hl hl' (by omega) (by omega) he he'
        have x1 := elimS_len he hl (by omega)
        have x2 := elimS_len he' hl' (by rw [← hs.1]; omega)
        exact ih hs2 x1.2 x2.2 (by rw [x1.1]; exact hX) (by cases b <;> simp <;> omega) (by omega) h h'

end Go.Proofs.Ytlbjaimgoiimgaa

namespace Go.Proofs.Ytlbjaimgoiimgaa

def sumN (f : Nat → Rat) : Nat → Rat
  | 0 => 0
  | k + 1 => sumN f k + f k
theorem sumN_congr {f g : Nat → Rat} {n : Nat} (h : ∀ k, k < n → f k = g k) : sumN f n = sumN g n := by
  induction n with
  | zero => rfl
  | succ n ih => rw [sumN, sumN, ih (fun k hk => h k (by omega)), h n (by omega)]
theorem sumN_lin {f g : Nat → Rat} {c : Rat} {n : Nat} : sumN (fun k => f k - c * g k) n = sumN f n - c * sumN g n := by
  induction n with
  | zero => simp only [sumN]; grind
  | succ n ih => rw [sumN, sumN, sumN, ih]; grind
theorem sumN_zero {f : Nat → Rat} {n : Nat} (h : ∀ k, k < n → f k = 0) : sumN f n = 0 := by
  induction n with
  | zero => rfl
  | succ n ih => rw [sumN, ih (fun k hk => h k (by omega)), h n (by omega)]; grind
/-- The places but p. -/
def skip (p j : Nat) : Nat := if j < p then j else j + 1
theorem sumN_skip {f : Nat → Rat} {p n : Nat} (hp : p < n + 1) : sumN f (n + 1) = sumN (fun j => f (skip p j)) n + f p := by
  induction n with
  | zero =>
    have : p = 0 := by omega
    subst this
    rfl
  | succ n ih =>
    by_cases hpn : p = n + 1
    · subst hpn
      rw [sumN]
      congr 1
      exact sumN_congr (fun k hk => by unfold skip; rw [if_pos hk])
    · rw [sumN, ih (by omega), sumN]
      have : skip p n = n + 1 := by unfold skip; rw [if_neg (by omega)]
      rw [this]
      grind
/-- Fewer equations than unknowns. -/
theorem wide (b : Nat) : ∀ (a : Nat) (M : Nat → Nat → Rat), b < a → ∃ x : Nat → Rat, (∃ j, j < a ∧ x j ≠ 0) ∧ ∀ i, i < b → sumN (fun j => M i j * x j) a = 0 := by
  induction b with
  | zero => exact fun a M h => ⟨fun _ => 1, ⟨0, h, by decide⟩, fun i hi => by omega⟩
  | succ b ih =>
    intro a M hab
    by_cases hz : ∀ j, j < a → M b j = 0
    · obtain ⟨x, hx, he⟩ := ih a M (by omega)
      refine ⟨x, hx, fun i hi => ?_⟩
      by_cases hib : i < b
      · exact he i hib
      · have : i = b := by omega
        subst this
        exact sumN_zero (fun k hk => by rw [hz k hk]; grind)
    · have hex : ∃ p, p < a ∧ M b p ≠ 0 := Classical.byContradiction fun h => hz fun j hj => Classical.byContradiction fun h2 => h ⟨j, hj, h2⟩
      obtain ⟨p, hpa, hp⟩ := hex
      obtain ⟨n, rfl⟩ : ∃ n, a = n + 1 := ⟨a - 1, by omega⟩
      obtain ⟨y, ⟨j, hj, hy⟩, he⟩ := ih n (fun i j => M i (skip p j) - M i p / M b p * M b (skip p j)) (by omega)
      obtain ⟨s, hs⟩ : ∃ s, sumN (fun j => M b (skip p j) * y j) n = s := ⟨_, rfl⟩
      obtain ⟨x, hx⟩ : ∃ x : Nat → Rat, x = fun k => if k = p then -s / M b p else y (if k < p then k else k - 1) := ⟨_, rfl⟩
      have hxs : ∀ j, x (skip p j) = y j := fun j => by
        rw [hx]
        unfold skip
        by_cases hjp : j < p
        · simp only [if_pos hjp]
          rw [if_neg (by omega)]
        · simp only [if_neg hjp]
          rw [if_neg (by omega), if_neg (by omega), Nat.add_sub_cancel]
      have hxp : x p = -s / M b p := by rw [hx]; simp
      have hrow : ∀ i, sumN (fun j => M i j * x j) (n + 1) = sumN (fun j => M i (skip p j) * y j) n + M i p * x p := fun i => by
        rw [sumN_skip hpa]
        congr 1
        exact sumN_congr (fun k _ => by rw [hxs])
      refine ⟨x, ⟨skip p j, by unfold skip; split <;> omega, by rw [hxs]; exact hy⟩, fun i hi => ?_⟩
      rw [hrow, hxp]
      by_cases hib : i < b
      · have h1 := he i hib
        have h2 : sumN (fun j => (M i (skip p j) - M i p / M b p * M b (skip p j)) * y j) n = sumN (fun j => M i (skip p j) * y j) n - M i p / M b p * s := by
          rw [← hs, ← sumN_lin]
          exact sumN_congr (fun k _ => by grind)
        rw [h2] at h1
        grind
      · have : i = b := by omega
        subst this
        rw [hs]
        grind

end Go.Proofs.Ytlbjaimgoiimgaa

namespace Go.Proofs.Ytlbjaimgoiimgaa

theorem dotN_sumN {a : List Rat} {x : Nat → Rat} {n : Nat} : dotN a x n = sumN (fun j => a.getD j 0 * x j) n := by
  induction n with
  | zero => rfl
  | succ n ih => rw [dotN, sumN, ih]
/-- What the elimination has: the columns of the pivots, and the free ones. -/
structure Ech (Y : List (List Rat)) (c : Nat) (pv fr : List Nat) : Prop where
  all : ∀ j, j < c → j ∈ pv ∨ j ∈ fr
  num : pv.length + fr.length = c
  lt : ∀ k, k < pv.length → pv.getD k 0 < c
  one : ∀ k, k < pv.length → ∀ i, i < Y.length → (Y.getD i []).getD (pv.getD k 0) 0 = if i = k then 1 else 0
  low : ∀ i, pv.length ≤ i → i < Y.length → ∀ j, j < c → (Y.getD i []).getD j 0 = 0
theorem getD_app {l : List Nat} {a k : Nat} : (l ++ [a]).getD k 0 = if k < l.length then l.getD k 0 else if k = l.length then a else 0 := by
  by_cases h1 : k < l.length
  · rw [if_pos h1, List.getD_eq_getElem?_getD, List.getElem?_append_left h1, ← List.getD_eq_getElem?_getD]
  · rw [if_neg h1]
    by_cases h2 : k = l.length
    · subst h2
      rw [if_pos rfl, List.getD_eq_getElem?_getD, List.getElem?_append_right (Nat.le_refl _), Nat.sub_self]; rfl
    · rw [if_neg h2, List.getD_eq_getElem?_getD, List.getElem?_eq_none (by simp; omega)]; rfl
theorem Ech.step {X Y : List (List Rat)} {c n : Nat} {pv fr : List Nat} {b : Bool} (hE : Ech X c pv fr) (hl : LenA n X) (hr : pv.length < X.length) (hc : c < n) (h : elimS X pv.length c = some (b, Y)) : ∃ pv' fr', Ech Y (c + 1) pv' fr' ∧ pv'.length = if b then pv.length + 1 else pv.length := by
  rcases elimS_parts h with ⟨rfl, rfl, hf⟩ | ⟨rfl, q, p, hf, hd, hm⟩
  · have hz := firstNZ_zero hf
    refine ⟨pv, fr ++ [c], ⟨fun j hj => ?_, by rw [List.length_append, ← Nat.add_assoc, hE.num]; rfl, fun k hk => Nat.lt_succ_of_lt (hE.lt k hk), hE.one, fun i h1 h2 j hj => ?_⟩, rfl⟩
    · by_cases hjc : j < c
      · rcases hE.all j hjc with h | h
        · exact .inl h
        · exact .inr (List.mem_append_left _ h)
      · have : j = c := by omega
        subst this
        exact .inr (by simp)
    · by_cases hjc : j < c
      · exact hE.low i h1 h2 j hjc
      · have : j = c := by omega
        subst this
        have := hz (i - pv.length) (by omega)
        rwa [show pv.length + (i - pv.length) = i by omega] at this
  · obtain ⟨hq1, hq2, hq3⟩ := firstNZ_lt hf
    obtain ⟨r, hre⟩ : ∃ r, pv.length = r := ⟨_, rfl⟩
    rw [hre] at hf hd hm hq1 hq2 hr
    have hqX : q < X.length := by omega
    have hsl : ∀ k, k < X.length → ((swapR [] X r q).getD k []).length = n + 1 := fun k hk => by rw [swapR_getD _ _ hr hqX]; exact hl _ (place_lt hr hqX hk)
    have hYl := mapR_length hm
    rw [List.length_set, swapR_length] at hYl
    have hpr : place r q r = q := by
      unfold place
      split
      · assumption
      · rw [if_pos rfl]
    have hrow : (swapR [] X r q).getD r [] = X.getD q [] := by rw [swapR_getD _ _ hr hqX, hpr]
    rw [hrow] at hd
    have hg : ∀ k, k < X.length → redG p r c k (((swapR [] X r q).set r p).getD k []) = some (Y.getD k []) := fun k hk => by
      have := mapR_get hm k (by rw [List.length_set, swapR_length]; exact hk)
      rwa [Nat.zero_add] at this
    have hpj : ∀ j, j < c → p.getD j 0 = 0 := fun j hj => by
      rw [divL_get hd (by rw [hl q hqX]; omega), hE.low q (by omega) hqX j hj]
      grind
    have hpc : p.getD c 0 = 1 := by
      rw [divL_get hd (by rw [hl q hqX]; omega)]
      grind
    have hYr : Y.getD r [] = p := by
      have := hg r hr
      rw [getD_set_self (by rw [swapR_length]; exact hr)] at this
      unfold redG at this
      rw [if_pos (.inl rfl)] at this
      injection this with this
      exact this.symm
    -- columns before c stay, but for the exchange
    have hold : ∀ i, i < X.length → i ≠ r → ∀ j, j < c → (Y.getD i []).getD j 0 = (X.getD (place r q i) []).getD j 0 := fun i hi hir j hj => by
      have h1 := hg i hi
      rw [getD_set_ne (Ne.symm hir)] at h1
      rw [← swapR_getD _ _ hr hqX]
      unfold redG at h1
      split at h1
      · injection h1 with h1
        rw [h1]
      · rw [subL_get h1 (by rw [hsl i hi]; omega), hpj j hj]
        grind
    have hcol : ∀ i, i < X.length → i ≠ r → (Y.getD i []).getD c 0 = 0 := fun i hi hir => by
      have h1 := hg i hi
      rw [getD_set_ne (Ne.symm hir)] at h1
      unfold redG at h1
      split at h1
      · rename_i hz
        injection h1 with h1
        rw [← h1]
        rcases hz with hz | hz
        · exact absurd hz hir
        · exact hz
      · rw [subL_get h1 (by rw [hsl i hi]; omega), hpc]
        grind
    refine ⟨pv ++ [c], fr, ⟨fun j hj => ?_, by have := hE.num; simp; omega, fun k hk => ?_, fun k hk i hi => ?_, fun i h1 h2 j hj => ?_⟩, by simp⟩
    · by_cases hjc : j < c
      · rcases hE.all j hjc with h | h
        · exact .inl (List.mem_append_left _ h)
        · exact .inr h
      · have : j = c := by omega
        subst this
        exact .inl (by simp)
    · rw [getD_app]
      split
      · have := hE.lt k (by assumption); omega
      · split <;> omega
    · rw [hYl] at hi
      rw [List.length_append] at hk
      rw [getD_app]
      by_cases hkp : k < pv.length
      · rw [if_pos hkp]
        have hlt := hE.lt k hkp
        by_cases hir : i = r
        · subst hir
          rw [hYr, hpj _ hlt, if_neg (by omega)]
        · rw [hold i hi hir _ hlt, hE.one k hkp _ (place_lt hr hqX hi)]
          unfold place
          by_cases hiq : i = q
          · rw [if_pos hiq, if_neg (by omega), if_neg (by omega)]
          · rw [if_neg hiq, if_neg hir]
      · have : k = pv.length := by simp at hk; omega
        rw [if_neg hkp, if_pos this]
        by_cases hir : i = r
        · subst hir
          rw [hYr, hpc, if_pos (by omega)]
        · rw [hcol i hi hir, if_neg (by omega)]
    · rw [hYl] at h2
      rw [List.length_append] at h1
      simp at h1
      by_cases hjc : j < c
      · rw [hold i h2 (by omega) j hjc]
        exact hE.low _ (by unfold place; split <;> (try split) <;> omega) (place_lt hr hqX h2) j hjc
      · have : j = c := by omega
        subst this
        exact hcol i h2 (by omega)
/-- The whole elimination: the same kernel, in this form, with as many pivots as the rank says. -/
theorem runRank_ech {m c n q : Nat} {X : List (List Rat)} {pv fr : List Nat} (h : runRank m c pv.length X = some q) (hE : Ech X c pv fr) (hl : LenA n X) (hX : X.length = n) (hcm : c + m = n) :
    ∃ Y pv' fr', Ech Y n pv' fr' ∧ pv'.length = q ∧ Y.length = n ∧ ∀ t x, SolA t n x X ↔ SolA t n x Y := by
  induction m generalizing c X pv fr with
  | zero =>
    simp [runRank] at h
    have : c = n := by omega
    subst this
    exact ⟨X, pv, fr, hE, h, hX, fun _ _ => Iff.rfl⟩
  | succ m ih =>
    rw [runRank] at h
    have hnum := hE.num
    cases he : elimS X pv.length c with
    | none => rw [he] at h; cases h
    | some pr =>
      obtain ⟨b, Z⟩ := pr
      rw [he] at h
      obtain ⟨pv', fr', hE', hlen⟩ := hE.step hl (by omega) (by omega) he
      have hz := elimS_len he hl (by omega)
      simp only at h
      rw [← hlen] at h
      obtain ⟨Y, pv2, fr2, e1, e2, e3, e4⟩ := ih h hE' hz.2 (by rw [hz.1]; exact hX) (by omega)
      exact ⟨Y, pv2, fr2, e1, e2, e3, fun t x => (elimS_sol he hl (by omega)).trans (e4 t x)⟩
/-- A system that has all solutions of another homogeneous one has no greater rank. -/
theorem rank_mono {n q q' : Nat} {X X' : List (List Rat)} (h : runRank n 0 0 X = some q) (h' : runRank n 0 0 X' = some q') (hl : LenA n X) (hX : X.length = n) (hl' : LenA n X') (hX' : X'.length = n) (hs : ∀ x, SolA 0 n x X → SolA 0 n x X') : q' ≤ q := by
  have e0 : ∀ Z : List (List Rat), Ech Z 0 [] [] := fun Z => ⟨fun j hj => (by omega), rfl, fun k hk => (by cases hk), fun k hk => (by cases hk), fun i _ _ j hj => by omega⟩
  obtain ⟨Y, pv, fr, e1, e2, e3, e4⟩ := runRank_ech (pv := []) h (e0 X) hl hX (by omega)
  obtain ⟨Y', pv', fr', f1, f2, f3, f4⟩ := runRank_ech (pv := []) h' (e0 X') hl' hX' (by omega)
  refine Classical.byContradiction fun hlt => ?_
  have hnum := f1.num
  obtain ⟨x, ⟨j, hj, hxj⟩, hx⟩ := wide (q + fr'.length) n (fun i j => if i < q then (Y.getD i []).getD j 0 else if j = fr'.getD (i - q) 0 then 1 else 0) (by omega)
  have hsY : SolA 0 n x Y := fun i hi => by
    unfold SolL
    rw [dotN_sumN]
    by_cases hiq : i < q
    · have := hx i (by omega)
      simp only [hiq, if_true] at this
      rw [this]; grind
    · rw [sumN_zero (fun k hk => by rw [e1.low i (by omega) hi k hk]; grind)]
      grind
  have hsY' := (f4 0 x).1 (hs x ((e4 0 x).2 hsY))
  have hfree : ∀ i, i < fr'.length → fr'.getD i 0 < n → x (fr'.getD i 0) = 0 := fun i hi hin => by
    have := hx (q + i) (by omega)
    have hnq : ¬ q + i < q := by omega
    simp only [hnq, if_false, Nat.add_sub_cancel_left] at this
    obtain ⟨w, hw⟩ : ∃ w, fr'.getD i 0 = w := ⟨_, rfl⟩
    rw [hw] at this hin ⊢
    have hone : ∀ n, w < n → sumN (fun j => (if j = w then (1 : Rat) else 0) * x j) n = x w := fun n => by
      induction n with
      | zero => intro h; omega
      | succ n ih =>
        intro h
        rw [sumN]
        by_cases hwn : w < n
        · rw [ih hwn, if_neg (by omega)]; grind
        · have : n = w := by omega
          subst this
          rw [if_pos rfl, sumN_zero (fun k hk => by rw [if_neg (by omega)]; grind)]
          grind
    rwa [hone n hin] at this
  have hmem : ∀ l : List Nat, ∀ w, w ∈ l → ∃ i, i < l.length ∧ l.getD i 0 = w := fun l w hw => by
    obtain ⟨i, hi, e⟩ := List.getElem_of_mem hw
    exact ⟨i, hi, by rw [List.getD_eq_getElem?_getD, List.getElem?_eq_getElem hi]; exact e⟩
  rcases f1.all j hj with hp | hp
  · obtain ⟨k, hk, hkj⟩ := hmem _ _ hp
    have hkn : k < Y'.length := by rw [f3]; have := f1.num; omega
    have hrow := hsY' k hkn
    unfold SolL at hrow
    rw [dotN_sumN] at hrow
    have hone : ∀ m, m ≤ n → sumN (fun j => (Y'.getD k []).getD j 0 * x j) m = if j < m then x j else 0 := fun m => by
      induction m with
      | zero => intro _; rw [if_neg (by omega)]; rfl
      | succ m ih =>
        intro hm
        rw [sumN, ih (by omega)]
        by_cases hmj : m = j
        · subst hmj
          have := f1.one k hk k hkn
          rw [hkj, if_pos rfl] at this
          rw [this, if_neg (by omega), if_pos (by omega)]
          grind
        · have hz : (Y'.getD k []).getD m 0 * x m = 0 := by
            rcases f1.all m (by omega) with hp2 | hp2
            · obtain ⟨k2, hk2, hkm⟩ := hmem _ _ hp2
              have := f1.one k2 hk2 k hkn
              rw [hkm] at this
              rw [this]
              by_cases hkk : k = k2
              · subst hkk; omega
              · rw [if_neg hkk]; grind
            · obtain ⟨i2, hi2, him⟩ := hmem _ _ hp2
              have := hfree i2 hi2 (by omega)
              rw [him] at this
              rw [this]; grind
          rw [hz]
          by_cases hjm : j < m
          · rw [if_pos hjm, if_pos (by omega)]; grind
          · rw [if_neg hjm, if_neg (by omega)]; grind
    rw [hone n (Nat.le_refl n), if_pos hj] at hrow
    exact hxj (by rw [hrow]; grind)
  · obtain ⟨i, hi, hij⟩ := hmem _ _ hp
    have := hfree i hi (by omega)
    rw [hij] at this
    exact hxj this

/-- With one more equation: the rank is greater by one at most. -/
theorem rank_mono1 {n q q' : Nat} {X X' : List (List Rat)} {z : List Rat} (h : runRank n 0 0 X = some q) (h' : runRank n 0 0 X' = some q') (hl : LenA n X) (hX : X.length = n) (hl' : LenA n X') (hX' : X'.length = n) (hs : ∀ x, SolA 0 n x X → dotN z x n = 0 → SolA 0 n x X') : q' ≤ q + 1 := by
  have e0 : ∀ Z : List (List Rat), Ech Z 0 [] [] := fun Z => ⟨fun j hj => (by omega), rfl, fun k hk => (by cases hk), fun k hk => (by cases hk), fun i _ _ j hj => by omega⟩
  obtain ⟨Y, pv, fr, e1, e2, e3, e4⟩ := runRank_ech (pv := []) h (e0 X) hl hX (by omega)
  obtain ⟨Y', pv', fr', f1, f2, f3, f4⟩ := runRank_ech (pv := []) h' (e0 X') hl' hX' (by omega)
  refine Classical.byContradiction fun hlt => ?_
  have hnum := f1.num
  obtain ⟨x, ⟨j, hj, hxj⟩, hx⟩ := wide (q + 1 + fr'.length) n (fun i j => if i < q then (Y.getD i []).getD j 0 else if i = q then z.getD j 0 else if j = fr'.getD (i - (q + 1)) 0 then 1 else 0) (by omega)
  have hsY : SolA 0 n x Y := fun i hi => by
    unfold SolL
    rw [dotN_sumN]
    by_cases hiq : i < q
    · have := hx i (by omega)
      simp only [hiq, if_true] at this
      rw [this]; grind
    · rw [sumN_zero (fun k hk => by rw [e1.low i (by omega) hi k hk]; grind)]
      grind
  have hsz : dotN z x n = 0 := by
    have := hx q (by omega)
    simp only [Nat.lt_irrefl, if_false, if_true] at this
    rw [dotN_sumN]
    exact this
  have hsY' := (f4 0 x).1 (hs x ((e4 0 x).2 hsY) hsz)
  have hfree : ∀ i, i < fr'.length → fr'.getD i 0 < n → x (fr'.getD i 0) = 0 := fun i hi hin => by
    have := hx (q + 1 + i) (by omega)
    have hnq : ¬ q + 1 + i < q := by omega
    have hnq2 : ¬ q + 1 + i = q := by omega
    simp only [hnq, hnq2, if_false, Nat.add_sub_cancel_left] at this
    obtain ⟨w, hw⟩ : ∃ w, fr'.getD i 0 = w := ⟨_, rfl⟩
    rw [hw] at this hin ⊢
    have hone : ∀ n, w < n → sumN (fun j => (if j = w then (1 : Rat) else 0) * x j) n = x w := fun n => by
      induction n with
      | zero => intro h; omega
      | succ n ih =>
        intro h
        rw [sumN]
        by_cases hwn : w < n
        · rw [ih hwn, if_neg (by omega)]; grind
        · have : n = w := by omega
          subst this
          rw [if_pos rfl, sumN_zero (fun k hk => by rw [if_neg (by omega)]; grind)]
          grind
    rwa [hone n hin] at this
  have hmem : ∀ l : List Nat, ∀ w, w ∈ l → ∃ i, i < l.length ∧ l.getD i 0 = w := fun l w hw => by
    obtain ⟨i, hi, e⟩ := List.getElem_of_mem hw
    exact ⟨i, hi, by rw [List.getD_eq_getElem?_getD, List.getElem?_eq_getElem hi]; exact e⟩
  rcases f1.all j hj with hp | hp
  · obtain ⟨k, hk, hkj⟩ := hmem _ _ hp
    have hkn : k < Y'.length := by rw [f3]; have := f1.num; omega
    have hrow := hsY' k hkn
    unfold SolL at hrow
    rw [dotN_sumN] at hrow
    have hone : ∀ m, m ≤ n → sumN (fun j => (Y'.getD k []).getD j 0 * x j) m = if j < m then x j else 0 := fun m => by
      induction m with
      | zero => intro _; rw [if_neg (by omega)]; rfl
      | succ m ih =>
        intro hm
        rw [sumN, ih (by omega)]
        by_cases hmj : m = j
        · subst hmj
          have := f1.one k hk k hkn
          rw [hkj, if_pos rfl] at this
          rw [this, if_neg (by omega), if_pos (by omega)]
          grind
        · have hz : (Y'.getD k []).getD m 0 * x m = 0 := by
            rcases f1.all m (by omega) with hp2 | hp2
            · obtain ⟨k2, hk2, hkm⟩ := hmem _ _ hp2
              have := f1.one k2 hk2 k hkn
              rw [hkm] at this
              rw [this]
              by_cases hkk : k = k2
              · subst hkk; omega
              · rw [if_neg hkk]; grind
            · obtain ⟨i2, hi2, him⟩ := hmem _ _ hp2
              have := hfree i2 hi2 (by omega)
              rw [him] at this
              rw [this]; grind
          rw [hz]
          by_cases hjm : j < m
          · rw [if_pos hjm, if_pos (by omega)]; grind
          · rw [if_neg hjm, if_neg (by omega)]; grind
    rw [hone n (Nat.le_refl n), if_pos hj] at hrow
    exact hxj (by rw [hrow]; grind)
  · obtain ⟨i, hi, hij⟩ := hmem _ _ hp
    have := hfree i hi (by omega)
    rw [hij] at this
    exact hxj this

/-- With a kernel the rank is less than the number of unknowns. -/
theorem rank_less {n q k : Nat} {X Y : List (List Rat)} {x : Nat → Rat} {j : Nat} (h : runRank n 0 0 X = some q) (hf : runFree n 0 X = some (k, Y)) (hl : LenA n X) (hX : X.length = n) (hs : SolA 0 n x X) (hj : j < n) (hx : x j ≠ 0) : q < n := by
  have h1 := runRank_le h
  refine Classical.byContradiction fun hlt => ?_
  have hk := (rank_free (n := n) h hf (by omega)).1 (by omega)
  subst hk
  have := (runFree_one hf hl hX 0 x).1 hs j hj
  exact hx (by rw [this]; grind)
/-- A system whose row a is 0, or another one of its rows, has a kernel. -/
theorem lack_ker {n a : Nat} {X : List (List Rat)} (hX : X.length = n) (ha : a < n) (h : (∀ j, j < n → (X.getD a []).getD j 0 = 0) ∨ ∃ b, b < n ∧ b ≠ a ∧ ∀ j, j < n → (X.getD a []).getD j 0 = (X.getD b []).getD j 0) : ∃ x : Nat → Rat, (∃ j, j < n ∧ x j ≠ 0) ∧ SolA 0 n x X := by
  obtain ⟨x, hx, he⟩ := wide (n - 1) n (fun i j => (X.getD (skip a i) []).getD j 0) (by omega)
  have hoth : ∀ i, i < n → i ≠ a → dotN (X.getD i []) x n = 0 := fun i hi hia => by
    rw [dotN_sumN]
    by_cases hlt : i < a
    · have := he i (by omega)
      unfold skip at this
      simp only [hlt, if_true] at this
      exact this
    · have := he (i - 1) (by omega)
      unfold skip at this
      have hn1 : ¬ i - 1 < a := by omega
      simp only [hn1, if_false, show i - 1 + 1 = i by omega] at this
      exact this
  refine ⟨x, hx, fun i hi => ?_⟩
  unfold SolL
  have e0 : dotN (X.getD i []) x n = 0 := by
    by_cases hia : i = a
    · subst hia
      rcases h with h | ⟨b, hb, hba, h⟩
      · rw [dotN_sumN]
        exact sumN_zero (fun k hk => by rw [h k hk]; grind)
      · rw [dotN_ext h]
        exact hoth b hb hba
    · exact hoth i (by omega) hia
  rw [e0]
  grind

end Go.Proofs.Ytlbjaimgoiimgaa

namespace Go.Proofs.Ytlbjaimgoiimgaa
open Go.RowKit

theorem fd_bits {d : Fd} (h : d.R) (hf : FewD 1 d) : Bt d.q 20 20 := by
  obtain ⟨p, q, ⟨e1, e2, _⟩, ⟨e3, e4, _⟩, hq, _⟩ := h
  have h1 : (D (ab p)).length ≤ 1 := by rw [← e2]; have := hf.1; omega
  have h2 : (D (ab q)).length ≤ 1 := by rw [← e4]; have := hf.2; omega
  have h3 := (D_len_le (ab_nonneg p)).1 h1
  have h4 := (D_len_le (ab_nonneg q)).1 h2
  have e : d.q = Rat.divInt p q := by
    unfold Fd.q
    rw [e1, e2, e3, e4, nv_D (ab_nonneg _), nv_D (ab_nonneg _), sgn_ab, sgn_ab]
  rw [e]
  unfold ab at h3 h4
  have hp : pw 1 = 1048576 := by decide
  rw [hp] at h3 h4
  have h5 := num_small p q
  have h6 := den_small (P := p) (Q := q) (by omega)
  exact ⟨by omega, by omega⟩

/-- A right system of n unknowns, at most three, with one digit. -/
structure Sml (rs : List Rd) (n : Nat) : Prop where
  sys : SysR rs n
  n3 : n ≤ 3
  bits : ∀ k, k < n → (∀ j, j < n → Bt ((rs.getD k rnil).A.getD j dnil).q 20 20) ∧ Bt (rs.getD k rnil).v.q 20 20
section
variable {rs : List Rd} {n : Nat}
theorem Sml.len (h : Sml rs n) : rs.length = n := by have := h.sys.1; omega
theorem Sml.R (h : Sml rs n) {k : Nat} (hk : k < n) : (rs.getD k rnil).R n := by
  have := h.sys.2.2 k (by rw [h.len]; exact hk)
  rwa [h.len] at this
theorem sml_of {m : Nat} (hs : SysR rs (m : Int)) (hm : rs.length = m) (h3 : m ≤ 3) (hf : ∀ k, k < m → (∀ j, j < (rs.getD k rnil).A.length → FewD 1 ((rs.getD k rnil).A.getD j dnil)) ∧ FewD 1 (rs.getD k rnil).v) : Sml rs m :=
  ⟨hs, h3, fun k hk => by
    have hR := hs.2.2 k (by rw [hm]; exact hk)
    rw [hm] at hR
    exact ⟨fun j hj => fd_bits (hR.2.1 j hj) ((hf k hk).1 j (by rw [hR.1]; exact hj)), fd_bits hR.2.2 (hf k hk).2⟩⟩
theorem q_get {rs : List Rd} {k : Nat} (hk : k < rs.length) : (rs.map Rd.q).getD k [] = (rs.getD k rnil).q := by
  rw [List.getD_eq_getElem?_getD, List.getElem?_map, List.getElem?_eq_getElem hk, List.getD_eq_getElem?_getD, List.getElem?_eq_getElem hk]
  rfl
theorem Sml.X (h : Sml rs n) : (rs.map Rd.q).length = n := by rw [List.length_map, h.len]
theorem Sml.get (h : Sml rs n) {k : Nat} (hk : k < n) : (rs.map Rd.q).getD k [] = (rs.getD k rnil).A.map Fd.q ++ [(rs.getD k rnil).v.q] := q_get (by rw [h.len]; exact hk)
theorem Sml.el (h : Sml rs n) {k j : Nat} (hk : k < n) (hj : j < n) : ((rs.map Rd.q).getD k []).getD j 0 = ((rs.getD k rnil).A.getD j dnil).q := by
  have hl := (h.R hk).1
  rw [h.get hk, List.getD_eq_getElem?_getD, List.getElem?_append_left (by rw [List.length_map, hl]; exact hj), ← List.getD_eq_getElem?_getD, q_getD (by rw [hl]; exact hj)]
theorem Sml.val (h : Sml rs n) {k : Nat} (hk : k < n) : ((rs.map Rd.q).getD k []).getD n 0 = (rs.getD k rnil).v.q := by
  have hl := (h.R hk).1
  rw [h.get hk, List.getD_eq_getElem?_getD, List.getElem?_append_right (by rw [List.length_map, hl]; exact Nat.le_refl _), List.length_map, hl, Nat.sub_self]
  rfl
theorem Sml.lenA (h : Sml rs n) : LenA n (rs.map Rd.q) := fun k hk => by
  rw [h.X] at hk
  rw [h.get hk, List.length_append, List.length_map, (h.R hk).1]
  rfl
theorem Sml.btl (h : Sml rs n) : ∀ k, k < n → BtL ((rs.map Rd.q).getD k []) 20 20 := fun k hk j hj => by
  have hl := h.lenA k (by rw [h.X]; exact hk)
  rw [hl] at hj
  by_cases e : j = n
  · subst e
    rw [h.val hk]
    exact (h.bits k hk).2
  · rw [h.el hk (by omega)]
    exact (h.bits k hk).1 j (by omega)
theorem Sml.bs (h : Sml rs n) : BitS (rs.map Rd.q) 0 := ⟨fun _ k hk => h.btl k (by rw [← h.X]; exact hk), fun e => (by cases e), fun e => (by cases e)⟩
theorem Sml.free (h : Sml rs n) : ∃ k Y, runFree n 0 (rs.map Rd.q) = some (k, Y) := runFree_ok h.lenA h.X h.n3 (by omega) h.bs
theorem Sml.rank (h : Sml rs n) : ∃ k, runRank n 0 0 (rs.map Rd.q) = some k ∧ k ≤ n := runRank_ok h.lenA h.X h.n3 (by omega) (Nat.le_refl _) h.bs

/-- The sum of products, where there is room, is their sum. -/
theorem sumTo_dot {us xs : List Rat} {m : Nat} {s : Rat} (h : sumTo us xs m = some s) : s = dotN us (fun k => xs.getD k 0) m := by
  induction m generalizing s with
  | zero => simp [sumTo] at h; exact h.symm
  | succ m ih =>
    rw [sumTo] at h
    cases hs : sumTo us xs m with
    | none => rw [hs] at h; cases h
    | some t =>
      rw [hs, Option.bind_some] at h
      have ht := ih hs
      by_cases hm : okMul (us.getD m 0) (xs.getD m 0)
      · rw [oMul_yes hm, Option.bind_some] at h
        by_cases ha : okAdd t (us.getD m 0 * xs.getD m 0)
        · rw [oAdd_yes ha] at h
          injection h with h
          rw [dotN, ← h, ht]
        · rw [oAdd_no ha] at h; cases h
      · rw [oMul_no hm] at h; cases h
theorem Sml.dot (h : Sml rs n) {k : Nat} (hk : k < n) (x : Nat → Rat) : dotN ((rs.getD k rnil).A.map Fd.q) x n = dotN ((rs.map Rd.q).getD k []) x n :=
  dotN_ext fun j hj => by rw [h.el hk hj, q_getD (by rw [(h.R hk).1]; exact hj)]

theorem bt_rb {x : Rat} (h : Bt x 400 400) : Rb x 60 60 := ⟨by unfold ab; exact lt1200 h.n (by decide), by unfold ab; rw [Int.natAbs_natCast]; exact lt1200 h.d (by decide)⟩
/-- A list of numbers solves the system, if it does and is not too long. -/
theorem Sml.solves (h : Sml rs n) {xs : List Rat} (hl : xs.length = n) (hb : ∀ k, k < n → Bt (xs.getD k 0) 243 243) (hs : SolA 1 n (fun k => xs.getD k 0) (rs.map Rd.q)) : SolvesP rs (xs.map Fd.of) n := by
  refine ⟨h.sys, ⟨by rw [List.length_map, hl, h.len], fun k hk => ?_⟩, fun k hk => ?_⟩
  · rw [List.length_map] at hk
    rw [getD_map_of hk]
    exact Fd.of_R (bt_rb ((hb k (by omega)).more (by decide) (by decide)))
  · rw [h.len] at hk ⊢
    rw [map_of_q]
    have h1 := (sumTo_ok (us := (rs.getD k rnil).A.map Fd.q) (xs := xs) (n := n) (by have := h.n3; omega) (fun j hj => by rw [q_getD (by rw [(h.R hk).1]; exact hj)]; exact (h.bits k hk).1 j hj) hb).1
    rw [h1, h.dot hk]
    have h2 := hs k (by rw [h.X]; exact hk)
    unfold SolL at h2
    rw [h2, h.val hk]
    congr 1
    grind
theorem Sml.of_solves (h : Sml rs n) {ds : List Fd} (hs : SolvesP rs ds n) : ds.length = n ∧ (∀ k, k < n → (ds.getD k dnil).R) ∧ SolA 1 n (fun k => (ds.map Fd.q).getD k 0) (rs.map Rd.q) := by
  obtain ⟨_, ⟨h1, h2⟩, h3⟩ := hs
  rw [h.len] at h1 h3
  refine ⟨h1, fun k hk => h2 k (by omega), fun k hk => ?_⟩
  rw [h.X] at hk
  have h4 := sumTo_dot (h3 k hk)
  unfold SolL
  rw [← h.dot hk, ← h4, h.val hk]
  grind

/-- The only solution. -/
def solV (Y : List (List Rat)) (n : Nat) : List Rat := (List.range n).map fun k => (Y.getD k []).getD n 0
theorem solV_len {Y : List (List Rat)} : (solV Y n).length = n := by simp [solV]
theorem solV_get {Y : List (List Rat)} {k : Nat} (hk : k < n) : (solV Y n).getD k 0 = (Y.getD k []).getD n 0 := by
  unfold solV
  rw [List.getD_eq_getElem?_getD, List.getElem?_map, List.getElem?_range hk]
  rfl
theorem Sml.only (h : Sml rs n) {Y : List (List Rat)} (hr : runFree n 0 (rs.map Rd.q) = some (n, Y)) : SolvesP rs ((solV Y n).map Fd.of) n := by
  refine h.solves solV_len (fun k hk => ?_) ((runFree_one hr h.lenA h.X 1 _).2 (fun k hk => ?_))
  · rw [solV_get hk]
    exact only_bits hr h.n3 h.lenA h.X h.btl k hk
  · rw [solV_get hk]
    grind
theorem Sml.same (h : Sml rs n) {Y : List (List Rat)} (hr : runFree n 0 (rs.map Rd.q) = some (n, Y)) {ds : List Fd} (hs : SolvesP rs ds n) : ds.map Fd.q = solV Y n := by
  obtain ⟨h1, _, h3⟩ := h.of_solves hs
  have h4 := (runFree_one hr h.lenA h.X 1 _).1 h3
  apply List.ext_getElem
  · rw [List.length_map, h1, solV_len]
  · intro i hi hj
    rw [List.length_map, h1] at hi
    have h5 := h4 i hi
    have h6 := solV_get (Y := Y) hi
    rw [List.getD_eq_getElem?_getD, List.getElem?_eq_getElem hj] at h6
    simp only [List.getD_eq_getElem?_getD] at h5
    rw [List.getElem?_eq_getElem (by rw [List.length_map, h1]; exact hi)] at h5
    simp only [Option.getD_some] at h5 h6
    rw [h5, h6, List.getD_eq_getElem?_getD, List.getD_eq_getElem?_getD]
    grind

theorem runFree_bits {m c n k : Nat} {X Y : List (List Rat)} (h : runFree m c X = some (k, Y)) (hk : k < n) (hl : LenA n X) (hX : X.length = n) (hn : n ≤ 3) (hcm : c + m = n) (hb : BitS X c) : BitS Y k ∧ Y.length = n ∧ LenA n Y := by
  induction m generalizing c X with
  | zero =>
    rw [runFree] at h
    simp at h
    omega
  | succ m ih =>
    obtain ⟨b, Z, hz, hZ⟩ := elimS_ok hl hX hn (Nat.le_refl c) (by omega) hb
    have hlen := elimS_len hz hl (by omega)
    rw [runFree, hz] at h
    cases b with
    | false =>
      simp at h
      obtain ⟨rfl, rfl⟩ := h
      exact ⟨hZ, hlen.1.trans hX, hlen.2⟩
    | true => exact ih h hlen.2 (by rw [hlen.1]; exact hX) (by omega) hZ
theorem bt_neg {x : Rat} {p q : Nat} (h : Bt x p q) : Bt (0 - x) p q := by
  have e : 0 - x = -x := by grind
  rw [e]
  exact ⟨by rw [Rat.neg_num, Int.natAbs_neg]; exact h.n, by rw [Rat.neg_den]; exact h.d⟩
theorem bt_01 (b : Bool) : Bt (if b then (1 : Rat) else 0) 1 1 := by cases b <;> exact ⟨by decide, by decide⟩
/-- The rows with 0 as their values are such a system as well. -/
theorem Sml.hom (h : Sml rs n) : Sml (hom rs) n := by
  have e : ∀ k, k < n → (Go.Proofs.Ytlbjaimgoiimgaa.hom rs).getD k rnil = ⟨(rs.getD k rnil).A, Fd.of 0⟩ := fun k hk => hom_get (by rw [h.len]; exact hk)
  have h0 : Bt (0 : Rat) 20 20 := ⟨by decide, by decide⟩
  refine ⟨⟨by rw [hom_len]; exact h.sys.1, by rw [hom_len]; exact h.sys.2.1, fun k hk => ?_⟩, h.n3, fun k hk => ?_⟩
  · rw [hom_len, h.len] at hk ⊢
    rw [e k hk]
    exact ⟨(h.R hk).1, (h.R hk).2.1, Fd.of_R (bt_rb (h0.more (by decide) (by decide)))⟩
  · rw [e k hk]
    exact ⟨(h.bits k hk).1, by rw [Fd.of_q]; exact h0⟩
/-- They have the same elements. -/
theorem Sml.hom_same (h : Sml rs n) : SameA n (rs.map Rd.q) ((Go.Proofs.Ytlbjaimgoiimgaa.hom rs).map Rd.q) := by
  refine ⟨by rw [h.X, h.hom.X], fun k hk j hj => ?_⟩
  rw [h.X] at hk
  rw [h.el hk hj, h.hom.el hk hj, hom_get (by rw [h.len]; exact hk)]
theorem Sml.hom_val (h : Sml rs n) {k : Nat} (hk : k < n) : (((Go.Proofs.Ytlbjaimgoiimgaa.hom rs).map Rd.q).getD k []).getD n 0 = 0 := by
  rw [h.hom.val hk, hom_get (by rw [h.len]; exact hk), Fd.of_q]
/-- The kernel. -/
def kerL (Y : List (List Rat)) (k n : Nat) : List Rat := (List.range n).map (kerV Y k)
theorem kerL_len {Y : List (List Rat)} {k : Nat} : (kerL Y k n).length = n := by simp [kerL]
theorem kerL_get {Y : List (List Rat)} {k j : Nat} (hj : j < n) : (kerL Y k n).getD j 0 = kerV Y k j := by
  unfold kerL
  rw [List.getD_eq_getElem?_getD, List.getElem?_map, List.getElem?_range hj]
  rfl
theorem Sml.ker_bits (h : Sml rs n) {k : Nat} {Y : List (List Rat)} (hr : runFree n 0 (rs.map Rd.q) = some (k, Y)) (hk : k < n) {j : Nat} (hj : j < n) : Bt (kerV Y k j) 243 243 := by
  obtain ⟨hb, hY, hL⟩ := runFree_bits hr hk h.lenA h.X h.n3 (by omega) h.bs
  have h3 := h.n3
  unfold kerV
  by_cases e : j = k
  · rw [if_pos e]
    exact ⟨by decide, by decide⟩
  · rw [if_neg e]
    apply bt_neg
    have hlen := hL j (by omega)
    by_cases hjk : j < k
    · rcases (show k = 1 ∨ k = 2 by omega) with e1 | e1
      · exact (((hb.2.1 e1).1 j (by omega)) k (by omega)).more (by decide) (by decide)
      · exact (((hb.2.2 e1).1 j (by omega)) k (by omega)).more (by decide) (by decide)
    · rw [runFree_zero hr (by omega) j (by omega) (by omega)]
      exact ⟨by decide, by decide⟩
theorem Sml.ker (h : Sml rs n) {k : Nat} {Y : List (List Rat)} (hr : runFree n 0 (rs.map Rd.q) = some (k, Y)) (hk : k < n) : SolvesP (Go.Proofs.Ytlbjaimgoiimgaa.hom rs) ((kerL Y k n).map Fd.of) n := by
  refine h.hom.solves kerL_len (fun j hj => by rw [kerL_get hj]; exact h.ker_bits hr hk hj) (fun i hi => ?_)
  rw [h.hom.X] at hi
  have h1 := (h.hom_same.zero _).1 (runFree_ker hr hk h.lenA h.X) i (by rw [h.hom.X]; exact hi)
  unfold SolL at h1 ⊢
  rw [h.hom_val hi] at h1 ⊢
  have e : dotN (((Go.Proofs.Ytlbjaimgoiimgaa.hom rs).map Rd.q).getD i []) (fun j => (kerL Y k n).getD j 0) n = dotN (((Go.Proofs.Ytlbjaimgoiimgaa.hom rs).map Rd.q).getD i []) (kerV Y k) n := by
    have : ∀ m, m ≤ n → dotN (((Go.Proofs.Ytlbjaimgoiimgaa.hom rs).map Rd.q).getD i []) (fun j => (kerL Y k n).getD j 0) m = dotN (((Go.Proofs.Ytlbjaimgoiimgaa.hom rs).map Rd.q).getD i []) (kerV Y k) m := fun m => by
      induction m with
      | zero => exact fun _ => rfl
      | succ m ih => exact fun hm => by rw [dotN, dotN, ih (by omega), kerL_get (by omega)]
    exact this n (Nat.le_refl n)
  rw [e, h1]
  grind
end

end Go.Proofs.Ytlbjaimgoiimgaa

namespace Go.Proofs.Ytlbjaimgoiimgaa
open Go.RowKit

section
variable {A : Option Addr} {m cap : Nat} {rs : List Rd}
theorem solve_yes (w : World) (h : RdsAt w A rs) (S : Sml rs m) {Y : List (List Rat)} (hr : runFree m 0 (rs.map Rd.q) = some (m, Y)) :
    Calls Try.prog 11 #[.slice A m cap, .int .i64 m] w fun e w' => ∃ Ao co, e = .returned (.tuple #[.slice Ao m co, .int .i64 0]) ∧ QsAt w' Ao (solV Y m) ∧ Below w.heap.size w w' :=
  (lsolve_q w h S.len (by have := S.n3; omega)).mono fun e w' hp => by
    obtain ⟨hb, ⟨hs, _⟩ | ⟨_, hr', _⟩ | ⟨_, ⟨k, Y', hr', hk⟩, _⟩ | ⟨_, Y', Ao, co, hr', he, hq⟩⟩ := hp
    · exact absurd S.sys hs
    · rw [hr] at hr'; cases hr'
    · rw [hr] at hr'; injection hr' with hr'; injection hr' with h1 _; omega
    · rw [hr] at hr'; injection hr' with hr'; injection hr' with _ h2; subst h2; exact ⟨Ao, co, he, hq, hb⟩
theorem solve_no (w : World) (h : RdsAt w A rs) (S : Sml rs m) {Y : List (List Rat)} {k : Nat} (hr : runFree m 0 (rs.map Rd.q) = some (k, Y)) (hk : k < m) :
    Calls Try.prog 11 #[.slice A m cap, .int .i64 m] w fun e w' => e = .returned (.tuple #[.slice none 0 0, .int .i64 16]) ∧ Below w.heap.size w w' :=
  (lsolve_q w h S.len (by have := S.n3; omega)).mono fun e w' hp => by
    obtain ⟨hb, ⟨hs, _⟩ | ⟨_, hr', _⟩ | ⟨_, _, he⟩ | ⟨_, Y', Ao, co, hr', he, hq⟩⟩ := hp
    · exact absurd S.sys hs
    · rw [hr] at hr'; cases hr'
    · exact ⟨he, hb⟩
    · rw [hr] at hr'; injection hr' with hr'; injection hr' with h1 _; omega
theorem kernel_no (w : World) (h : RdsAt w A rs) (S : Sml rs m) {Y : List (List Rat)} (hr : runFree m 0 (rs.map Rd.q) = some (m, Y)) :
    Calls Try.prog 12 #[.slice A m cap, .int .i64 m] w fun e w' => e = .returned (.tuple #[.slice none 0 0, .bool false]) ∧ Below w.heap.size w w' :=
  (lkernel_q w h S.len (by have := S.n3; omega)).mono fun e w' hp => by
    obtain ⟨hb, ⟨hs, _⟩ | ⟨_, _, he⟩ | ⟨_, _, he⟩ | ⟨_, k, Y', Ao, co, hr', hk, he, hq⟩⟩ := hp
    · exact absurd S.sys hs
    · exact ⟨he, hb⟩
    · exact ⟨he, hb⟩
    · rw [hr] at hr'; injection hr' with hr'; injection hr' with h1 _; omega
theorem kernel_yes (w : World) (h : RdsAt w A rs) (S : Sml rs m) {Y : List (List Rat)} {k : Nat} (hr : runFree m 0 (rs.map Rd.q) = some (k, Y)) (hk : k < m) :
    Calls Try.prog 12 #[.slice A m cap, .int .i64 m] w fun e w' => ∃ Ao co, e = .returned (.tuple #[.slice Ao m co, .bool true]) ∧ QsAt w' Ao (kerL Y k m) ∧ Below w.heap.size w w' :=
  (lkernel_q w h S.len (by have := S.n3; omega)).mono fun e w' hp => by
    obtain ⟨hb, ⟨hs, _⟩ | ⟨_, hr', _⟩ | ⟨_, ⟨Y', hr'⟩, _⟩ | ⟨_, k', Y', Ao, co, hr', hk', he, hq⟩⟩ := hp
    · exact absurd S.sys hs
    · rw [hr] at hr'; cases hr'
    · rw [hr] at hr'; injection hr' with hr'; injection hr' with h1 _; omega
    · rw [hr] at hr'; injection hr' with hr'; injection hr' with h1 h2; subst h1; subst h2; exact ⟨Ao, co, he, hq, hb⟩
theorem rank_yes (w : World) (h : RdsAt w A rs) (S : Sml rs m) {k : Nat} (hr : runRank m 0 0 (rs.map Rd.q) = some k) :
    Calls Try.prog 23 #[.slice A m cap, .int .i64 m] w fun e w' => e = .returned (.tuple #[.int .i64 k, .int .i64 0]) ∧ Below w.heap.size w w' :=
  (lrank_any w h S.len (by have := S.n3; omega)).mono fun e w' hp => by
    obtain ⟨hb, ⟨hs, _⟩ | ⟨_, hr', _⟩ | ⟨_, k', hr', he⟩⟩ := hp
    · exact absurd S.sys hs
    · rw [hr] at hr'; cases hr'
    · rw [hr] at hr'; injection hr' with hr'; subst hr'; exact ⟨he, hb⟩
theorem check_yes (w : World) (h : RdsAt w A rs) {n : Nat} (hm : rs.length = m) (h3 : m ≤ 3) {Ax : Option Addr} {cx : Nat} {xs : List Rat} (hx : QsAt w Ax xs) (hl : xs.length = n) (hn : n ≤ 3) (hs : SolvesP rs (xs.map Fd.of) m) :
    Calls Try.prog 13 #[.slice A m cap, .int .i64 m, .slice Ax n cx] w fun e w' => e = .returned (.bool true) ∧ Below w.heap.size w w' :=
  lcheck_any w h hm (by omega) hx.fds (by rw [List.length_map, hl]) (by omega) true ⟨fun _ => hs, fun _ => rfl⟩
end

open Classical in
set_option maxRecDepth 100000 in
set_option maxHeartbeats 16000000 in
theorem only_any {A Ax : Option Addr} {m cap mx cx : Nat} {rs : List Rd} {xs : List Fd} (w : World) (h : RdsL w A rs) (hm : rs.length = m) (hx : FdsAt w Ax xs) (hxm : xs.length = mx) :
    Calls Try.prog 3 #[.slice A m cap, .slice Ax mx cx] w fun e w' => e = .returned (.bool true) ∧ Below w.heap.size w w' := by
  have HDL := Lib.hid h; clear h
  have HM := Lib.hid hm; clear hm
  have HX := Lib.hid hx; clear hx
  have HXM := Lib.hid hxm; clear hxm
  go_enter Try.func3, Try.ntmps3
  go_wp2_with fail
  (with_reducible refine (small_any w).mono ?_)
  rintro e u1 ⟨rfl, hT⟩
  go_wp2_with fail
  (with_reducible refine (fewL_any (N := 3) (d := 1) _ (HDL.out.below hT) HM.out (by decide) (by decide)).mono ?_)
  rintro e u2 ⟨b, rfl, hb2, hbt⟩
  replace hT := hT.trans (hb2.mono hT.size)
  clear hb2
  cases b with
  | false =>
    clear hbt
    go_wp2_with fail
    go_ret
    exact ⟨rfl, hT⟩
  | true =>
  have hm5 : m ≤ 3 := by have := (hbt rfl).1; omega
  have HD := Lib.hid (HDL.out.tight (fun k hk => by have := ((hbt rfl).2 k (by rw [← HM.out]; exact hk)).1; omega))
  have HFW := Lib.hid (fun k hk => ((hbt rfl).2 k hk).2)
  clear HDL
  clear hbt
  go_wp2_with fail
  (with_reducible refine (fewF_any (N := 3) (d := 1) _ (HX.out.below hT) HXM.out (by decide) (by decide)).mono ?_)
  rintro e u3 ⟨b, rfl, hb2, hbt⟩
  replace hT := hT.trans (hb2.mono hT.size)
  clear hb2
  cases b with
  | false =>
    clear hbt
    go_wp2_with fail
    go_ret
    exact ⟨rfl, hT⟩
  | true =>
  have hx5 : mx ≤ 3 := by have := (hbt rfl).1; omega
  clear hbt
  obtain ⟨bR, hbR⟩ : ∃ b, decide (SysR rs (m : Int)) = b := ⟨_, rfl⟩
  have HBR := Lib.hid (show bR = true ↔ SysR rs (m : Int) by rw [← hbR]; exact decide_eq_true_iff)
  clear hbR
  go_wp2_with fail
  (with_reducible refine (lright_any (n := (m : Int)) _ (HD.out.below hT) HM.out (by omega) bR HBR.out).mono ?_)
  rintro e v1 ⟨rfl, hb4⟩
  replace hT := hT.trans (hb4.mono hT.size)
  clear hb4
  cases bR with
  | false =>
    go_wp2_with fail
    go_ret
    exact ⟨rfl, hT⟩
  | true =>
  have HS := Lib.hid (sml_of (HBR.out.1 rfl) HM.out hm5 HFW.out)
  clear HBR HFW
  obtain ⟨k, Y, hr⟩ := HS.out.free
  have HR := Lib.hid hr; clear hr
  have hkm : k ≤ m := by have := runFree_le HR.out; omega
  by_cases hk : k = m
  · subst hk
    go_wp2_with fail
    (with_reducible refine (solve_yes _ (HD.out.below hT) HS.out HR.out).mono ?_)
    rintro e v2 ⟨A1, c1, rfl, hq1, hb4⟩
    replace hT := hT.trans (hb4.mono hT.size)
    clear hb4
    go_wp2_with fail
    (with_reducible refine (kernel_no _ (HD.out.below hT) HS.out HR.out).mono ?_)
    rintro e v3 ⟨rfl, hb4⟩
    replace hT := hT.trans (hb4.mono hT.size)
    have HQ1 := Lib.hid (hq1.below hb4)
    clear hb4 hq1
    go_wp2_with fail
    (with_reducible refine (check_yes _ (HD.out.below hT) HM.out hm5 HQ1.out solV_len hm5 (HS.out.only HR.out)).mono ?_)
    rintro e v4 ⟨rfl, hb4⟩
    replace hT := hT.trans (hb4.mono hT.size)
    replace HQ1 := Lib.hid (HQ1.out.below hb4)
    clear hb4
    obtain ⟨bC, hbC⟩ : ∃ b, decide (SolvesP rs xs (k : Int)) = b := ⟨_, rfl⟩
    have HBC := Lib.hid (show bC = true ↔ SolvesP rs xs (k : Int) by rw [← hbC]; exact decide_eq_true_iff)
    clear hbC
    go_wp2_with fail
    (with_reducible refine (lcheck_any (n := (k : Int)) _ (HD.out.below hT) HM.out (by omega) (HX.out.below hT) HXM.out (by omega) bC HBC.out).mono ?_)
    rintro e v5 ⟨rfl, hb4⟩
    replace hT := hT.trans (hb4.mono hT.size)
    replace HQ1 := Lib.hid (HQ1.out.below hb4)
    clear hb4
    cases bC with
    | false =>
      go_wp2_with fail
      go_ret
      exact ⟨rfl, hT⟩
    | true =>
    have hsl := HBC.out.1 rfl
    have hof := HS.out.of_solves hsl
    have hmx : mx = k := by rw [← HXM.out]; exact hof.1
    subst hmx
    have HQ2 := Lib.hid (show QsAt v5 Ax (solV Y mx) by
      rw [← HS.out.same HR.out hsl]
      exact QsAt.of_fds (HX.out.below hT) (fun j hj => hof.2.1 j (by rw [← HXM.out]; exact hj)))
    clear hof hsl
    go_wp2_with fail
    (with_reducible refine (rlsame_true _ HQ2.out HQ1.out solV_len (by omega)).mono ?_)
    rintro e v6 ⟨rfl, hb4⟩
    replace hT := hT.trans (hb4.mono hT.size)
    clear hb4
    go_wp2_with fail
    go_ret
    exact ⟨rfl, hT⟩
  · have hk' : k < m := by omega
    clear hk
    go_wp2_with fail
    (with_reducible refine (solve_no _ (HD.out.below hT) HS.out HR.out hk').mono ?_)
    rintro e v2 ⟨rfl, hb4⟩
    replace hT := hT.trans (hb4.mono hT.size)
    clear hb4
    go_wp2_with fail
    (with_reducible refine (kernel_yes _ (HD.out.below hT) HS.out HR.out hk').mono ?_)
    rintro e v3 ⟨A1, c1, rfl, hq1, hb4⟩
    replace hT := hT.trans (hb4.mono hT.size)
    have HQ1 := Lib.hid hq1
    clear hb4 hq1
    have HT := Lib.hid hT
    clear hT
    go_wp2_with fail
    go_loopw [11, 12] (fun zv iv wr => ∃ (i : Nat) (z : Bool), i ≤ m ∧ zv = .bool z ∧ iv = .int .i64 i ∧ Hid (z = true → i ≤ k) ∧ Hid (Below v3.heap.size v3 wr)) (fun _ iv _ => m - (intOf iv).toNat)
    case atStart => exact ⟨0, true, Nat.zero_le _, rfl, rfl, Lib.hid (fun _ => Nat.zero_le _), Lib.hid (Below.refl _ _)⟩
    case round =>
      obtain ⟨i, z, hi, rfl, rfl, hz, hbl⟩ := hrel
      by_cases hgo : i < m
      · cases z with
        | false =>
          go_wp2_with fail
          go_roundw
          case rel => exact ⟨i + 1, false, by omega, rfl, rfl, Lib.hid (fun h => by cases h), hbl⟩
          case measure => simp [intOf]; omega
        | true =>
          have hik := hz.out rfl
          obtain ⟨b1, o1, f1, hA1, hB1, c0, c1', c2', c3, hf1⟩ := (HQ1.out.below hbl.out).at_ (k := i) (by rw [kerL_len]; exact hgo)
          subst hA1
          obtain ⟨s1, X1, n1, e1, s2, X2, n2, e2⟩ := f1
          simp only at c0 c1' c2' c3
          have HF := Lib.hid hf1; clear hf1
          obtain ⟨bz, hbz⟩ : ∃ b, decide ((kerL Y k m).getD i 0 = 0) = b := ⟨_, rfl⟩
          have HBZ := Lib.hid hbz; clear hbz
          have hi01 : ((i : Nat) : Int) < (m : Int) := by omega
          go_wp2_with fail
          (with_reducible refine (rzero_any (f := ⟨s1, X1, n1, e1, s2, X2, n2, e2⟩) HF.out bz HBZ.out).mono ?_)
          rintro e w4 ⟨rfl, hb4⟩
          have hbn := Lib.hid (hbl.out.trans (hb4.mono hbl.out.size))
          have hzn : Hid (bz = true → i + 1 ≤ k) := Lib.hid (fun hb => by
            have h1 := HBZ.out
            rw [hb, decide_eq_true_iff, kerL_get hgo] at h1
            have : i ≠ k := fun e => by
              subst e
              unfold kerV at h1
              rw [if_pos rfl] at h1
              exact absurd h1 (by decide)
            omega)
          clear hb4 c0 c1' c2' c3
          go_wp2_with fail
          go_roundw
          case rel => exact ⟨i + 1, bz, by omega, rfl, rfl, hzn, hbn⟩
          case measure => simp [intOf]; omega
      · have : i = m := by omega
        subst this
        cases z with
        | true => exact absurd (hz.out rfl) (by omega)
        | false =>
        have hT5 := HT.out.trans (hbl.out.mono HT.out.size)
        have HQ2 := Lib.hid (HQ1.out.below hbl.out)
        go_wp2_with fail
        (with_reducible refine (hom_any _ (HD.out.below hT5) HM.out (by omega)).mono ?_)
        rintro e w4 ⟨A', c', rfl, hR', hb4⟩
        have hT6 := hT5.trans (hb4.mono hT5.size)
        have HQ3 := Lib.hid (HQ2.out.below hb4)
        clear hb4
        go_wp2_with fail
        (with_reducible refine (check_yes _ hR' (by rw [hom_len, HM.out]) hm5 HQ3.out kerL_len hm5 (HS.out.ker HR.out hk')).mono ?_)
        rintro e w5 ⟨rfl, hb5⟩
        go_wp2_with fail
        go_ret
        exact ⟨rfl, hT6.trans (hb5.mono hT6.size)⟩

end Go.Proofs.Ytlbjaimgoiimgaa
