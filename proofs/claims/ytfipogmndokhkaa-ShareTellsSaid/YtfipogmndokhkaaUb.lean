/- Plain: polynomials over the prime field, as functions; roots; Lagrange's sum. -/
import Derived.Test.YtfipogmndokhkaaUa
namespace Go.Proofs.Ytfipogmndokhkaa

/-- The value of coefficients, the lowest first. -/
def ev : List Int → Int → Int
  | [], _ => 0
  | c :: r, x => ev r x * x + c
/-- f is a polynomial of a degree less than k. -/
def Pol (k : Nat) (f : Int → Int) : Prop := ∃ cs : List Int, cs.length = k ∧ ∀ x, f x = ev cs x

theorem Pol.ev (cs : List Int) : Pol cs.length (ev cs) := ⟨cs, rfl, fun _ => rfl⟩
theorem Pol.of {k : Nat} {f g : Int → Int} (h : Pol k f) (e : ∀ x, g x = f x) : Pol k g := by
  obtain ⟨cs, hl, hc⟩ := h
  exact ⟨cs, hl, fun x => (e x).trans (hc x)⟩
theorem Pol.zero (k : Nat) : Pol k (fun _ => 0) := by
  refine ⟨List.replicate k 0, by simp, fun x => ?_⟩
  induction k with
  | zero => rfl
  | succ k ih => rw [List.replicate_succ, Go.Proofs.Ytfipogmndokhkaa.ev, ← ih]; simp
theorem Pol.cons {k : Nat} {f : Int → Int} (h : Pol k f) (c : Int) : Pol (k + 1) (fun x => f x * x + c) := by
  obtain ⟨cs, hl, hc⟩ := h
  exact ⟨c :: cs, by simp [hl], fun x => by rw [Go.Proofs.Ytfipogmndokhkaa.ev, ← hc]⟩
theorem Pol.uncons {k : Nat} {f : Int → Int} (h : Pol (k + 1) f) : ∃ (c : Int) (g : Int → Int), Pol k g ∧ ∀ x, f x = g x * x + c := by
  obtain ⟨cs, hl, hc⟩ := h
  cases cs with
  | nil => simp at hl
  | cons c r => exact ⟨c, Go.Proofs.Ytfipogmndokhkaa.ev r, ⟨r, by simpa using hl, fun _ => rfl⟩, hc⟩
theorem Pol.none {f : Int → Int} (h : Pol 0 f) (x : Int) : f x = 0 := by
  obtain ⟨cs, hl, hc⟩ := h
  have : cs = [] := List.eq_nil_of_length_eq_zero hl
  subst this
  exact hc x
theorem Pol.add : ∀ {k : Nat} {f g : Int → Int}, Pol k f → Pol k g → Pol k (fun x => f x + g x)
  | 0, f, g, h1, h2 => (Pol.zero 0).of fun x => by rw [h1.none, h2.none]; rfl
  | k + 1, f, g, h1, h2 => by
    obtain ⟨c, f', h3, h4⟩ := h1.uncons
    obtain ⟨d, g', h5, h6⟩ := h2.uncons
    exact ((h3.add h5).cons (c + d)).of fun x => by rw [h4, h6]; grind
theorem Pol.smul (s : Int) : ∀ {k : Nat} {f : Int → Int}, Pol k f → Pol k (fun x => s * f x)
  | 0, f, h1 => (Pol.zero 0).of fun x => by rw [h1.none]; simp
  | k + 1, f, h1 => by
    obtain ⟨c, f', h3, h4⟩ := h1.uncons
    exact ((h3.smul s).cons (s * c)).of fun x => by rw [h4]; grind
theorem Pol.neg {k : Nat} {f : Int → Int} (h : Pol k f) : Pol k (fun x => - f x) := (h.smul (-1)).of fun x => by omega
theorem Pol.sub {k : Nat} {f g : Int → Int} (h : Pol k f) (h' : Pol k g) : Pol k (fun x => f x - g x) := (h.add h'.neg).of fun x => by omega
theorem Pol.up : ∀ {k : Nat} {f : Int → Int}, Pol k f → Pol (k + 1) f
  | 0, f, h1 => ((Pol.zero 0).cons 0).of fun x => by rw [h1.none]; simp
  | k + 1, f, h1 => by
    obtain ⟨c, f', h3, h4⟩ := h1.uncons
    exact (h3.up.cons c).of h4
theorem Pol.mono {k m : Nat} {f : Int → Int} (h : Pol k f) (hm : k ≤ m) : Pol m f := by
  induction m with
  | zero => have : k = 0 := by omega
            subst this; exact h
  | succ m ih =>
    rcases Nat.lt_or_ge m k with h1 | h1
    · have : k = m + 1 := by omega
      subst this; exact h
    · exact (ih h1).up
theorem Pol.const (c : Int) : Pol 1 (fun _ => c) := ((Pol.zero 0).cons c).of fun x => by simp
theorem Pol.mulx {k : Nat} {f : Int → Int} (h : Pol k f) (a : Int) : Pol (k + 1) (fun x => f x * (x - a)) :=
  ((h.cons 0).sub (h.up.smul a)).of fun x => by grind
/-- A root is divided out. -/
theorem Pol.factor : ∀ {k : Nat} {f : Int → Int}, Pol (k + 1) f → ∀ r : Int, ∃ g, Pol k g ∧ ∀ x, f x = f r + (x - r) * g x
  | 0, f, h, r => by
    obtain ⟨c, f', h3, h4⟩ := h.uncons
    exact ⟨f', h3, fun x => by rw [h4 x, h4 r, h3.none, h3.none]; grind⟩
  | k + 1, f, h, r => by
    obtain ⟨c, f', h3, h4⟩ := h.uncons
    obtain ⟨g, h5, h6⟩ := h3.factor r
    exact ⟨fun x => g x * x + f' r, h5.cons _, fun x => by rw [h4 x, h4 r, h6 x]; grind⟩

/-- Numbers that are apart in the field. -/
def Apart : List Int → Prop
  | [] => True
  | r :: rs => (∀ s ∈ rs, ¬ Cg s r) ∧ Apart rs
theorem Pol.roots : ∀ (rs : List Int) (f : Int → Int), Pol rs.length f → Apart rs → (∀ r ∈ rs, Cg (f r) 0) → ∀ x, Cg (f x) 0
  | [], f, h, _, _, x => by rw [h.none]; exact Cg.refl 0
  | r :: rs, f, h, ha, hr, x => by
    obtain ⟨g, h5, h6⟩ := Pol.factor (k := rs.length) (by simpa using h) r
    have h0 := hr r (by simp)
    have key : ∀ s ∈ rs, Cg (g s) 0 := fun s hs => by
      have h1 := hr s (by simp [hs])
      have h2 := h1.sub h0
      rw [h6 s] at h2
      have h3 : Cg ((s - r) * g s) 0 := by
        refine Cg.trans (Cg.of_eq ?_) h2
        omega
      rcases h3.prime with h4 | h4
      · exact absurd (Cg.sub0.1 h4) (ha.1 s hs)
      · exact h4
    have h7 := Pol.roots rs g h5 ha.2 key x
    rw [h6 x]
    have h8 := h0.add ((Cg.refl (x - r)).mul h7)
    rw [Int.mul_zero] at h8
    exact h8
theorem Pol.same (rs : List Int) {f g : Int → Int} (h : Pol rs.length f) (h' : Pol rs.length g) (ha : Apart rs) (hr : ∀ r ∈ rs, Cg (f r) (g r)) (x : Int) : Cg (f x) (g x) :=
  Cg.sub0.1 (Pol.roots rs (fun x => f x - g x) (h.sub h') ha (fun r hm => Cg.sub0.2 (hr r hm)) x)
theorem Pol.same_le (rs : List Int) {k : Nat} {f g : Int → Int} (hk : k ≤ rs.length) (h : Pol k f) (h' : Pol k g) (ha : Apart rs) (hr : ∀ r ∈ rs, Cg (f r) (g r)) (x : Int) : Cg (f x) (g x) :=
  Pol.same rs (h.mono hk) (h'.mono hk) ha hr x

theorem Apart.get : ∀ {rs : List Int}, Apart rs → ∀ i j, i < rs.length → j < rs.length → i ≠ j → ¬ Cg (rs.getD i 0) (rs.getD j 0)
  | [], _, i, _, h, _, _ => by simp at h
  | r :: rs, ha, 0, 0, _, _, h => absurd rfl h
  | r :: rs, ha, 0, j + 1, _, hj, _ => fun hc => by
    have hj' : j < rs.length := by simpa using hj
    refine ha.1 (rs.getD j 0) ?_ hc.symm
    rw [List.getD_eq_getElem?_getD, List.getElem?_eq_getElem hj']
    exact List.getElem_mem hj'
  | r :: rs, ha, i + 1, 0, hi, _, _ => fun hc => by
    have hi' : i < rs.length := by simpa using hi
    refine ha.1 (rs.getD i 0) ?_ hc
    rw [List.getD_eq_getElem?_getD, List.getElem?_eq_getElem hi']
    exact List.getElem_mem hi'
  | r :: rs, ha, i + 1, j + 1, hi, hj, h => Apart.get ha.2 i j (by simpa using hi) (by simpa using hj) (by omega)
theorem Apart.of_get : ∀ {rs : List Int}, (∀ i j, i < j → j < rs.length → ¬ Cg (rs.getD i 0) (rs.getD j 0)) → Apart rs
  | [], _ => trivial
  | r :: rs, h => ⟨fun s hs hc => by
      obtain ⟨j, hj, rfl⟩ := List.mem_iff_getElem.1 hs
      refine h 0 (j + 1) (by omega) (by simpa using hj) ?_
      simpa [List.getD_eq_getElem?_getD, hj] using hc.symm,
    Apart.of_get fun i j hij hj => h (i + 1) (j + 1) (by omega) (by simpa using hj)⟩

/-- The product over all of the first m places but i. -/
def pf (Xs : List Int) (i : Nat) (x : Int) : Nat → Int
  | 0 => 1
  | m + 1 => if m = i then pf Xs i x m else pf Xs i x m * (x - Xs.getD m 0)
theorem pf_pol (Xs : List Int) (i : Nat) : ∀ m : Nat, Pol (if i < m then m else m + 1) (fun x => pf Xs i x m)
  | 0 => Pol.const 1
  | m + 1 => by
    have h := pf_pol Xs i m
    by_cases h1 : m = i
    · rw [if_pos (by omega)]
      rw [if_neg (by omega)] at h
      exact h.of fun x => by rw [pf, if_pos h1]
    · have h2 := h.mulx (Xs.getD m 0)
      have e : (if i < m + 1 then m + 1 else m + 1 + 1) = (if i < m then m else m + 1) + 1 := by split <;> split <;> omega
      rw [e]
      exact h2.of fun x => by rw [pf, if_neg h1]
theorem pf_root (Xs : List Int) (i j : Nat) (hij : j ≠ i) : ∀ m : Nat, j < m → pf Xs i (Xs.getD j 0) m = 0
  | 0, h => by omega
  | m + 1, h => by
    rw [pf]
    by_cases h1 : j = m
    · subst h1
      rw [if_neg hij, Int.sub_self, Int.mul_zero]
    · rw [pf_root Xs i j hij m (by omega)]
      split <;> simp
theorem pf_self {Xs : List Int} (ha : Apart Xs) (i : Nat) (hi : i < Xs.length) : ∀ m : Nat, m ≤ Xs.length → ¬ Cg (pf Xs i (Xs.getD i 0) m) 0
  | 0, _ => Cg.one
  | m + 1, h => by
    rw [pf]
    split
    · exact pf_self ha i hi m (by omega)
    · rename_i h1
      refine Cg.ne (pf_self ha i hi m (by omega)) fun h2 => ?_
      exact ha.get i m hi (by omega) (fun h3 => h1 h3.symm) (Cg.sub0.1 h2)
/-- Lagrange's sum over the first m of n points. -/
def lag (Xs Ys : List Int) (Vs : Nat → Int) (n : Nat) (x : Int) : Nat → Int
  | 0 => 0
  | m + 1 => lag Xs Ys Vs n x m + Ys.getD m 0 * pf Xs m x n * Vs m
theorem lag_pol (Xs Ys : List Int) (Vs : Nat → Int) (n : Nat) : ∀ m : Nat, m ≤ n → Pol n (fun x => lag Xs Ys Vs n x m)
  | 0, _ => Pol.zero n
  | m + 1, h => by
    have h1 := pf_pol Xs m n
    rw [if_pos (by omega)] at h1
    exact ((lag_pol Xs Ys Vs n m (by omega)).add (h1.smul (Ys.getD m 0 * Vs m))).of fun x => by rw [lag]; grind
theorem lag_at {Xs Ys : List Int} {Vs : Nat → Int} {n : Nat} (ha : Apart Xs) (hX : Xs.length = n) (hV : ∀ i, i < n → Cg (pf Xs i (Xs.getD i 0) n * Vs i) 1) (i : Nat) (hi : i < n) :
    ∀ m : Nat, m ≤ n → Cg (lag Xs Ys Vs n (Xs.getD i 0) m) (if i < m then Ys.getD i 0 else 0)
  | 0, _ => Cg.refl 0
  | m + 1, h => by
    have h1 := lag_at (Ys := Ys) ha hX hV i hi m (by omega)
    rw [lag]
    by_cases h2 : i = m
    · subst h2
      rw [if_neg (by omega)] at h1
      rw [if_pos (by omega)]
      have h3 := h1.add ((Cg.refl (Ys.getD i 0)).mul (hV i hi))
      rw [Int.zero_add, Int.mul_one, ← Int.mul_assoc] at h3
      exact h3
    · rw [pf_root Xs m i h2 n (by omega)]
      have e : (if i < m + 1 then Ys.getD i 0 else 0) = (if i < m then Ys.getD i 0 else 0) := by split <;> split <;> first | rfl | omega
      rw [e, Int.mul_zero, Int.zero_mul, Int.add_zero]
      exact h1
theorem lag_congr (Xs Ys : List Int) {Vs Ws : Nat → Int} (n : Nat) (x : Int) : ∀ m : Nat, (∀ i, i < m → Vs i = Ws i) → lag Xs Ys Vs n x m = lag Xs Ys Ws n x m
  | 0, _ => rfl
  | m + 1, h => by rw [lag, lag, lag_congr Xs Ys n x m (fun i hi => h i (by omega)), h m (by omega)]
/-- Lagrange's sum is the value of each polynomial through the points. -/
theorem lag_is {Xs Ys : List Int} {Vs : Nat → Int} {n : Nat} (ha : Apart Xs) (hX : Xs.length = n) (hV : ∀ i, i < n → Cg (pf Xs i (Xs.getD i 0) n * Vs i) 1)
    {f : Int → Int} (hf : Pol n f) (hy : ∀ i, i < n → Cg (f (Xs.getD i 0)) (Ys.getD i 0)) (x : Int) : Cg (lag Xs Ys Vs n x n) (f x) := by
  subst hX
  refine Pol.same Xs (f := fun x => lag Xs Ys Vs Xs.length x Xs.length) (lag_pol Xs Ys Vs _ _ (Nat.le_refl _)) hf ha (fun r hr => ?_) x
  obtain ⟨i, hi, rfl⟩ := List.mem_iff_getElem.1 hr
  have e : Xs[i] = Xs.getD i 0 := by rw [List.getD_eq_getElem?_getD, List.getElem?_eq_getElem hi]; rfl
  have h1 := lag_at (Ys := Ys) ha rfl hV i hi _ (Nat.le_refl _)
  rw [if_pos hi] at h1
  show Cg (lag Xs Ys Vs Xs.length Xs[i] Xs.length) (f Xs[i])
  rw [e]
  exact h1.trans (hy i hi).symm

end Go.Proofs.Ytfipogmndokhkaa
