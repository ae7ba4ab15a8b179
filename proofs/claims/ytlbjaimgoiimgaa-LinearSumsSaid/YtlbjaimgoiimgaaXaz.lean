/- Plain: how great the numbers of the elimination become, in bits; a step does not fail. Plain: at three unknowns with one digit the elimination does not fail. Plain: systems that are moved, or whose values are added. Plain: Cramer's rule for three unknowns; how great a solution is. Plain: Check's sums have room at a solution. Plain: the solution of at most three small equations is small. -/
import Derived.Test.YtlbjaimgoiimgaaXay
import Derived.Test.YtlbjaimgoiimgaaXav

namespace Go.Proofs.Ytlbjaimgoiimgaa

/-- A fraction of p bits over q bits. -/
structure Bt (x : Rat) (p q : Nat) : Prop where
  n : x.num.natAbs < 2 ^ p
  d : x.den < 2 ^ q
theorem num_small (P Q : Int) : (Rat.divInt P Q).num.natAbs ≤ P.natAbs := by
  rw [Rat.num_divInt]
  have h1 : (Q.sign * P / ((Int.gcd Q P : Nat) : Int)).natAbs ≤ (Q.sign * P).natAbs := Int.natAbs_ediv_le_natAbs _ _
  have h2 : (Q.sign * P).natAbs ≤ P.natAbs := by
    rw [Int.natAbs_mul]
    have : Q.sign.natAbs ≤ 1 := by rcases Int.lt_trichotomy Q 0 with h | h | h <;> simp [Int.sign_eq_neg_one_of_neg, Int.sign_eq_one_of_pos, h]
    calc Q.sign.natAbs * P.natAbs ≤ 1 * P.natAbs := Nat.mul_le_mul_right _ this
      _ = P.natAbs := Nat.one_mul _
  exact Nat.le_trans h1 h2
theorem den_small {P Q : Int} (hQ : Q ≠ 0) : (Rat.divInt P Q).den ≤ Q.natAbs := by
  rw [Rat.den_divInt, if_neg hQ]
  exact Nat.div_le_self _ _
theorem two_pow_mul {a b p q : Nat} (ha : a < 2 ^ p) (hb : b < 2 ^ q) : a * b < 2 ^ (p + q) := by
  rw [Nat.pow_add]
  exact Nat.mul_lt_mul'' ha hb
theorem two_pow_le {a p q : Nat} (ha : a < 2 ^ p) (h : p ≤ q) : a < 2 ^ q := Nat.lt_of_lt_of_le ha (Nat.pow_le_pow_right (by decide) h)
theorem lt1200 {m p : Nat} (h : m < 2 ^ p) (hp : p ≤ 1200) : ((m : Nat) : Int) < pw 60 := by
  have h1 := two_pow_le h hp
  have e : pw 60 = ((2 ^ 1200 : Nat) : Int) := by decide +kernel
  rw [e]
  exact Int.ofNat_lt.2 h1
theorem Bt.mul {x y : Rat} {a b c d : Nat} (hx : Bt x a b) (hy : Bt y c d) : Bt (x * y) (a + c) (b + d) := by
  rw [← rat_mul]
  refine ⟨Nat.lt_of_le_of_lt (num_small _ _) ?_, Nat.lt_of_le_of_lt (den_small (den2_ne x y)) ?_⟩
  · rw [Int.natAbs_mul]; exact two_pow_mul hx.n hy.n
  · rw [Int.natAbs_mul]; simpa using two_pow_mul hx.d hy.d
theorem Bt.div {x y : Rat} {a b c d : Nat} (hx : Bt x a b) (hy : Bt y c d) (h0 : y ≠ 0) : Bt (x / y) (a + d) (b + c) := by
  rw [← rat_div]
  refine ⟨Nat.lt_of_le_of_lt (num_small _ _) ?_, Nat.lt_of_le_of_lt (den_small (Int.mul_ne_zero (den_ne x) (num_ne h0))) ?_⟩
  · rw [Int.natAbs_mul]; simpa using two_pow_mul hx.n hy.d
  · rw [Int.natAbs_mul]; simpa using two_pow_mul hx.d hy.n
theorem sub_bits {u v : Int} {p : Nat} (hu : u.natAbs < 2 ^ p) (hv : v.natAbs < 2 ^ p) : (u - v).natAbs < 2 ^ (p + 1) := by
  rw [Nat.pow_succ]
  omega
theorem Bt.sub {x y : Rat} {a b c d m : Nat} (hx : Bt x a b) (hy : Bt y c d) (h1 : a + d ≤ m) (h2 : c + b ≤ m) : Bt (x - y) (m + 1) (b + d) := by
  rw [← rat_sub]
  refine ⟨Nat.lt_of_le_of_lt (num_small _ _) (sub_bits ?_ ?_), Nat.lt_of_le_of_lt (den_small (den2_ne x y)) ?_⟩
  · rw [Int.natAbs_mul]; simpa using two_pow_le (two_pow_mul hx.n hy.d) h1
  · rw [Int.natAbs_mul]; simpa using two_pow_le (two_pow_mul hy.n hx.d) h2
  · rw [Int.natAbs_mul]; simpa using two_pow_mul hx.d hy.d
theorem okMul_of {x y : Rat} {a b c d : Nat} (hx : Bt x a b) (hy : Bt y c d) (h1 : a + c ≤ 1200) (h2 : b + d ≤ 1200) : okMul x y := by
  unfold okMul ab
  rw [Int.natAbs_mul, Int.natAbs_mul]
  exact ⟨lt1200 (two_pow_mul hx.n hy.n) h1, lt1200 (by simpa using two_pow_mul hx.d hy.d) h2⟩
theorem okDiv_of {x y : Rat} {a b c d : Nat} (hx : Bt x a b) (hy : Bt y c d) (h1 : a + d ≤ 1200) (h2 : b + c ≤ 1200) : okDiv x y := by
  unfold okDiv ab
  rw [Int.natAbs_mul, Int.natAbs_mul]
  exact ⟨lt1200 (by simpa using two_pow_mul hx.n hy.d) h1, lt1200 (by simpa using two_pow_mul hx.d hy.n) h2⟩
theorem okSub_of {x y : Rat} {a b c d m : Nat} (hx : Bt x a b) (hy : Bt y c d) (h1 : a + d ≤ m) (h2 : c + b ≤ m) (hm : m + 1 ≤ 1200) (h3 : b + d ≤ 1200) : okSub x y := by
  have e1 : (x.num * y.den).natAbs < 2 ^ m := by rw [Int.natAbs_mul]; simpa using two_pow_le (two_pow_mul hx.n hy.d) h1
  have e2 : (y.num * x.den).natAbs < 2 ^ m := by rw [Int.natAbs_mul]; simpa using two_pow_le (two_pow_mul hy.n hx.d) h2
  unfold okSub ab
  refine ⟨lt1200 e1 (by omega), lt1200 e2 (by omega), lt1200 (sub_bits e1 e2) hm, ?_⟩
  rw [Int.natAbs_mul]
  exact lt1200 (by simpa using two_pow_mul hx.d hy.d) h3
theorem Bt.more {x : Rat} {a b c d : Nat} (h : Bt x a b) (h1 : a ≤ c) (h2 : b ≤ d) : Bt x c d := ⟨two_pow_le h.n h1, two_pow_le h.d h2⟩
/-- A line whose numbers have at most p bits over q bits. -/
def BtL (a : List Rat) (p q : Nat) : Prop := ∀ k, k < a.length → Bt (a.getD k 0) p q
theorem mapO_some {F : Nat → Rat → Option Rat} {i : Nat} {xs : List Rat} (h : ∀ k, k < xs.length → ∃ q, F (i + k) (xs.getD k 0) = some q) : ∃ ys, mapO F i xs = some ys := by
  induction xs generalizing i with
  | nil => exact ⟨[], rfl⟩
  | cons x xs ih =>
    obtain ⟨q, hq⟩ := h 0 (by simp)
    obtain ⟨ys, hy⟩ := ih (i := i + 1) (fun k hk => by
      obtain ⟨q, hq⟩ := h (k + 1) (by simpa using hk)
      exact ⟨q, by rw [show i + 1 + k = i + (k + 1) by omega]; simpa using hq⟩)
    refine ⟨q :: ys, ?_⟩
    have hq' : F i x = some q := by simpa using hq
    rw [mapO, hq', hy]
    rfl
theorem mapR_some {F : Nat → List Rat → Option (List Rat)} {i : Nat} {xs : List (List Rat)} (h : ∀ k, k < xs.length → ∃ q, F (i + k) (xs.getD k []) = some q) : ∃ ys, mapR F i xs = some ys := by
  induction xs generalizing i with
  | nil => exact ⟨[], rfl⟩
  | cons x xs ih =>
    obtain ⟨q, hq⟩ := h 0 (by simp)
    obtain ⟨ys, hy⟩ := ih (i := i + 1) (fun k hk => by
      obtain ⟨q, hq⟩ := h (k + 1) (by simpa using hk)
      exact ⟨q, by rw [show i + 1 + k = i + (k + 1) by omega]; simpa using hq⟩)
    refine ⟨q :: ys, ?_⟩
    have hq' : F i x = some q := by simpa using hq
    rw [mapR, hq', hy]
    rfl
theorem divL_bits {y : Rat} {xs : List Rat} {a b : Nat} (hx : BtL xs a b) (hy : Bt y a b) (h0 : y ≠ 0) (h : a + b ≤ 1200) : ∃ ys, divL y xs = some ys ∧ BtL ys (a + b) (a + b) := by
  obtain ⟨ys, hys⟩ := mapO_some (F := fun _ x => oDiv x y) (i := 0) (xs := xs) (fun k hk => ⟨_, if_pos (okDiv_of (hx k hk) hy h (by omega))⟩)
  refine ⟨ys, hys, fun k hk => ?_⟩
  rw [mapO_length hys] at hk
  rw [divL_get hys hk]
  exact ((hx k hk).div hy h0).more (Nat.le_refl _) (by omega)
theorem subL_bits {y : Rat} {ps xs : List Rat} {a b e : Nat} (hx : BtL xs a b) (hy : Bt y a b) (hp : BtL ps e e) (hl : ps.length = xs.length) (h : a + b + e + 1 ≤ 1200) (h2 : b + (b + e) ≤ 1200) : ∃ ys, subL y ps xs = some ys ∧ BtL ys (a + b + e + 1) (b + (b + e)) := by
  have hm : ∀ k, k < xs.length → okMul y (ps.getD k 0) := fun k hk => okMul_of hy (hp k (by omega)) (by omega) (by omega)
  have hb : ∀ k, k < xs.length → Bt (y * ps.getD k 0) (a + e) (b + e) := fun k hk => hy.mul (hp k (by omega))
  have hs : ∀ k, k < xs.length → okSub (xs.getD k 0) (y * ps.getD k 0) := fun k hk => okSub_of (m := a + b + e) (hx k hk) (hb k hk) (by omega) (by omega) h h2
  obtain ⟨ys, hys⟩ := mapO_some (F := fun i x => (oMul y (ps.getD i 0)).bind (oSub x)) (i := 0) (xs := xs) (fun k hk => ⟨xs.getD k 0 - y * ps.getD k 0, by
    rw [Nat.zero_add, oMul_yes (hm k hk), Option.bind_some, oSub_yes (hs k hk)]⟩)
  refine ⟨ys, hys, fun k hk => ?_⟩
  rw [mapO_length hys] at hk
  rw [subL_get hys hk]
  exact Bt.sub (hx k hk) (hb k hk) (by omega) (by omega)
/-- A step does not fail, and how great the numbers are after it: P, Q of the lines that had a pivot, U, V of the others. -/
theorem elimS_bits {X : List (List Rat)} {r c n P Q U V : Nat} (hl : LenA n X) (hr : r < X.length) (hc : c < n) (hp : ∀ k, k < r → BtL (X.getD k []) P Q) (hu : ∀ k, r ≤ k → k < X.length → BtL (X.getD k []) U V)
    (h1 : P + Q + (U + V) + 1 ≤ 1200) (h2 : Q + (Q + (U + V)) ≤ 1200) (h3 : r + 1 < X.length → U + V + (U + V) + 1 ≤ 1200 ∧ V + (V + (U + V)) ≤ 1200) (h4 : U + V ≤ 1200) :
    ∃ b Y, elimS X r c = some (b, Y) ∧ (b = true → (∀ k, k < r → BtL (Y.getD k []) (P + Q + (U + V) + 1) (Q + (Q + (U + V)))) ∧ BtL (Y.getD r []) (U + V) (U + V) ∧
      ∀ k, r < k → k < X.length → BtL (Y.getD k []) (U + V + (U + V) + 1) (V + (V + (U + V)))) := by
  cases hf : firstNZ X c r (X.length - r) with
  | none => exact ⟨false, X, by unfold elimS; rw [hf], fun h => by cases h⟩
  | some q =>
    obtain ⟨hq1, hq2, hq3⟩ := firstNZ_lt hf
    have hqX : q < X.length := by omega
    have hpr : place r q r = q := by
      unfold place
      split
      · assumption
      · rw [if_pos rfl]
    have hrow : (swapR [] X r q).getD r [] = X.getD q [] := by rw [swapR_getD _ _ hr hqX, hpr]
    have hbq := hu q hq1 hqX
    obtain ⟨p, hd, hbp⟩ := divL_bits hbq (hbq c (by rw [hl q hqX]; omega)) hq3 h4
    have hsw : ∀ k, k < X.length → k ≠ r → (k < r → BtL ((swapR [] X r q).getD k []) P Q) ∧ (r < k → BtL ((swapR [] X r q).getD k []) U V) := fun k hk hkr => by
      rw [swapR_getD _ _ hr hqX]
      refine ⟨fun h => ?_, fun h => ?_⟩
      · have : place r q k = k := by unfold place; rw [if_neg (by omega), if_neg hkr]
        rw [this]; exact hp k h
      · exact hu _ (by unfold place; split <;> (try split) <;> omega) (place_lt hr hqX hk)
    have hsl : ∀ k, k < X.length → ((swapR [] X r q).getD k []).length = n + 1 := fun k hk => by rw [swapR_getD _ _ hr hqX]; exact hl _ (place_lt hr hqX hk)
    have hpl : p.length = n + 1 := by rw [mapO_length hd]; exact hl q hqX
    have hred : ∀ k, k < X.length → ∃ z, redG p r c k (((swapR [] X r q).set r p).getD k []) = some z ∧ (k < r → BtL z (P + Q + (U + V) + 1) (Q + (Q + (U + V)))) ∧ (k = r → BtL z (U + V) (U + V)) ∧ (r < k → BtL z (U + V + (U + V) + 1) (V + (V + (U + V)))) := fun k hk => by
      by_cases hkr : k = r
      · subst hkr
        rw [getD_set_self (by rw [swapR_length]; exact hr)]
        exact ⟨p, by unfold redG; rw [if_pos (.inl rfl)], fun h => by omega, fun _ => hbp, fun h => by omega⟩
      · rw [getD_set_ne (Ne.symm hkr)]
        obtain ⟨b1, b2⟩ := hsw k hk hkr
        unfold redG
        by_cases hz : ((swapR [] X r q).getD k []).getD c 0 = 0
        · rw [if_pos (.inr hz)]
          exact ⟨_, rfl, fun h j hj => (b1 h j hj).more (by omega) (by omega), fun h => absurd h hkr, fun h j hj => (b2 h j hj).more (by omega) (by omega)⟩
        · rw [if_neg (by rintro (e | e); exact hkr e; exact hz e)]
          by_cases hlt : k < r
          · obtain ⟨z, hz1, hz2⟩ := subL_bits (b1 hlt) (b1 hlt c (by rw [hsl k hk]; omega)) hbp (by rw [hpl, hsl k hk]) h1 h2
            exact ⟨z, hz1, fun _ => hz2, fun h => absurd h hkr, fun h => by omega⟩
          · obtain ⟨z, hz1, hz2⟩ := subL_bits (b2 (by omega)) (b2 (by omega) c (by rw [hsl k hk]; omega)) hbp (by rw [hpl, hsl k hk]) (h3 (by omega)).1 (h3 (by omega)).2
            exact ⟨z, hz1, fun h => absurd h hlt, fun h => absurd h hkr, fun _ => hz2⟩
    obtain ⟨Y, hY⟩ := mapR_some (F := redG p r c) (i := 0) (xs := (swapR [] X r q).set r p) (fun k hk => by
      rw [List.length_set, swapR_length] at hk
      obtain ⟨z, hz, _⟩ := hred k hk
      exact ⟨z, by rw [Nat.zero_add]; exact hz⟩)
    have hg : ∀ k, k < X.length → (k < r → BtL (Y.getD k []) (P + Q + (U + V) + 1) (Q + (Q + (U + V)))) ∧ (k = r → BtL (Y.getD k []) (U + V) (U + V)) ∧ (r < k → BtL (Y.getD k []) (U + V + (U + V) + 1) (V + (V + (U + V)))) := fun k hk => by
      obtain ⟨z, hz, h⟩ := hred k hk
      have := mapR_get hY k (by rw [List.length_set, swapR_length]; exact hk)
      rw [Nat.zero_add, hz] at this
      injection this with this
      rw [← this]; exact h
    refine ⟨true, Y, ?_, fun _ => ⟨fun k hk => (hg k (by omega)).1 hk, (hg r hr).2.1 rfl, fun k hk hkX => (hg k hkX).2.2 hk⟩⟩
    unfold elimS
    rw [hf]
    simp only
    rw [hrow, hd, Option.bind_some, hY]
    rfl

end Go.Proofs.Ytlbjaimgoiimgaa

namespace Go.Proofs.Ytlbjaimgoiimgaa

/-- How great the numbers are after r pivots. -/
def BitS (X : List (List Rat)) (r : Nat) : Prop :=
  (r = 0 → ∀ k, k < X.length → BtL (X.getD k []) 20 20) ∧
  (r = 1 → (∀ k, k < 1 → BtL (X.getD k []) 40 40) ∧ ∀ k, 1 ≤ k → k < X.length → BtL (X.getD k []) 81 80) ∧
  (r = 2 → (∀ k, k < 2 → BtL (X.getD k []) 242 241) ∧ ∀ k, 2 ≤ k → k < X.length → BtL (X.getD k []) 323 321)
theorem BtL.more {a : List Rat} {p q p' q' : Nat} (h : BtL a p q) (h1 : p ≤ p') (h2 : q ≤ q') : BtL a p' q' := fun k hk => (h k hk).more h1 h2
theorem elimS_ok {X : List (List Rat)} {n r c : Nat} (hl : LenA n X) (hX : X.length = n) (hn : n ≤ 3) (hrc : r ≤ c) (hc : c < n) (hb : BitS X r) : ∃ b Y, elimS X r c = some (b, Y) ∧ BitS Y (if b then r + 1 else r) := by
  have hr : r < X.length := by omega
  have hcase : r = 0 ∨ r = 1 ∨ r = 2 := by omega
  have key : ∃ b Y, elimS X r c = some (b, Y) ∧ (b = true → BitS Y (r + 1)) := by
    rcases hcase with rfl | rfl | rfl
    · obtain ⟨b, Y, h, hY⟩ := elimS_bits (P := 0) (Q := 0) (U := 20) (V := 20) hl hr hc (fun k hk => by omega) (fun k _ hk => hb.1 rfl k hk) (by decide) (by decide) (fun _ => by decide) (by decide)
      refine ⟨b, Y, h, fun hbt => ?_⟩
      obtain ⟨_, y2, y3⟩ := hY hbt
      have hlen := (elimS_len h hl hr).1
      refine ⟨fun e => by omega, fun _ => ⟨fun k hk => ?_, fun k h1 h2 => y3 k (by omega) (by omega)⟩, fun e => by omega⟩
      have : k = 0 := by omega
      subst this
      exact y2
    · obtain ⟨b, Y, h, hY⟩ := elimS_bits (P := 40) (Q := 40) (U := 81) (V := 80) hl hr hc (fun k hk => (hb.2.1 rfl).1 k hk) (fun k h1 hk => (hb.2.1 rfl).2 k h1 hk) (by decide) (by decide) (fun _ => by decide) (by decide)
      refine ⟨b, Y, h, fun hbt => ?_⟩
      obtain ⟨y1, y2, y3⟩ := hY hbt
      have hlen := (elimS_len h hl hr).1
      refine ⟨fun e => by omega, fun e => by omega, fun _ => ⟨fun k hk => ?_, fun k h1 h2 => y3 k (by omega) (by omega)⟩⟩
      by_cases hk0 : k < 1
      · exact y1 k hk0
      · have : k = 1 := by omega
        subst this
        exact y2.more (by decide) (by decide)
    · obtain ⟨b, Y, h, hY⟩ := elimS_bits (P := 242) (Q := 241) (U := 323) (V := 321) hl hr hc (fun k hk => (hb.2.2 rfl).1 k hk) (fun k h1 hk => (hb.2.2 rfl).2 k h1 hk) (by decide) (by decide) (fun h => by omega) (by decide)
      exact ⟨b, Y, h, fun _ => ⟨fun e => by omega, fun e => by omega, fun e => by omega⟩⟩
  obtain ⟨b, Y, h, hY⟩ := key
  refine ⟨b, Y, h, ?_⟩
  cases b with
  | true => exact hY rfl
  | false =>
    rcases elimS_parts h with ⟨_, rfl, _⟩ | ⟨e, _⟩
    · exact hb
    · cases e
theorem runFree_ok {m c n : Nat} {X : List (List Rat)} (hl : LenA n X) (hX : X.length = n) (hn : n ≤ 3) (hcm : c + m = n) (hb : BitS X c) : ∃ k Y, runFree m c X = some (k, Y) := by
  induction m generalizing c X with
  | zero => exact ⟨c, X, rfl⟩
  | succ m ih =>
    obtain ⟨b, Y, h, hY⟩ := elimS_ok hl hX hn (Nat.le_refl c) (by omega) hb
    have hlen := elimS_len h hl (by omega)
    rw [runFree, h]
    cases b with
    | false => exact ⟨c, Y, rfl⟩
    | true => exact ih hlen.2 (by rw [hlen.1]; exact hX) (by omega) hY
theorem runRank_ok {m c p n : Nat} {X : List (List Rat)} (hl : LenA n X) (hX : X.length = n) (hn : n ≤ 3) (hcm : c + m = n) (hp : p ≤ c) (hb : BitS X p) : ∃ k, runRank m c p X = some k ∧ k ≤ n := by
  induction m generalizing c p X with
  | zero => exact ⟨p, rfl, by omega⟩
  | succ m ih =>
    obtain ⟨b, Y, h, hY⟩ := elimS_ok hl hX hn hp (by omega) hb
    have hlen := elimS_len h hl (by omega)
    rw [runRank, h]
    exact ih hlen.2 (by rw [hlen.1]; exact hX) (by omega) (by cases b <;> simp <;> omega) hY

end Go.Proofs.Ytlbjaimgoiimgaa

namespace Go.Proofs.Ytlbjaimgoiimgaa

theorem dotN_ext {a b : List Rat} {x : Nat → Rat} {n : Nat} (h : ∀ k, k < n → a.getD k 0 = b.getD k 0) : dotN a x n = dotN b x n := by
  induction n with
  | zero => rfl
  | succ n ih => rw [dotN, dotN, ih (fun k hk => h k (by omega)), h n (by omega)]
theorem dotN_scale {a b : List Rat} {x : Nat → Rat} {f : Rat} {n : Nat} (h : ∀ k, k < n → b.getD k 0 = a.getD k 0 * f) : dotN b x n = dotN a x n * f := by
  induction n with
  | zero => simp only [dotN]; grind
  | succ n ih => rw [dotN, dotN, ih (fun k hk => h k (by omega)), h n (by omega)]; grind
theorem dotN_add {a b c : List Rat} {x : Nat → Rat} {n : Nat} (h : ∀ k, k < n → c.getD k 0 = a.getD k 0 + b.getD k 0) : dotN c x n = dotN a x n + dotN b x n := by
  induction n with
  | zero => simp only [dotN]; grind
  | succ n ih => rw [dotN, dotN, dotN, ih (fun k hk => h k (by omega)), h n (by omega)]; grind
theorem dotN_sum {a : List Rat} {x y : Nat → Rat} {n : Nat} : dotN a (fun k => x k + y k) n = dotN a x n + dotN a y n := by
  induction n with
  | zero => simp only [dotN]; grind
  | succ n ih => rw [dotN, dotN, dotN, ih]; grind
/-- With a line multiplied the solutions are the same. -/
theorem scale_sol {t f : Rat} {n i : Nat} {x : Nat → Rat} {X : List (List Rat)} {b : List Rat} (hf : f ≠ 0) (hb : ∀ k, k < n + 1 → b.getD k 0 = (X.getD i []).getD k 0 * f) : SolA t n x X ↔ SolA t n x (X.set i b) := by
  have h1 : SolL t n x (X.getD i []) ↔ SolL t n x b := by
    unfold SolL
    rw [dotN_scale (fun k hk => hb k (by omega)), hb n (by omega)]
    constructor
    · intro e; rw [e]; grind
    · intro e; grind
  constructor
  · intro h k hk
    rw [List.length_set] at hk
    by_cases hki : i = k
    · subst hki; rw [getD_set_self hk]; exact h1.1 (h i hk)
    · rw [getD_set_ne hki]; exact h k hk
  · intro h k hk
    have := h k (by rw [List.length_set]; exact hk)
    by_cases hki : i = k
    · subst hki; rw [getD_set_self hk] at this; exact h1.2 this
    · rwa [getD_set_ne hki] at this
/-- With one line added to another one the solutions are the same. -/
theorem added_sol {t : Rat} {n i j : Nat} {x : Nat → Rat} {X : List (List Rat)} {b : List Rat} (hj : j < X.length) (hij : i ≠ j) (hb : ∀ k, k < n + 1 → b.getD k 0 = (X.getD i []).getD k 0 + (X.getD j []).getD k 0) :
    SolA t n x X ↔ SolA t n x (X.set i b) := by
  have h1 : SolL t n x (X.getD j []) → (SolL t n x (X.getD i []) ↔ SolL t n x b) := by
    unfold SolL
    intro hj
    rw [dotN_add (fun k hk => hb k (by omega)), hb n (by omega), hj]
    constructor <;> intro e <;> grind
  constructor
  · intro h k hk
    rw [List.length_set] at hk
    by_cases hki : i = k
    · subst hki; rw [getD_set_self hk]; exact (h1 (h j hj)).1 (h i hk)
    · rw [getD_set_ne hki]; exact h k hk
  · intro h k hk
    have hjs := h j (by rw [List.length_set]; exact hj)
    rw [getD_set_ne hij] at hjs
    have := h k (by rw [List.length_set]; exact hk)
    by_cases hki : i = k
    · subst hki; rw [getD_set_self hk] at this; exact (h1 hjs).2 this
    · rwa [getD_set_ne hki] at this
/-- The same elements, other values. -/
def SameA (n : Nat) (X X' : List (List Rat)) : Prop := X.length = X'.length ∧ ∀ k, k < X.length → ∀ j, j < n → (X.getD k []).getD j 0 = (X'.getD k []).getD j 0
theorem SameA.zero {n : Nat} {X X' : List (List Rat)} (h : SameA n X X') (x : Nat → Rat) : SolA 0 n x X ↔ SolA 0 n x X' := by
  have hz : ∀ a : List Rat, SolL 0 n x a ↔ dotN a x n = 0 := fun a => by
    unfold SolL
    constructor <;> intro e <;> grind
  constructor
  · intro hs k hk
    rw [hz, ← dotN_ext (h.2 k (by rw [h.1]; exact hk)), ← hz]
    exact hs k (by rw [h.1]; exact hk)
  · intro hs k hk
    rw [hz, dotN_ext (h.2 k hk), ← hz]
    exact hs k (by rw [← h.1]; exact hk)
/-- Whether there is one solution does not depend on the values. -/
theorem SameA.free {n k k' : Nat} {X Y X' Y' : List (List Rat)} (hs : SameA n X X') (h : runFree n 0 X = some (k, Y)) (h' : runFree n 0 X' = some (k', Y')) (hl : LenA n X) (hX : X.length = n) (hl' : LenA n X') (hX' : X'.length = n) (hk : k = n) : k' = n := by
  subst hk
  have hle := (runFree_sol h' hl' hX' (by omega) (fun j hj => by omega)).2.2.2
  by_cases hlt : k' < k
  · have h1 := (hs.zero _).2 (runFree_ker h' hlt hl' hX')
    have h2 := (runFree_one h hl hX 0 _).1 h1 k' hlt
    have h3 : kerV Y' k' k' = 1 := if_pos rfl
    rw [h3] at h2
    grind
  · omega
/-- The solution for sums of values is the sum of the solutions. -/
theorem sums_sol {n : Nat} {X Y X' Y' Z W : List (List Rat)} (h1 : SameA n X Z) (h2 : SameA n X' Z) (hv : ∀ k, k < n → (Z.getD k []).getD n 0 = (X.getD k []).getD n 0 + (X'.getD k []).getD n 0)
    (h : runFree n 0 X = some (n, Y)) (h' : runFree n 0 X' = some (n, Y')) (hz : runFree n 0 Z = some (n, W)) (hl : LenA n X) (hX : X.length = n) (hl' : LenA n X') (hX' : X'.length = n) (hlz : LenA n Z) (hZ : Z.length = n) :
    ∀ j, j < n → (W.getD j []).getD n 0 = (Y.getD j []).getD n 0 + (Y'.getD j []).getD n 0 := by
  have e1 := (runFree_one h hl hX 1 (fun j => 1 * (Y.getD j []).getD n 0)).2 (fun _ _ => rfl)
  have e2 := (runFree_one h' hl' hX' 1 (fun j => 1 * (Y'.getD j []).getD n 0)).2 (fun _ _ => rfl)
  have e3 : SolA 1 n (fun j => 1 * (Y.getD j []).getD n 0 + 1 * (Y'.getD j []).getD n 0) Z := fun k hk => by
    have g1 := e1 k (by omega)
    have g2 := e2 k (by omega)
    unfold SolL at *
    rw [dotN_sum, ← dotN_ext (h1.2 k (by omega)), g1, ← dotN_ext (h2.2 k (by omega)), g2, hv k (by omega)]
    grind
  have e4 := (runFree_one hz hlz hZ 1 _).1 e3
  intro j hj
  have := e4 j hj
  grind
/-- With the values 0 the solution is 0. -/
theorem zero_sol {n : Nat} {X Y : List (List Rat)} (h : runFree n 0 X = some (n, Y)) (hl : LenA n X) (hX : X.length = n) (hv : ∀ k, k < n → (X.getD k []).getD n 0 = 0) : ∀ j, j < n → (Y.getD j []).getD n 0 = 0 := by
  have e : SolA 1 n (fun _ => 0) X := fun k hk => by
    unfold SolL
    rw [dotN_more (m := 0) (Nat.zero_le _) (fun _ _ _ => rfl), hv k (by omega)]
    simp only [dotN]
    grind
  have h1 := (runFree_one h hl hX 1 _).1 e
  intro j hj
  have := h1 j hj
  grind

end Go.Proofs.Ytlbjaimgoiimgaa

namespace Go.Proofs.Ytlbjaimgoiimgaa

def det3 (a b c d e f g h i : Rat) : Rat := a * (e * i - f * h) - b * (d * i - f * g) + c * (d * h - e * g)
def det3I (a b c d e f g h i : Int) : Int := a * (e * i - f * h) - b * (d * i - f * g) + c * (d * h - e * g)
theorem cramer1 {a b c d e f g h i u v w x y z : Rat} (e1 : a * x + b * y + c * z = u) (e2 : d * x + e * y + f * z = v) (e3 : g * x + h * y + i * z = w) : x * det3 a b c d e f g h i = det3 u b c v e f w h i := by
  unfold det3; subst e1 e2 e3; grind
theorem cramer2 {a b c d e f g h i u v w x y z : Rat} (e1 : a * x + b * y + c * z = u) (e2 : d * x + e * y + f * z = v) (e3 : g * x + h * y + i * z = w) : y * det3 a b c d e f g h i = det3 a u c d v f g w i := by
  unfold det3; subst e1 e2 e3; grind
theorem cramer3 {a b c d e f g h i u v w x y z : Rat} (e1 : a * x + b * y + c * z = u) (e2 : d * x + e * y + f * z = v) (e3 : g * x + h * y + i * z = w) : z * det3 a b c d e f g h i = det3 a b u d e v g h w := by
  unfold det3; subst e1 e2 e3; grind
/-- With a solution for each unit value the determinant is not 0. -/
theorem det_ne {a b c d e f g h i p1 p2 p3 q1 q2 q3 r1 r2 r3 : Rat}
    (p : a * p1 + b * p2 + c * p3 = 1) (p' : d * p1 + e * p2 + f * p3 = 0)
    (q : a * q1 + b * q2 + c * q3 = 0) (q' : d * q1 + e * q2 + f * q3 = 1)
    (r : a * r1 + b * r2 + c * r3 = 0) (r' : d * r1 + e * r2 + f * r3 = 0) (r'' : g * r1 + h * r2 + i * r3 = 1) : det3 a b c d e f g h i ≠ 0 := fun h0 => by
  have m1 : b * d = a * e := by
    have := cramer3 r r' r''
    rw [h0] at this; unfold det3 at this; grind
  have m2 : c * d = a * f := by
    have := cramer2 r r' r''
    rw [h0] at this; unfold det3 at this; grind
  have m3 : c * e = b * f := by
    have := cramer1 r r' r''
    rw [h0] at this; unfold det3 at this; grind
  have k1 : d = 0 := by
    have e1 : d * (a * p1 + b * p2 + c * p3) = a * (d * p1 + e * p2 + f * p3) := by grind
    rw [p, p'] at e1; grind
  have k2 : e = 0 := by
    have e1 : e * (a * p1 + b * p2 + c * p3) = b * (d * p1 + e * p2 + f * p3) := by grind
    rw [p, p'] at e1; grind
  have k3 : f = 0 := by
    have e1 : f * (a * p1 + b * p2 + c * p3) = c * (d * p1 + e * p2 + f * p3) := by grind
    rw [p, p'] at e1; grind
  rw [k1, k2, k3] at q'
  grind
theorem det3_scale {a b c d e f g h i s t u : Rat} : det3 (a * s) (b * s) (c * s) (d * t) (e * t) (f * t) (g * u) (h * u) (i * u) = det3 a b c d e f g h i * (s * t * u) := by
  unfold det3; grind
theorem det3I_cast (a b c d e f g h i : Int) : ((det3I a b c d e f g h i : Int) : Rat) = det3 a b c d e f g h i := by
  unfold det3I det3
  simp only [Rat.intCast_mul, Rat.intCast_sub, Rat.intCast_add]
theorem mul3_bits {a b c : Int} {p : Nat} (ha : a.natAbs < 2 ^ p) (hb : b.natAbs < 2 ^ p) (hc : c.natAbs < 2 ^ p) : (a * (b * c)).natAbs < 2 ^ (p + (p + p)) := by
  rw [Int.natAbs_mul, Int.natAbs_mul]
  exact two_pow_mul ha (two_pow_mul hb hc)
theorem det3I_bits {a b c d e f g h i : Int} {p : Nat} (ha : a.natAbs < 2 ^ p) (hb : b.natAbs < 2 ^ p) (hc : c.natAbs < 2 ^ p) (hd : d.natAbs < 2 ^ p) (he : e.natAbs < 2 ^ p) (hf : f.natAbs < 2 ^ p) (hg : g.natAbs < 2 ^ p) (hh : h.natAbs < 2 ^ p) (hi : i.natAbs < 2 ^ p) :
    (det3I a b c d e f g h i).natAbs < 2 ^ (p + (p + p) + 3) := by
  have e1 := mul3_bits ha he hi
  have e2 := mul3_bits ha hf hh
  have e3 := mul3_bits hb hd hi
  have e4 := mul3_bits hb hf hg
  have e5 := mul3_bits hc hd hh
  have e6 := mul3_bits hc he hg
  have e : det3I a b c d e f g h i = a * (e * i) - a * (f * h) - (b * (d * i) - b * (f * g)) + (c * (d * h) - c * (e * g)) := by
    unfold det3I; simp only [Int.mul_sub]
  rw [e, Nat.pow_add]
  omega
/-- A number that is a quotient of two integers. -/
theorem bt_quot {x : Rat} {u v : Int} {p : Nat} (hv : v ≠ 0) (h : x * (v : Rat) = (u : Rat)) (hu : u.natAbs < 2 ^ p) (hv2 : v.natAbs < 2 ^ p) : Bt x p p := by
  have hvr : (v : Rat) ≠ 0 := fun e => hv (Rat.intCast_eq_zero_iff.1 e)
  have e : x = Rat.divInt u v := by
    rw [Rat.divInt_eq_div]
    grind
  rw [e]
  exact ⟨Nat.lt_of_le_of_lt (num_small _ _) hu, Nat.lt_of_le_of_lt (den_small hv) hv2⟩

end Go.Proofs.Ytlbjaimgoiimgaa

namespace Go.Proofs.Ytlbjaimgoiimgaa

theorem add_bits {u v : Int} {p : Nat} (hu : u.natAbs < 2 ^ p) (hv : v.natAbs < 2 ^ p) : (u + v).natAbs < 2 ^ (p + 1) := by
  rw [Nat.pow_succ]
  omega
theorem Bt.add {x y : Rat} {a b c d m : Nat} (hx : Bt x a b) (hy : Bt y c d) (h1 : a + d ≤ m) (h2 : c + b ≤ m) : Bt (x + y) (m + 1) (b + d) := by
  rw [← rat_add]
  refine ⟨Nat.lt_of_le_of_lt (num_small _ _) (add_bits ?_ ?_), Nat.lt_of_le_of_lt (den_small (den2_ne x y)) ?_⟩
  · rw [Int.natAbs_mul]; simpa using two_pow_le (two_pow_mul hx.n hy.d) h1
  · rw [Int.natAbs_mul]; simpa using two_pow_le (two_pow_mul hy.n hx.d) h2
  · rw [Int.natAbs_mul]; simpa using two_pow_mul hx.d hy.d
theorem okAdd_of {x y : Rat} {a b c d m : Nat} (hx : Bt x a b) (hy : Bt y c d) (h1 : a + d ≤ m) (h2 : c + b ≤ m) (hm : m + 1 ≤ 1200) (h3 : b + d ≤ 1200) : okAdd x y := by
  have e1 : (x.num * y.den).natAbs < 2 ^ m := by rw [Int.natAbs_mul]; simpa using two_pow_le (two_pow_mul hx.n hy.d) h1
  have e2 : (y.num * x.den).natAbs < 2 ^ m := by rw [Int.natAbs_mul]; simpa using two_pow_le (two_pow_mul hy.n hx.d) h2
  unfold okAdd ab
  refine ⟨lt1200 e1 (by omega), lt1200 e2 (by omega), lt1200 (add_bits e1 e2) hm, ?_⟩
  rw [Int.natAbs_mul]
  exact lt1200 (by simpa using two_pow_mul hx.d hy.d) h3
/-- The sum of products has room where the factors are small. -/
theorem sumTo_ok {us xs : List Rat} {n : Nat} (hn : n ≤ 4) (hu : ∀ k, k < n → Bt (us.getD k 0) 20 20) (hx : ∀ k, k < n → Bt (xs.getD k 0) 243 243) : sumTo us xs n = some (dotN us (fun k => xs.getD k 0) n) ∧ Bt (dotN us (fun k => xs.getD k 0) n) (1 + 264 * n) (1 + 264 * n) := by
  induction n with
  | zero => exact ⟨rfl, (show Bt 0 1 1 from ⟨by decide, by decide⟩)⟩
  | succ n ih =>
    obtain ⟨h1, h2⟩ := ih (by omega) (fun k hk => hu k (by omega)) (fun k hk => hx k (by omega))
    have hp := (hu n (by omega)).mul (hx n (by omega))
    rw [sumTo, h1, Option.bind_some, oMul_yes (okMul_of (hu n (by omega)) (hx n (by omega)) (by decide) (by decide)), Option.bind_some,
      oAdd_yes (okAdd_of (m := 1 + 264 * n + 263) h2 hp (by omega) (by omega) (by omega) (by omega))]
    exact ⟨rfl, (Bt.add (m := 1 + 264 * n + 263) h2 hp (by omega) (by omega)).more (by omega) (by omega)⟩
/-- A row of integers over one denominator. -/
theorem row_ints {a b c u : Rat} (ha : Bt a 20 20) (hb : Bt b 20 20) (hc : Bt c 20 20) (hu : Bt u 20 20) : ∃ (s A B C U : Int), s ≠ 0 ∧ (A : Rat) = a * s ∧ (B : Rat) = b * s ∧ (C : Rat) = c * s ∧ (U : Rat) = u * s ∧
    A.natAbs < 2 ^ 80 ∧ B.natAbs < 2 ^ 80 ∧ C.natAbs < 2 ^ 80 ∧ U.natAbs < 2 ^ 80 := by
  have hq : ∀ x : Rat, ((x.num : Int) : Rat) = x * ((x.den : Int) : Rat) := fun x => by
    have h := Rat.num_divInt_den x
    rw [Rat.divInt_eq_div] at h
    have hd : ((x.den : Int) : Rat) ≠ 0 := fun e => den_ne x (Rat.intCast_eq_zero_iff.1 e)
    grind
  have hm : ∀ {p q r t : Nat}, p < 2 ^ 20 → q < 2 ^ 20 → r < 2 ^ 20 → t < 2 ^ 20 → p * (q * (r * t)) < 2 ^ 80 := fun h1 h2 h3 h4 => two_pow_mul h1 (two_pow_mul h2 (two_pow_mul h3 h4))
  refine ⟨(a.den : Int) * ((b.den : Int) * ((c.den : Int) * (u.den : Int))), a.num * ((b.den : Int) * ((c.den : Int) * (u.den : Int))), b.num * ((a.den : Int) * ((c.den : Int) * (u.den : Int))), c.num * ((a.den : Int) * ((b.den : Int) * (u.den : Int))), u.num * ((a.den : Int) * ((b.den : Int) * (c.den : Int))), ?_, ?_, ?_, ?_, ?_, ?_, ?_, ?_, ?_⟩
  · exact Int.mul_ne_zero (den_ne a) (Int.mul_ne_zero (den_ne b) (Int.mul_ne_zero (den_ne c) (den_ne u)))
  · simp only [Rat.intCast_mul]; rw [hq a]; grind
  · simp only [Rat.intCast_mul]; rw [hq b]; grind
  · simp only [Rat.intCast_mul]; rw [hq c]; grind
  · simp only [Rat.intCast_mul]; rw [hq u]; grind
  · rw [Int.natAbs_mul, Int.natAbs_mul, Int.natAbs_mul]; simpa using hm ha.n hb.d hc.d hu.d
  · rw [Int.natAbs_mul, Int.natAbs_mul, Int.natAbs_mul]; simpa using hm hb.n ha.d hc.d hu.d
  · rw [Int.natAbs_mul, Int.natAbs_mul, Int.natAbs_mul]; simpa using hm hc.n ha.d hb.d hu.d
  · rw [Int.natAbs_mul, Int.natAbs_mul, Int.natAbs_mul]; simpa using hm hu.n ha.d hb.d hc.d
/-- A solution of three small equations whose determinant is not 0 is small. -/
theorem sol3_bits {a b c d e f g h i u v w x y z : Rat} (ha : Bt a 20 20) (hb : Bt b 20 20) (hc : Bt c 20 20) (hd : Bt d 20 20) (he : Bt e 20 20) (hf : Bt f 20 20) (hg : Bt g 20 20) (hh : Bt h 20 20) (hi : Bt i 20 20) (hu : Bt u 20 20) (hv : Bt v 20 20) (hw : Bt w 20 20)
    (e1 : a * x + b * y + c * z = u) (e2 : d * x + e * y + f * z = v) (e3 : g * x + h * y + i * z = w) (hn : det3 a b c d e f g h i ≠ 0) : Bt x 243 243 ∧ Bt y 243 243 ∧ Bt z 243 243 := by
  obtain ⟨s, A, B, C, U, s0, qa, qb, qc, qu, na, nb, nc, nu⟩ := row_ints ha hb hc hu
  obtain ⟨t, D, E, F, V, t0, qd, qe, qf, qv, nd, ne, nf, nv⟩ := row_ints hd he hf hv
  obtain ⟨r, G, H, I, W, r0, qg, qh, qi, qw, ng, nh, ni, nw⟩ := row_ints hg hh hi hw
  have f1 : (A : Rat) * x + B * y + C * z = U := by rw [qa, qb, qc, qu]; grind
  have f2 : (D : Rat) * x + E * y + F * z = V := by rw [qd, qe, qf, qv]; grind
  have f3 : (G : Rat) * x + H * y + I * z = W := by rw [qg, qh, qi, qw]; grind
  have hdet : det3I A B C D E F G H I ≠ 0 := fun e0 => by
    have h1 := det3I_cast A B C D E F G H I
    rw [e0, qa, qb, qc, qd, qe, qf, qg, qh, qi, det3_scale] at h1
    have z1 : (s : Rat) ≠ 0 := fun e => s0 (Rat.intCast_eq_zero_iff.1 e)
    have z2 : (t : Rat) ≠ 0 := fun e => t0 (Rat.intCast_eq_zero_iff.1 e)
    have z3 : (r : Rat) ≠ 0 := fun e => r0 (Rat.intCast_eq_zero_iff.1 e)
    have h2 : ((0 : Int) : Rat) = 0 := rfl
    rw [h2] at h1
    rcases Rat.mul_eq_zero.1 h1.symm with h4 | h4
    · exact hn h4
    · rcases Rat.mul_eq_zero.1 h4 with h4 | h4
      · rcases Rat.mul_eq_zero.1 h4 with h4 | h4
        · exact z1 h4
        · exact z2 h4
      · exact z3 h4
  have hb0 := det3I_bits na nb nc nd ne nf ng nh ni
  refine ⟨bt_quot hdet ?_ (det3I_bits nu nb nc nv ne nf nw nh ni) hb0, bt_quot hdet ?_ (det3I_bits na nu nc nd nv nf ng nw ni) hb0, bt_quot hdet ?_ (det3I_bits na nb nu nd ne nv ng nh nw) hb0⟩
  · rw [det3I_cast, det3I_cast]; exact cramer1 f1 f2 f3
  · rw [det3I_cast, det3I_cast]; exact cramer2 f1 f2 f3
  · rw [det3I_cast, det3I_cast]; exact cramer3 f1 f2 f3

end Go.Proofs.Ytlbjaimgoiimgaa

namespace Go.Proofs.Ytlbjaimgoiimgaa

/-- A system of at most three unknowns, made one of three. -/
def el (X : List (List Rat)) (n i j : Nat) : Rat := if i < n ∧ j < n then (X.getD i []).getD j 0 else if i = j then 1 else 0
def px (x : Nat → Rat) (n k : Nat) : Rat := if k < n then x k else 0
theorem pad_dot {X : List (List Rat)} {x : Nat → Rat} {n i : Nat} (hn : n ≤ 3) (hi : i < n) : el X n i 0 * px x n 0 + el X n i 1 * px x n 1 + el X n i 2 * px x n 2 = dotN (X.getD i []) x n := by
  have : n = 1 ∨ n = 2 ∨ n = 3 := by omega
  rcases this with rfl | rfl | rfl
  · simp only [dotN, el, px, hi, true_and, Nat.lt_irrefl, if_false, show (0 : Nat) < 1 by decide, show ¬ (2 : Nat) < 1 by decide, if_true]
    grind
  · simp only [dotN, el, px, hi, true_and, Nat.lt_irrefl, if_false, show (0 : Nat) < 2 by decide, show (1 : Nat) < 2 by decide, if_true]
    grind
  · simp only [dotN, el, px, hi, true_and, show (0 : Nat) < 3 by decide, show (1 : Nat) < 3 by decide, show (2 : Nat) < 3 by decide, if_true]
    grind
theorem pad_id {X : List (List Rat)} {y : Nat → Rat} {n i : Nat} (hi : n ≤ i) (h3 : i < 3) : el X n i 0 * y 0 + el X n i 1 * y 1 + el X n i 2 * y 2 = y i := by
  have : i = 0 ∨ i = 1 ∨ i = 2 := by omega
  have hlt : ¬ i < n := by omega
  rcases this with rfl | rfl | rfl
  · simp [el, hlt]; grind
  · simp [el, hlt]; grind
  · simp [el, hlt]; grind
/-- The system with 1 as the value j, and 0 as the others. -/
def unitX (X : List (List Rat)) (n j : Nat) : List (List Rat) := (List.range n).map fun k => (X.getD k []).take n ++ [if k = j then 1 else 0]
theorem unitX_get {X : List (List Rat)} {n j k : Nat} (hk : k < n) : (unitX X n j).getD k [] = (X.getD k []).take n ++ [if k = j then 1 else 0] := by
  unfold unitX
  rw [List.getD_eq_getElem?_getD, List.getElem?_map, List.getElem?_range hk]
  rfl
theorem unitX_facts {X : List (List Rat)} {n j : Nat} (hl : LenA n X) (hX : X.length = n) (hb : ∀ k, k < n → BtL (X.getD k []) 20 20) : (unitX X n j).length = n ∧ LenA n (unitX X n j) ∧ SameA n X (unitX X n j) ∧ (∀ k, k < n → BtL ((unitX X n j).getD k []) 20 20) ∧ ∀ k, k < n → ((unitX X n j).getD k []).getD n 0 = if k = j then 1 else 0 := by
  have hlen : (unitX X n j).length = n := by simp [unitX]
  have htk : ∀ k, k < n → ((X.getD k []).take n).length = n := fun k hk => by rw [List.length_take, hl k (by omega)]; omega
  have hget : ∀ k, k < n → ∀ i, i < n → ((X.getD k []).take n ++ [if k = j then 1 else 0]).getD i 0 = (X.getD k []).getD i 0 := fun k hk i hi => by
    rw [List.getD_eq_getElem?_getD, List.getElem?_append_left (by rw [htk k hk]; exact hi), List.getElem?_take_of_lt hi, ← List.getD_eq_getElem?_getD]
  have hlast : ∀ k, k < n → ((X.getD k []).take n ++ [if k = j then (1 : Rat) else 0]).getD n 0 = if k = j then 1 else 0 := fun k hk => by
    rw [List.getD_eq_getElem?_getD, List.getElem?_append_right (by rw [htk k hk]; exact Nat.le_refl _), htk k hk, Nat.sub_self]
    rfl
  refine ⟨hlen, fun k hk => ?_, ⟨by rw [hX, hlen], fun k hk i hi => ?_⟩, fun k hk i hi => ?_, fun k hk => ?_⟩
  · rw [hlen] at hk
    rw [unitX_get hk, List.length_append, htk k hk]; rfl
  · rw [unitX_get (by omega), hget k (by omega) i hi]
  · rw [unitX_get hk] at hi ⊢
    rw [List.length_append, htk k hk] at hi
    by_cases hin : i < n
    · rw [hget k hk i hin]
      exact hb k hk i (by rw [hl k (by omega)]; omega)
    · have : i = n := by simp at hi; omega
      subst this
      rw [hlast k hk]
      split
      · exact ⟨by decide, by decide⟩
      · exact ⟨by decide, by decide⟩
  · rw [unitX_get hk]
    exact hlast k hk
theorem only_bits {n : Nat} {X Y : List (List Rat)} (h : runFree n 0 X = some (n, Y)) (hn : n ≤ 3) (hl : LenA n X) (hX : X.length = n) (hb : ∀ k, k < n → BtL (X.getD k []) 20 20) : ∀ j, j < n → Bt ((Y.getD j []).getD n 0) 243 243 := by
  have units : ∀ j, ∃ s : Nat → Rat, ∀ i, i < 3 → el X n i 0 * s 0 + el X n i 1 * s 1 + el X n i 2 * s 2 = if i = j then 1 else 0 := fun j => by
    by_cases hj : j < n
    · obtain ⟨u1, u2, u3, u4, u5⟩ := unitX_facts (j := j) hl hX hb
      obtain ⟨k, W, hW⟩ := runFree_ok (c := 0) (m := n) u2 u1 hn (by omega) ⟨fun _ k hk => u4 k (by omega), fun e => by omega, fun e => by omega⟩
      have hk := u3.free h hW hl hX u2 u1 rfl
      subst hk
      have hs := (runFree_one hW u2 u1 1 (fun j => 1 * (W.getD j []).getD k 0)).2 (fun _ _ => rfl)
      refine ⟨px (fun j => 1 * (W.getD j []).getD k 0) k, fun i hi => ?_⟩
      by_cases hik : i < k
      · have h1 := hs i (by omega)
        unfold SolL at h1
        rw [u5 i hik, ← dotN_ext (u3.2 i (by omega))] at h1
        rw [pad_dot hn hik, h1]
        grind
      · rw [pad_id (Nat.le_of_not_lt hik) hi]
        unfold px
        rw [if_neg hik, if_neg (by omega)]
    · refine ⟨fun k => if k = j then 1 else 0, fun i hi => ?_⟩
      by_cases hin : i < n
      · have hc : j = 0 ∨ j = 1 ∨ j = 2 ∨ 3 ≤ j := by omega
        have hij : ¬ i = j := by omega
        rcases hc with rfl | rfl | rfl | hj3
        · omega
        · simp [el, hj, hij]; grind
        · simp [el, hj, hij]; grind
        · have h0 : ¬ (0 : Nat) = j := by omega
          have h1 : ¬ (1 : Nat) = j := by omega
          have h2 : ¬ (2 : Nat) = j := by omega
          simp only [h0, h1, h2, hij, if_false]
          grind
      · exact pad_id (y := fun k => if k = j then 1 else 0) (Nat.le_of_not_lt hin) hi
  obtain ⟨p, hp⟩ := units 0
  obtain ⟨q, hq⟩ := units 1
  obtain ⟨r, hr⟩ := units 2
  have hdet : det3 (el X n 0 0) (el X n 0 1) (el X n 0 2) (el X n 1 0) (el X n 1 1) (el X n 1 2) (el X n 2 0) (el X n 2 1) (el X n 2 2) ≠ 0 :=
    det_ne (hp 0 (by decide)) (hp 1 (by decide)) (hq 0 (by decide)) (hq 1 (by decide)) (hr 0 (by decide)) (hr 1 (by decide)) (hr 2 (by decide))
  have hel : ∀ i j, Bt (el X n i j) 20 20 := fun i j => by
    unfold el
    split
    · rename_i hij
      exact hb i hij.1 j (by rw [hl i (by omega)]; omega)
    · split
      · exact ⟨by decide, by decide⟩
      · exact ⟨by decide, by decide⟩
  have hs := (runFree_one h hl hX 1 (fun j => 1 * (Y.getD j []).getD n 0)).2 (fun _ _ => rfl)
  have heq : ∀ i, i < 3 → el X n i 0 * px (fun j => 1 * (Y.getD j []).getD n 0) n 0 + el X n i 1 * px (fun j => 1 * (Y.getD j []).getD n 0) n 1 + el X n i 2 * px (fun j => 1 * (Y.getD j []).getD n 0) n 2 = if i < n then (X.getD i []).getD n 0 else 0 := fun i hi => by
    by_cases hin : i < n
    · rw [pad_dot hn hin, if_pos hin]
      have := hs i (by omega)
      unfold SolL at this
      rw [this]
      grind
    · rw [pad_id (Nat.le_of_not_lt hin) hi, if_neg hin]
      unfold px
      rw [if_neg hin]
  have hval : ∀ i, Bt (if i < n then (X.getD i []).getD n 0 else 0) 20 20 := fun i => by
    split
    · rename_i hin
      exact hb i hin n (by rw [hl i (by omega)]; omega)
    · exact ⟨by decide, by decide⟩
  obtain ⟨b0, b1, b2⟩ := sol3_bits (hel _ _) (hel _ _) (hel _ _) (hel _ _) (hel _ _) (hel _ _) (hel _ _) (hel _ _) (hel _ _) (hval _) (hval _) (hval _) (heq 0 (by decide)) (heq 1 (by decide)) (heq 2 (by decide)) hdet
  intro j hj
  have e : ∀ i, i < n → px (fun j => 1 * (Y.getD j []).getD n 0) n i = (Y.getD i []).getD n 0 := fun i hi => by unfold px; rw [if_pos hi]; grind
  have hc : j = 0 ∨ j = 1 ∨ j = 2 := by omega
  rcases hc with rfl | rfl | rfl
  · rw [← e 0 hj]; exact b0
  · rw [← e 1 hj]; exact b1
  · rw [← e 2 hj]; exact b2

end Go.Proofs.Ytlbjaimgoiimgaa
