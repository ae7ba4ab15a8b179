/- Plain: fractions as rational numbers. No program. Plain: the order of two fractions by Euclid's algorithm. No program. What the law on texts needs. -/
import Derived.Test.YtgpmmpajnfbecaaGreatXan
import Derived.Deep.DeepCutAuto
import Derived.Laws.Concat

namespace Go.Proofs.YtgpmmpajnfbecaaGreat
open Go.RowKit

/-- The fraction of two integers, as a rational number. -/
theorem new_num {p q a r : Int} (hq : q ≠ 0) (h : QR p (if q < 0 then -((Int.gcd p q : Nat) : Int) else ((Int.gcd p q : Nat) : Int)) a r) : a = (Rat.divInt p q).num := by
  have hg : 0 < ((Int.gcd p q : Nat) : Int) := gcd_pos (.inr hq)
  have hr : r = 0 := qr_dvd h (by
    split
    · exact Int.neg_dvd.2 (Int.gcd_dvd_left p q)
    · exact Int.gcd_dvd_left p q)
  have h1 := h.1
  rw [hr, Int.add_zero] at h1
  rw [Rat.num_divInt, Int.gcd_comm q p]
  split at h1
  · rename_i hn
    rw [Int.sign_eq_neg_one_of_neg hn]
    refine Int.eq_ediv_of_mul_eq_right (by omega) ?_
    rw [Int.mul_neg] at h1
    have h2 : a * ((Int.gcd p q : Nat) : Int) = -1 * p := by omega
    rw [Int.mul_comm]
    exact h2
  · rename_i hn
    rw [Int.sign_eq_one_of_pos (by omega)]
    refine Int.eq_ediv_of_mul_eq_right (by omega) ?_
    rw [Int.one_mul]
    rw [Int.mul_comm]
    exact h1.symm
theorem new_den {p q a r : Int} (hq : q ≠ 0) (h : QR q (if q < 0 then -((Int.gcd p q : Nat) : Int) else ((Int.gcd p q : Nat) : Int)) a r) : a = (((Rat.divInt p q).den : Nat) : Int) := by
  have hg : 0 < ((Int.gcd p q : Nat) : Int) := gcd_pos (.inr hq)
  have hr : r = 0 := qr_dvd h (by
    split
    · exact Int.neg_dvd.2 (Int.gcd_dvd_right p q)
    · exact Int.gcd_dvd_right p q)
  have h1 := h.1
  rw [hr, Int.add_zero] at h1
  rw [Rat.den_divInt, if_neg hq, Int.gcd_comm q p, Int.natCast_ediv]
  refine Int.eq_ediv_of_mul_eq_right (by omega) ?_
  split at h1
  · rename_i hn
    have : ((q.natAbs : Nat) : Int) = -q := by omega
    rw [this]
    rw [Int.mul_neg] at h1
    have h2 : a * ((Int.gcd p q : Nat) : Int) = -q := by omega
    rw [Int.mul_comm]
    exact h2
  · rename_i hn
    have : ((q.natAbs : Nat) : Int) = q := by omega
    rw [this, Int.mul_comm]
    exact h1.symm

/-- Two integers that are the parts of a right fraction. -/
def FR (p q : Int) : Prop := 0 < q ∧ ((Int.gcd p q : Nat) : Int) = 1
theorem FR.rat {p q : Int} (h : FR p q) : ∃ r : Rat, p = r.num ∧ q = (r.den : Int) := by
  obtain ⟨h1, h2⟩ := h
  refine ⟨Rat.divInt p q, ?_, ?_⟩
  · rw [Rat.num_divInt, Int.sign_eq_one_of_pos h1, Int.gcd_comm, h2]; omega
  · rw [Rat.den_divInt, if_neg (by omega), Int.gcd_comm]
    have : Int.gcd p q = 1 := by omega
    rw [this, Nat.div_one]; omega
theorem FR.of (r : Rat) : FR r.num (r.den : Int) := by
  refine ⟨by have := r.den_nz; omega, ?_⟩
  have := r.reduced
  unfold Nat.Coprime at this
  have h : Int.gcd r.num (r.den : Int) = Nat.gcd r.num.natAbs r.den := rfl
  omega
theorem divInt_self (r : Rat) : Rat.divInt r.num (r.den : Int) = r := Rat.num_divInt_den r
theorem den_ne (r : Rat) : (r.den : Int) ≠ 0 := by have := r.den_nz; omega
theorem rat_add (a b : Rat) : Rat.divInt (a.num * b.den + b.num * a.den) (a.den * b.den) = a + b := by
  rw [← Rat.divInt_add_divInt _ _ (den_ne a) (den_ne b), divInt_self, divInt_self]
theorem rat_sub (a b : Rat) : Rat.divInt (a.num * b.den - b.num * a.den) (a.den * b.den) = a - b := by
  rw [← Rat.divInt_sub_divInt _ _ (den_ne a) (den_ne b), divInt_self, divInt_self]
theorem rat_mul (a b : Rat) : Rat.divInt (a.num * b.num) (a.den * b.den) = a * b := by
  rw [← Rat.divInt_mul_divInt, divInt_self, divInt_self]
theorem rat_div (a b : Rat) : Rat.divInt (a.num * b.den) (a.den * b.num) = a / b := by
  rw [← Rat.divInt_mul_divInt, divInt_self, Rat.div_def]
  conv => rhs; rw [← divInt_self b, Rat.inv_divInt]

/-- What is reduced is not longer. -/
theorem num_lt {p q : Int} {k : Nat} (hq : q ≠ 0) (h : ab p < pw k) : ab (Rat.divInt p q).num < pw k := by
  rw [Rat.num_divInt]
  have hg : 0 < ((Int.gcd q p : Nat) : Int) := gcd_pos (.inl hq)
  have h1 : (q.sign * p / ((Int.gcd q p : Nat) : Int)).natAbs ≤ (q.sign * p).natAbs := Int.natAbs_ediv_le_natAbs _ _
  rw [Int.natAbs_mul] at h1
  have h2 : q.sign.natAbs ≤ 1 := by
    rcases Int.lt_trichotomy q 0 with h | h | h
    · rw [Int.sign_eq_neg_one_of_neg h]; decide
    · omega
    · rw [Int.sign_eq_one_of_pos h]; decide
  have h3 : q.sign.natAbs * p.natAbs ≤ 1 * p.natAbs := Nat.mul_le_mul_right _ h2
  unfold ab at *
  omega
theorem den_lt {p q : Int} {k : Nat} (hq : q ≠ 0) (h : ab q < pw k) : ab (((Rat.divInt p q).den : Nat) : Int) < pw k := by
  rw [Rat.den_divInt, if_neg hq]
  have h1 : q.natAbs / Int.gcd q p ≤ q.natAbs := Nat.div_le_self _ _
  obtain ⟨m, hm⟩ : ∃ m, q.natAbs / Int.gcd q p = m := ⟨_, rfl⟩
  rw [hm] at h1 ⊢
  unfold ab at *
  omega

/-- The order of two fractions. -/
def cmpR (a b : Rat) : Int := if a < b then -1 else if b < a then 1 else 0
theorem cmpR_int (a b : Rat) : cmpR a b = Lib.compareInt (a.num * b.den) (b.num * a.den) := by
  unfold cmpR Lib.compareInt
  simp only [Rat.lt_iff, gt_iff_lt]
theorem floor_of {n d q r : Int} (hd : 0 < d) (h : QR n d q r) : n = q * d + r ∧ 0 ≤ r ∧ r < d := by
  obtain ⟨h1, h2, h3, _⟩ := h
  have h4 : sgn d = 1 := sgn_pos hd
  have h5 : 0 ≤ r := by
    rcases h2 with h2 | h2
    · omega
    · rw [h4] at h2
      unfold sgn at h2
      split at h2
      · omega
      · omega
  exact ⟨h1, h5, by unfold ab at h3; omega⟩
end Go.Proofs.YtgpmmpajnfbecaaGreat

namespace Go.Proofs.YtgpmmpajnfbecaaGreat
open Go.RowKit

/-- The order of two fractions with numbers above 0 below. -/
def ordI (p1 q1 p2 q2 : Int) : Int := Lib.compareInt (p1 * q2) (p2 * q1)
theorem cmp_of_lt {x y : Int} (h : x < y) : Lib.compareInt x y = -1 := by unfold Lib.compareInt; rw [if_pos h]
theorem cmp_of_gt {x y : Int} (h : y < x) : Lib.compareInt x y = 1 := by unfold Lib.compareInt; rw [if_neg (by omega), if_pos (by omega)]
theorem cmp_of_eq {x y : Int} (h : x = y) : Lib.compareInt x y = 0 := by unfold Lib.compareInt; rw [if_neg (by omega), if_neg (by omega)]

theorem floor_lt {p1 q1 p2 q2 x r1 y r2 : Int} (hq1 : 0 < q1) (hq2 : 0 < q2) (h1 : QR p1 q1 x r1) (h2 : QR p2 q2 y r2) (h : x < y) : p1 * q2 < p2 * q1 := by
  obtain ⟨a1, a2, a3⟩ := floor_of hq1 h1
  obtain ⟨b1, b2, b3⟩ := floor_of hq2 h2
  have c1 : p1 < y * q1 := by
    have : (x + 1) * q1 ≤ y * q1 := Int.mul_le_mul_of_nonneg_right (by omega) (by omega)
    rw [Int.add_mul, Int.one_mul] at this
    omega
  have c2 : y * q2 ≤ p2 := by omega
  have c3 : p1 * q2 < (y * q1) * q2 := Int.mul_lt_mul_of_pos_right c1 hq2
  have c4 : (y * q2) * q1 ≤ p2 * q1 := Int.mul_le_mul_of_nonneg_right c2 (by omega)
  have c5 : (y * q1) * q2 = (y * q2) * q1 := by rw [Int.mul_assoc, Int.mul_comm q1 q2, ← Int.mul_assoc]
  omega
theorem ord_ne {p1 q1 p2 q2 x r1 y r2 : Int} (hq1 : 0 < q1) (hq2 : 0 < q2) (h1 : QR p1 q1 x r1) (h2 : QR p2 q2 y r2) (h : x ≠ y) : ordI p1 q1 p2 q2 = Lib.compareInt x y := by
  unfold ordI
  rcases Int.lt_or_gt_of_ne h with h' | h'
  · rw [cmp_of_lt h', cmp_of_lt (floor_lt hq1 hq2 h1 h2 h')]
  · rw [cmp_of_gt h', cmp_of_gt (floor_lt hq2 hq1 h2 h1 h')]
theorem ord_eq {p1 q1 p2 q2 x r1 r2 : Int} (h1 : QR p1 q1 x r1) (h2 : QR p2 q2 x r2) : ordI p1 q1 p2 q2 = ordI r1 q1 r2 q2 := by
  unfold ordI
  rw [← cmp_sub, ← cmp_sub]
  congr 1
  rw [h1.1, h2.1, Int.add_mul, Int.add_mul]
  have : x * q1 * q2 = x * q2 * q1 := by rw [Int.mul_assoc, Int.mul_comm q1 q2, ← Int.mul_assoc]
  omega
theorem ord_zero {q1 q2 r1 r2 : Int} (hq1 : 0 < q1) (hq2 : 0 < q2) (h1 : 0 ≤ r1) (h2 : 0 ≤ r2) (h : r1 = 0 ∨ r2 = 0) : ordI r1 q1 r2 q2 = Lib.compareInt (sgn r1) (sgn r2) := by
  unfold ordI
  rcases Int.lt_or_eq_of_le h1 with a | a
  · rcases Int.lt_or_eq_of_le h2 with b | b
    · omega
    · subst b
      rw [sgn_pos a, Int.zero_mul, sgn_zero, cmp_of_gt (Int.mul_pos a hq2)]; rfl
  · subst a
    rcases Int.lt_or_eq_of_le h2 with b | b
    · rw [sgn_pos b, Int.zero_mul, sgn_zero, cmp_of_lt (Int.mul_pos b hq1)]; rfl
    · subst b
      rw [Int.zero_mul, Int.zero_mul, sgn_zero]
theorem ord_turn (q1 q2 r1 r2 : Int) : ordI q1 r1 q2 r2 = -ordI r1 q1 r2 q2 := by
  unfold ordI
  rw [← cmp_neg, Int.mul_comm q1 r2, Int.mul_comm q2 r1]
theorem ordR (a b : Rat) : ordI a.num a.den b.num b.den = cmpR a b := (cmpR_int a b).symm

end Go.Proofs.YtgpmmpajnfbecaaGreat

namespace Go.Proofs.YtgpmmpajnfbecaaGreat
open Go.RowKit

theorem fitz_lt (z : Int) : ab (fitz z) < pw 60 := by
  unfold fitz
  split
  · assumption
  · rw [ab_zero]; exact pw_pos 60
/-- A box that was laid zero, behind a store of a result. -/
theorem box_st {b : World} {g B : Nat} {u0 u1 : Value} {s : Int} {A : Option Addr} {n c : Nat} {z : Int} (hk : Blk b g 39 #[u0, u1]) (hr : BO b B (.agg #[.int .i64 s, .slice A n c]) z) (hg : g < B) :
    Bx ((b.setCell ⟨g, 0, none⟩ (.int .i64 s)).setCell ⟨g, 1, none⟩ (.slice A n c)) g s A n c z :=
  ⟨by simpa using hk.set2 (.int .i64 s) (.slice A n c), (hr.far2 hg _ _).bv⟩
theorem box_new {b : World} {B : Nat} {s : Int} {A : Option Addr} {n c : Nat} {z : Int} (hr : BO b B (.agg #[.int .i64 s, .slice A n c]) z) :
    Bx (b.alloc (.cells #[.int .i64 s, .slice A n c] 39)) b.heap.size s A n c z := by
  obtain ⟨W, rfl, _, h⟩ := box1 hr
  exact h
theorem below_st {B g : Nat} {w b : World} (h : Below B w b) (hg : B ≤ g) (u0 u1 : Value) : Below B w ((b.setCell ⟨g, 0, none⟩ u0).setCell ⟨g, 1, none⟩ u1) :=
  (h.setCell (p := ⟨g, 0, none⟩) hg u0).setCell (p := ⟨g, 1, none⟩) hg u1
theorem below_new {w b : World} (h : Below w.heap.size w b) (o : Obj) : Below w.heap.size w (b.alloc o) := h.alloc h.size o
theorem BV.new {b : World} {v : Value} {z : Int} (h : BV b b.heap.size v z) (o : Obj) : BV (b.alloc o) (b.alloc o).heap.size v z := h.later ((Below.refl _ _).alloc (Nat.le_refl _) o)
theorem blk_run {b b' : World} {a0 a1 : Value} (h : Below (b.alloc (.cells #[a0, a1] 39)).heap.size (b.alloc (.cells #[a0, a1] 39)) b') : Blk b' b.heap.size 39 #[a0, a1] := (Blk.new b 39 _).below h (by simp)

end Go.Proofs.YtgpmmpajnfbecaaGreat
