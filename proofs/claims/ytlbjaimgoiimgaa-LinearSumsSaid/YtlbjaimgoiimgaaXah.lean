/- Plain: fractions as rational numbers. No program. Plain: the order of two fractions by Euclid's algorithm. No program. What the law on texts needs. Memory: fractions: those that are read, those that the call owns, boxes that hold them. Walks: Right of fractions. Memory: a fraction's result box; owned results behind stores. -/
import Derived.Test.YtlbjaimgoiimgaaXag
import Derived.Deep.DeepCutAuto
import Derived.Laws.Concat
import Derived.Test.YtlbjaimgoiimgaaXae
import Derived.Deep.QuietTactic
import Derived.BigQuiet

namespace Go.Proofs.Ytlbjaimgoiimgaa
open Go.RowKit

/-- The fraction of two integers, as a rational number. -/
theorem new_num {p q a r : Int} (hq : q ≠ 0) (h : QR p (if q < 0 then -((Int.gcd p q : Nat) : Int) else ((Int.gcd p q : Nat) : Int)) a r) : a = (Rat.divInt p q).num := by
  have hg : 0 < ((Int.gcd p q : Nat) : Int) := gcd_pos (.inr hq)
  have hr : r = 0 := qr_dvd h (by
    split
    · exact Int.neg_dvd.2 (Int.gcd_dvd_left p q)
    · exact Int.gcd_dvd_left p q)
  have h1 := h.1
  rw [hr, Int.add_zero] at h1
  rw [Rat.num_divInt, Int.gcd_comm q p]
  split at h1
  · rename_i hn
    rw [Int.sign_eq_neg_one_of_neg hn]
    refine Int.eq_ediv_of_mul_eq_right (by omega) ?_
    rw [Int.mul_neg] at h1
    have h2 : a * ((Int.gcd p q : Nat) : Int) = -1 * p := by omega
    rw [Int.mul_comm]
    exact h2
  · rename_i hn
    rw [Int.sign_eq_one_of_pos (by omega)]
    refine Int.eq_ediv_of_mul_eq_right (by omega) ?_
    rw [Int.one_mul]
    rw [Int.mul_comm]
    exact h1.symm
theorem new_den {p q a r : Int} (hq : q ≠ 0) (h : QR q (if q < 0 then -((Int.gcd p q : Nat) : Int) else ((Int.gcd p q : Nat) : Int)) a r) : a = (((Rat.divInt p q).den : Nat) : Int) := by
  have hg : 0 < ((Int.gcd p q : Nat) : Int) := gcd_pos (.inr hq)
  have hr : r = 0 := qr_dvd h (by
    split
    · exact Int.neg_dvd.2 (Int.gcd_dvd_right p q)
    · exact Int.gcd_dvd_right p q)
  have h1 := h.1
  rw [hr, Int.add_zero] at h1
  rw [Rat.den_divInt, if_neg hq, Int.gcd_comm q p, Int.natCast_ediv]
  refine Int.eq_ediv_of_mul_eq_right (by omega) ?_
  split at h1
  · rename_i hn
    have : ((q.natAbs : Nat) : Int) = -q := by omega
    rw [this]
    rw [Int.mul_neg] at h1
    have h2 : a * ((Int.gcd p q : Nat) : Int) = -q := by omega
    rw [Int.mul_comm]
    exact h2
  · rename_i hn
    have : ((q.natAbs : Nat) : Int) = q := by omega
    rw [this, Int.mul_comm]
    exact h1.symm

/-- Two integers that are the parts of a right fraction. -/
def FR (p q : Int) : Prop := 0 < q ∧ ((Int.gcd p q : Nat) : Int) = 1
theorem FR.rat {p q : Int} (h : FR p q) : ∃ r : Rat, p = r.num ∧ q = (r.den : Int) := by
  obtain ⟨h1, h2⟩ := h
  refine ⟨Rat.divInt p q, ?_, ?_⟩
  · rw [Rat.num_divInt, Int.sign_eq_one_of_pos h1, Int.gcd_comm, h2]; omega
  · rw [Rat.den_divInt, if_neg (by omega), Int.gcd_comm]
    have : Int.gcd p q = 1 := by omega
    rw [this, Nat.div_one]; omega
theorem FR.of (r : Rat) : FR r.num (r.den : Int) := by
  refine ⟨by have := r.den_nz; omega, ?_⟩
  have := r.reduced
  unfold Nat.Coprime at this
  have h : Int.gcd r.num (r.den : Int) = Nat.gcd r.num.natAbs r.den := rfl
  omega
theorem divInt_self (r : Rat) : Rat.divInt r.num (r.den : Int) = r := Rat.num_divInt_den r
theorem den_ne (r : Rat) : (r.den : Int) ≠ 0 := by have := r.den_nz; omega
theorem rat_add (a b : Rat) : Rat.divInt (a.num * b.den + b.num * a.den) (a.den * b.den) = a + b := by
  rw [← Rat.divInt_add_divInt _ _ (den_ne a) (den_ne b), divInt_self, divInt_self]
theorem rat_sub (a b : Rat) : Rat.divInt (a.num * b.den - b.num * a.den) (a.den * b.den) = a - b := by
  rw [← Rat.divInt_sub_divInt _ _ (den_ne a) (den_ne b), divInt_self, divInt_self]
theorem rat_mul (a b : Rat) : Rat.divInt (a.num * b.num) (a.den * b.den) = a * b := by
  rw [← Rat.divInt_mul_divInt, divInt_self, divInt_self]
theorem rat_div (a b : Rat) : Rat.divInt (a.num * b.den) (a.den * b.num) = a / b := by
  rw [← Rat.divInt_mul_divInt, divInt_self, Rat.div_def]
  conv => rhs; rw [← divInt_self b, Rat.inv_divInt]

/-- What is reduced is not longer. -/
theorem num_lt {p q : Int} {k : Nat} (hq : q ≠ 0) (h : ab p < pw k) : ab (Rat.divInt p q).num < pw k := by
  rw [Rat.num_divInt]
  have hg : 0 < ((Int.gcd q p : Nat) : Int) := gcd_pos (.inl hq)
  have h1 : (q.sign * p / ((Int.gcd q p : Nat) : Int)).natAbs ≤ (q.sign * p).natAbs := Int.natAbs_ediv_le_natAbs _ _
  rw [Int.natAbs_mul] at h1
  have h2 : q.sign.natAbs ≤ 1 := by
    rcases Int.lt_trichotomy q 0 with h | h | h
    · rw [Int.sign_eq_neg_one_of_neg h]; decide
    · omega
    · rw [Int.sign_eq_one_of_pos h]; decide
  have h3 : q.sign.natAbs * p.natAbs ≤ 1 * p.natAbs := Nat.mul_le_mul_right _ h2
  unfold ab at *
  omega
theorem den_lt {p q : Int} {k : Nat} (hq : q ≠ 0) (h : ab q < pw k) : ab (((Rat.divInt p q).den : Nat) : Int) < pw k := by
  rw [Rat.den_divInt, if_neg hq]
  have h1 : q.natAbs / Int.gcd q p ≤ q.natAbs := Nat.div_le_self _ _
  obtain ⟨m, hm⟩ : ∃ m, q.natAbs / Int.gcd q p = m := ⟨_, rfl⟩
  rw [hm] at h1 ⊢
  unfold ab at *
  omega

/-- The order of two fractions. -/
def cmpR (a b : Rat) : Int := if a < b then -1 else if b < a then 1 else 0
theorem cmpR_int (a b : Rat) : cmpR a b = Lib.compareInt (a.num * b.den) (b.num * a.den) := by
  unfold cmpR Lib.compareInt
  simp only [Rat.lt_iff, gt_iff_lt]
theorem floor_of {n d q r : Int} (hd : 0 < d) (h : QR n d q r) : n = q * d + r ∧ 0 ≤ r ∧ r < d := by
  obtain ⟨h1, h2, h3, _⟩ := h
  have h4 : sgn d = 1 := sgn_pos hd
  have h5 : 0 ≤ r := by
    rcases h2 with h2 | h2
    · omega
    · rw [h4] at h2
      unfold sgn at h2
      split at h2
      · omega
      · omega
  exact ⟨h1, h5, by unfold ab at h3; omega⟩
theorem rat_floor (a : Rat) {q r : Int} (h : QR a.num a.den q r) : q = a.floor := by
  have hd := (FR.of a).1
  obtain ⟨h1, h2, h3⟩ := floor_of hd h
  have key : ∀ x : Int, x ≤ a.floor ↔ x * a.den ≤ a.num := fun x => by
    rw [Rat.le_floor_iff, Rat.le_iff, Rat.num_intCast, Rat.den_intCast]
    simp
  have k1 := (key q).2 (by omega)
  have k2 : ¬ q + 1 ≤ a.floor := fun h' => by
    have := (key (q + 1)).1 h'
    rw [Int.add_mul, Int.one_mul] at this
    omega
  omega

end Go.Proofs.Ytlbjaimgoiimgaa

namespace Go.Proofs.Ytlbjaimgoiimgaa
open Go.RowKit

/-- The order of two fractions with numbers above 0 below. -/
def ordI (p1 q1 p2 q2 : Int) : Int := Lib.compareInt (p1 * q2) (p2 * q1)
theorem cmp_of_lt {x y : Int} (h : x < y) : Lib.compareInt x y = -1 := by unfold Lib.compareInt; rw [if_pos h]
theorem cmp_of_gt {x y : Int} (h : y < x) : Lib.compareInt x y = 1 := by unfold Lib.compareInt; rw [if_neg (by omega), if_pos (by omega)]
theorem cmp_of_eq {x y : Int} (h : x = y) : Lib.compareInt x y = 0 := by unfold Lib.compareInt; rw [if_neg (by omega), if_neg (by omega)]

theorem floor_lt {p1 q1 p2 q2 x r1 y r2 : Int} (hq1 : 0 < q1) (hq2 : 0 < q2) (h1 : QR p1 q1 x r1) (h2 : QR p2 q2 y r2) (h : x < y) : p1 * q2 < p2 * q1 := by
  obtain ⟨a1, a2, a3⟩ := floor_of hq1 h1
  obtain ⟨b1, b2, b3⟩ := floor_of hq2 h2
  have c1 : p1 < y * q1 := by
    have : (x + 1) * q1 ≤ y * q1 := Int.mul_le_mul_of_nonneg_right (by omega) (by omega)
    rw [Int.add_mul, Int.one_mul] at this
    omega
  have c2 : y * q2 ≤ p2 := by omega
  have c3 : p1 * q2 < (y * q1) * q2 := Int.mul_lt_mul_of_pos_right c1 hq2
  have c4 : (y * q2) * q1 ≤ p2 * q1 := Int.mul_le_mul_of_nonneg_right c2 (by omega)
  have c5 : (y * q1) * q2 = (y * q2) * q1 := by rw [Int.mul_assoc, Int.mul_comm q1 q2, ← Int.mul_assoc]
  omega
theorem ord_ne {p1 q1 p2 q2 x r1 y r2 : Int} (hq1 : 0 < q1) (hq2 : 0 < q2) (h1 : QR p1 q1 x r1) (h2 : QR p2 q2 y r2) (h : x ≠ y) : ordI p1 q1 p2 q2 = Lib.compareInt x y := by
  unfold ordI
  rcases Int.lt_or_gt_of_ne h with h' | h'
  · rw [cmp_of_lt h', cmp_of_lt (floor_lt hq1 hq2 h1 h2 h')]
  · rw [cmp_of_gt h', cmp_of_gt (floor_lt hq2 hq1 h2 h1 h')]
theorem ord_eq {p1 q1 p2 q2 x r1 r2 : Int} (h1 : QR p1 q1 x r1) (h2 : QR p2 q2 x r2) : ordI p1 q1 p2 q2 = ordI r1 q1 r2 q2 := by
  unfold ordI
  rw [← cmp_sub, ← cmp_sub]
  congr 1
  rw [h1.1, h2.1, Int.add_mul, Int.add_mul]
  have : x * q1 * q2 = x * q2 * q1 := by rw [Int.mul_assoc, Int.mul_comm q1 q2, ← Int.mul_assoc]
  omega
theorem ord_zero {q1 q2 r1 r2 : Int} (hq1 : 0 < q1) (hq2 : 0 < q2) (h1 : 0 ≤ r1) (h2 : 0 ≤ r2) (h : r1 = 0 ∨ r2 = 0) : ordI r1 q1 r2 q2 = Lib.compareInt (sgn r1) (sgn r2) := by
  unfold ordI
  rcases Int.lt_or_eq_of_le h1 with a | a
  · rcases Int.lt_or_eq_of_le h2 with b | b
    · omega
    · subst b
      rw [sgn_pos a, Int.zero_mul, sgn_zero, cmp_of_gt (Int.mul_pos a hq2)]; rfl
  · subst a
    rcases Int.lt_or_eq_of_le h2 with b | b
    · rw [sgn_pos b, Int.zero_mul, sgn_zero, cmp_of_lt (Int.mul_pos b hq1)]; rfl
    · subst b
      rw [Int.zero_mul, Int.zero_mul, sgn_zero]
theorem ord_turn (q1 q2 r1 r2 : Int) : ordI q1 r1 q2 r2 = -ordI r1 q1 r2 q2 := by
  unfold ordI
  rw [← cmp_neg, Int.mul_comm q1 r2, Int.mul_comm q2 r1]
theorem ordR (a b : Rat) : ordI a.num a.den b.num b.den = cmpR a b := (cmpR_int a b).symm

end Go.Proofs.Ytlbjaimgoiimgaa

namespace Go.Proofs.Ytlbjaimgoiimgaa
open Go.RowKit

theorem text_back {S : ByteArray} {z : Int} (h : bts S = Lib.itoa z) : byt (Lib.itoa z) = S := by
  rw [← h]
  unfold byt bts
  simp
theorem text_len {z : Int} (h : ab z < pw 60) : (byt (Lib.itoa z)).size ≤ 99998 := by
  rw [byt_size, itoa_ab]
  have := dd_len_pw 60 (by decide) (ab z) (ab_nonneg z) h
  split <;> simp <;> omega
theorem itoa_zero : byt (Lib.itoa 0) = ⟨#[48]⟩ := by
  have h : Lib.itoa 0 = [48] := by
    unfold Lib.itoa
    rw [if_neg (by omega)]
    exact dd_lt (n := 0) (by decide)
  rw [h]
  rfl
theorem fitz_lt (z : Int) : ab (fitz z) < pw 60 := by
  unfold fitz
  split
  · assumption
  · rw [ab_zero]; exact pw_pos 60
theorem seven_cases (x : Int) :
    (fite (x * 10) = 0 ∧ fite (fitz (x * 10) + 7 * sgn x) = 0 ∧ fite (10 * x + 7 * sgn x) = 0 ∧ fitz (10 * x + 7 * sgn x) = fitz (fitz (x * 10) + 7 * sgn x)) ∨
    (fite (x * 10) = 0 ∧ fite (fitz (x * 10) + 7 * sgn x) = 6 ∧ fite (10 * x + 7 * sgn x) = 6) ∨ (fite (x * 10) = 6 ∧ fite (10 * x + 7 * sgn x) = 6) := by
  rw [show x * 10 = 10 * x by omega]
  by_cases h1 : ab (10 * x) < pw 60
  · rw [(fits h1).1, (fits h1).2]
    by_cases h2 : ab (10 * x + 7 * sgn x) < pw 60
    · rw [(fits h2).1]; exact .inl ⟨rfl, rfl, rfl, rfl⟩
    · rw [show fite (10 * x + 7 * sgn x) = 6 from if_neg h2]; exact .inr (.inl ⟨rfl, rfl, rfl⟩)
  · have h2 := seven_big h1
    exact .inr (.inr ⟨if_neg h1, if_neg h2⟩)
theorem Aq.bx60 {W : World} {g : Nat} {s : Int} {l : List Int} {A : Option Addr} {n c : Nat} (h : Aq W g s l A n c) (hr : RightP s l) : ∃ z, Bx W g s A n c z ∧ s = sgn z ∧ ab z < pw 60 := by
  obtain ⟨z, h1, h2, h3, _⟩ := h.ar.z hr
  exact ⟨z, ⟨h.blk, h1⟩, h2, h3⟩

/-- A box that was laid zero, behind a store of a result. -/
theorem box_st {b : World} {g B : Nat} {u0 u1 : Value} {s : Int} {A : Option Addr} {n c : Nat} {z : Int} (hk : Blk b g 38 #[u0, u1]) (hr : BO b B (.agg #[.int .i64 s, .slice A n c]) z) (hg : g < B) :
    Bx ((b.setCell ⟨g, 0, none⟩ (.int .i64 s)).setCell ⟨g, 1, none⟩ (.slice A n c)) g s A n c z :=
  ⟨by simpa using hk.set2 (.int .i64 s) (.slice A n c), (hr.far2 hg _ _).bv⟩
theorem box_new {b : World} {B : Nat} {s : Int} {A : Option Addr} {n c : Nat} {z : Int} (hr : BO b B (.agg #[.int .i64 s, .slice A n c]) z) :
    Bx (b.alloc (.cells #[.int .i64 s, .slice A n c] 38)) b.heap.size s A n c z := by
  obtain ⟨W, rfl, _, h⟩ := box1 hr
  exact h
theorem below_st {B g : Nat} {w b : World} (h : Below B w b) (hg : B ≤ g) (u0 u1 : Value) : Below B w ((b.setCell ⟨g, 0, none⟩ u0).setCell ⟨g, 1, none⟩ u1) :=
  (h.setCell (p := ⟨g, 0, none⟩) hg u0).setCell (p := ⟨g, 1, none⟩) hg u1
theorem below_new {w b : World} (h : Below w.heap.size w b) (o : Obj) : Below w.heap.size w (b.alloc o) := h.alloc h.size o
theorem BV.new {b : World} {v : Value} {z : Int} (h : BV b b.heap.size v z) (o : Obj) : BV (b.alloc o) (b.alloc o).heap.size v z := h.later ((Below.refl _ _).alloc (Nat.le_refl _) o)
theorem blk_run {b b' : World} {a0 a1 : Value} (h : Below (b.alloc (.cells #[a0, a1] 38)).heap.size (b.alloc (.cells #[a0, a1] 38)) b') : Blk b' b.heap.size 38 #[a0, a1] := (Blk.new b 38 _).below h (by simp)

end Go.Proofs.Ytlbjaimgoiimgaa

namespace Go.Proofs.Ytlbjaimgoiimgaa
open Go.RowKit

/-- Cells of a fraction. -/
def fc (s1 : Int) (A1 : Option Addr) (n1 c1 : Nat) (s2 : Int) (A2 : Option Addr) (n2 c2 : Nat) : Array Value := #[.int .i64 s1, .slice A1 n1 c1, .int .i64 s2, .slice A2 n2 c2]
/-- A fraction that reads as p and q. -/
structure FV (w : World) (B : Nat) (s1 : Int) (A1 : Option Addr) (n1 c1 : Nat) (s2 : Int) (A2 : Option Addr) (n2 c2 : Nat) (p q : Int) : Prop where
  a : BV w B (.agg #[.int .i64 s1, .slice A1 n1 c1]) p
  b : BV w B (.agg #[.int .i64 s2, .slice A2 n2 c2]) q
/-- A fraction that the call owns from block B on. -/
def FO (w : World) (B : Nat) (r : Value) (p q : Int) : Prop :=
  ∃ s1 A1 n1 c1 s2 A2 n2 c2, r = .agg #[.int .i64 s1, .slice A1 n1 c1, .int .i64 s2, .slice A2 n2 c2] ∧ BO w B (.agg #[.int .i64 s1, .slice A1 n1 c1]) p ∧ BO w B (.agg #[.int .i64 s2, .slice A2 n2 c2]) q
section
variable {w w' W W' : World} {B B' g g' : Nat} {r : Value} {p q p' q' s1 s2 t1 t2 : Int} {A1 A2 C1 C2 : Option Addr} {n1 d1 n2 d2 m1 e1 m2 e2 : Nat}
theorem FV.later (h : FV w w.heap.size s1 A1 n1 d1 s2 A2 n2 d2 p q) (hb : Below w.heap.size w w') : FV w' w'.heap.size s1 A1 n1 d1 s2 A2 n2 d2 p q := ⟨h.a.later hb, h.b.later hb⟩
theorem FO.below (h : FO w B r p q) (hb : Below w.heap.size w w') : FO w' B r p q := by
  obtain ⟨s1, A1, n1, c1, s2, A2, n2, c2, e, h1, h2⟩ := h
  exact ⟨s1, A1, n1, c1, s2, A2, n2, c2, e, h1.below hb, h2.below hb⟩
theorem FO.mono (h : FO w B r p q) (hb : B' ≤ B) : FO w B' r p q := by
  obtain ⟨s1, A1, n1, c1, s2, A2, n2, c2, e, h1, h2⟩ := h
  exact ⟨s1, A1, n1, c1, s2, A2, n2, c2, e, h1.mono hb, h2.mono hb⟩
theorem FO.form (h : FO w B r p q) : ∃ s1 A1 n1 c1 s2 A2 n2 c2, r = .agg #[.int .i64 s1, .slice A1 n1 c1, .int .i64 s2, .slice A2 n2 c2] := by
  obtain ⟨s1, A1, n1, c1, s2, A2, n2, c2, e, _⟩ := h
  exact ⟨s1, A1, n1, c1, s2, A2, n2, c2, e⟩
theorem FO.zero (w : World) (B : Nat) : FO w B (.agg #[.int .i64 0, .slice none 0 0, .int .i64 0, .slice none 0 0]) 0 0 := ⟨0, none, 0, 0, 0, none, 0, 0, rfl, BO.zero _ _, BO.zero _ _⟩
theorem FO.fv (h : FO w B (.agg #[.int .i64 s1, .slice A1 n1 d1, .int .i64 s2, .slice A2 n2 d2]) p q) : FV w w.heap.size s1 A1 n1 d1 s2 A2 n2 d2 p q := by
  obtain ⟨s1', A1', n1', c1', s2', A2', n2', c2', e, h1, h2⟩ := h
  injection e with e
  have e0 := congrArg (fun (a : Array Value) => a[0]?) e
  have e1 := congrArg (fun (a : Array Value) => a[1]?) e
  have e2 := congrArg (fun (a : Array Value) => a[2]?) e
  have e3 := congrArg (fun (a : Array Value) => a[3]?) e
  simp at e0 e1 e2 e3
  obtain ⟨rfl, rfl, rfl⟩ := e1
  obtain ⟨rfl, rfl, rfl⟩ := e3
  subst e0 e2
  exact ⟨h1.bv, h2.bv⟩

/-- A box that holds a fraction. -/
structure Bf (t : TypeId) (W : World) (g : Nat) (s1 : Int) (A1 : Option Addr) (n1 c1 : Nat) (s2 : Int) (A2 : Option Addr) (n2 c2 : Nat) (p q : Int) : Prop where
  blk : Blk W g t #[.int .i64 s1, .slice A1 n1 c1, .int .i64 s2, .slice A2 n2 c2]
  fv : FV W W.heap.size s1 A1 n1 c1 s2 A2 n2 c2 p q
variable {t : TypeId}
theorem Bf.below (h : Bf t W g s1 A1 n1 d1 s2 A2 n2 d2 p q) (hb : Below W.heap.size W W') : Bf t W' g s1 A1 n1 d1 s2 A2 n2 d2 p q := ⟨h.blk.below hb h.blk.lt, h.fv.later hb⟩
theorem Bf.c0 (h : Bf t W g s1 A1 n1 d1 s2 A2 n2 d2 p q) : W.cell? ⟨g, 0, none⟩ = some (.int .i64 s1) := h.blk.cell 0
theorem Bf.c1 (h : Bf t W g s1 A1 n1 d1 s2 A2 n2 d2 p q) : W.cell? ⟨g, 1, none⟩ = some (.slice A1 n1 d1) := h.blk.cell 1
theorem Bf.c2 (h : Bf t W g s1 A1 n1 d1 s2 A2 n2 d2 p q) : W.cell? ⟨g, 2, none⟩ = some (.int .i64 s2) := h.blk.cell 2
theorem Bf.c3 (h : Bf t W g s1 A1 n1 d1 s2 A2 n2 d2 p q) : W.cell? ⟨g, 3, none⟩ = some (.slice A2 n2 d2) := h.blk.cell 3
end

end Go.Proofs.Ytlbjaimgoiimgaa

namespace Go.Proofs.Ytlbjaimgoiimgaa
open Go.RowKit

theorem fbox1 {w : World} {s1 s2 : Int} {A1 A2 : Option Addr} {n1 d1 n2 d2 : Nat} {p q : Int} (h : FV w w.heap.size s1 A1 n1 d1 s2 A2 n2 d2 p q) :
    ∃ W, W = w.alloc (.cells #[.int .i64 s1, .slice A1 n1 d1, .int .i64 s2, .slice A2 n2 d2] 40) ∧ Below w.heap.size w W ∧ Bf 40 W w.heap.size s1 A1 n1 d1 s2 A2 n2 d2 p q := by
  have hb : Below w.heap.size w (w.alloc (.cells #[.int .i64 s1, .slice A1 n1 d1, .int .i64 s2, .slice A2 n2 d2] 40)) := (Below.refl _ _).alloc (Nat.le_refl _) _
  exact ⟨_, rfl, hb, Blk.new _ _ _, h.later hb⟩
theorem FV.sg {w : World} {B : Nat} {s1 s2 : Int} {A1 A2 : Option Addr} {n1 d1 n2 d2 : Nat} {p q : Int} (h : FV w B s1 A1 n1 d1 s2 A2 n2 d2 p q) : s2 = sgn q := by
  obtain ⟨A, c, e, _⟩ := h.b
  injection e with e
  have e0 := congrArg (fun (a : Array Value) => a[0]?) e
  simp at e0
  exact e0

set_option maxRecDepth 100000 in
set_option maxHeartbeats 4000000 in
theorem fright_pos {s1 s2 : Int} {A1 A2 : Option Addr} {n1 d1 n2 d2 : Nat} {p q : Int} (w : World) (h : FV w w.heap.size s1 A1 n1 d1 s2 A2 n2 d2 p q) (hp : ab p < pw 60) (hq : ab q < pw 60) (h0 : 0 < q) (b : Bool) (hb : decide (((Int.gcd p q : Nat) : Int) = 1) = b) :
    Calls Try.prog 18 #[.agg #[.int .i64 s1, .slice A1 n1 d1, .int .i64 s2, .slice A2 n2 d2]] w fun e w' => e = .returned (.bool b) ∧ Below w.heap.size w w' := by
  have HP := Lib.hid hp; clear hp
  have HQ := Lib.hid hq; clear hq
  have hs2 : s2 = 1 := by rw [h.sg, sgn_pos h0]
  subst hs2
  obtain ⟨d, hd⟩ : ∃ d, ((Int.gcd p q : Nat) : Int) = d := ⟨_, rfl⟩
  rw [hd] at hb
  have HB := Lib.hid hb; clear hb
  have HD := Lib.hid hd; clear hd h0
  go_enter Try.func18, Try.ntmps18
  go_wp2_with fail
  obtain ⟨W, hW, hbx, kf⟩ := fbox1 h
  rw [← hW]
  clear hW h
  have hT := hbx
  have f0 := kf.c0
  have f1 := kf.c1
  have f2 := kf.c2
  have f3 := kf.c3
  go_wp2_with fail
  clear f0 f1 f2 f3
  (with_reducible refine (gcd_any _ _ _ _ _ kf.fv.a kf.fv.b HP.out HQ.out).mono ?_)
  rintro e u1 ⟨rg, rfl, hrg, hb9⟩
  have hT := hT.trans (hb9.mono hT.size)
  have kf := kf.below hb9
  rw [HD.out] at hrg
  obtain ⟨sg, Ag, ng, cg, rfl⟩ := hrg.form
  go_upto_region 2 with fail
  obtain ⟨Wg, hW, hbx, kg⟩ := box1 hrg
  rw [← hW]
  clear hW
  have hT := hT.trans (hbx.mono hT.size)
  have kf := kf.below hbx
  have e0 : ∀ W' : World, Below Wg.heap.size Wg W' → W'.cell? ⟨u1.heap.size, 0, none⟩ = some (.int .i64 sg) ∧ W'.cell? ⟨u1.heap.size, 1, none⟩ = some (.slice Ag ng cg) ∧ W'.cell? ⟨w.heap.size, 2, none⟩ = some (.int .i64 1) ∧ Below Wg.heap.size Wg W' := fun W' hW =>
    ⟨(kg.below hW).c0, (kg.below hW).c1, (kf.below hW).c2, hW⟩
  have E0 := Lib.hid e0; clear e0
  have hss := fun (w' : World) (hb : Below Wg.heap.size Wg w') r (h : BV w' w'.heap.size r 1) => same_any d 1 _ r w' (kg.below hb).bv h
  rw [HB.out] at hss
  have HSS := Lib.hid hss; clear hss
  have hB00 : Below Wg.heap.size Wg Wg.drew := (Below.refl _ _).drew
  have hTs := hT.size
  clear kf kg
  go_region_held3 (fun W' => W'.cell? ⟨u1.heap.size, 0, none⟩ = some (.int .i64 sg) ∧ W'.cell? ⟨u1.heap.size, 1, none⟩ = some (.slice Ag ng cg) ∧ W'.cell? ⟨w.heap.size, 2, none⟩ = some (.int .i64 1) ∧ Below Wg.heap.size Wg W')
    (first | exact E0.out _ (by assumption) | exact E0.out _ ⟨rfl, rfl, rfl, Nat.le_refl _, fun _ _ => rfl⟩)
    (first
      | (go_at_call 34; have _h := hB4; refine (HSS.out _ hB4 _ hq1.bv).mono ?_; rintro e x5 ⟨rfl, hb5⟩; have hB5 : Below Wg.heap.size Wg x5 := hB4.trans (hb5.mono hB4.size))
      | (go_at_call 35; refine (of_any 1 _ (by omega) (by omega)).mono ?_; rintro e x4 ⟨r1, rfl, hq1, hb4⟩; have hB4 : Below Wg.heap.size Wg x4 := ⟨hb4.os, hb4.tape, hb4.output, hb4.size, hb4.block⟩))
  go_wp2_with fail
  go_ret
  exact ⟨rfl, hT.trans (hB5.mono hTs)⟩

set_option maxRecDepth 100000 in
set_option maxHeartbeats 4000000 in
theorem fright_low {s1 s2 : Int} {A1 A2 : Option Addr} {n1 d1 n2 d2 : Nat} {p q : Int} (w : World) (h : FV w w.heap.size s1 A1 n1 d1 s2 A2 n2 d2 p q) (hp : ab p < pw 60) (hq : ab q < pw 60) (h0 : ¬ 0 < q) :
    Calls Try.prog 18 #[.agg #[.int .i64 s1, .slice A1 n1 d1, .int .i64 s2, .slice A2 n2 d2]] w fun e w' => e = .returned (.bool false) ∧ Below w.heap.size w w' := by
  have HP := Lib.hid hp; clear hp
  have HQ := Lib.hid hq; clear hq
  have hs2 : decide (0 < s2) = false := by
    rw [h.sg]; unfold sgn; split <;> (try split) <;> simp <;> omega
  clear h0
  go_enter Try.func18, Try.ntmps18
  go_wp2_with fail
  obtain ⟨W, hW, hbx, kf⟩ := fbox1 h
  rw [← hW]
  clear hW h
  have hT := hbx
  have f0 := kf.c0
  have f1 := kf.c1
  have f2 := kf.c2
  have f3 := kf.c3
  go_wp2_with fail
  clear f0 f1 f2 f3
  (with_reducible refine (gcd_any _ _ _ _ _ kf.fv.a kf.fv.b HP.out HQ.out).mono ?_)
  rintro e u1 ⟨rg, rfl, hrg, hb9⟩
  have hT := hT.trans (hb9.mono hT.size)
  have kf := kf.below hb9
  obtain ⟨sg, Ag, ng, cg, rfl⟩ := hrg.form
  go_upto_region 2 with fail
  obtain ⟨Wg, hW, hbx, kg⟩ := box1 hrg
  rw [← hW]
  clear hW
  have hT := hT.trans (hbx.mono hT.size)
  have kf := kf.below hbx
  have f2 := kf.c2
  go_quiet (fail)
  go_wp2_with fail
  go_ret
  exact ⟨rfl, ⟨hT.os, hT.tape, hT.output, hT.size, hT.block⟩⟩

set_option maxRecDepth 100000 in
set_option maxHeartbeats 4000000 in
theorem fright_bad {s1 s2 : Int} {l1 l2 : List Int} {A1 A2 : Option Addr} {n1 d1 n2 d2 : Nat} (w : World) (h1 : Ar w s1 l1 A1 n1 d1) (h2 : Ar w s2 l2 A2 n2 d2) (hb : ¬ (RightP s1 l1 ∧ RightP s2 l2)) :
    Calls Try.prog 18 #[.agg #[.int .i64 s1, .slice A1 n1 d1, .int .i64 s2, .slice A2 n2 d2]] w fun e w' => e = .returned (.bool false) ∧ Below w.heap.size w w' := by
  have hB1 : Below w.heap.size w (w.alloc (.cells #[.int .i64 s1, .slice A1 n1 d1, .int .i64 s2, .slice A2 n2 d2] 40)) := (Below.refl _ _).alloc (Nat.le_refl _) _
  have hbk : Blk (w.alloc (.cells #[.int .i64 s1, .slice A1 n1 d1, .int .i64 s2, .slice A2 n2 d2] 40)) w.heap.size 40 #[.int .i64 s1, .slice A1 n1 d1, .int .i64 s2, .slice A2 n2 d2] := Blk.new _ _ _
  have hg := gcd_bad (h1.later hB1) (h2.later hB1) hb
  have HG := Lib.hid hg; clear hg h1 h2 hb
  go_enter Try.func18, Try.ntmps18
  go_wp2_with fail
  obtain ⟨W, hW⟩ : ∃ W, W = w.alloc (.cells #[.int .i64 s1, .slice A1 n1 d1, .int .i64 s2, .slice A2 n2 d2] 40) := ⟨_, rfl⟩
  rw [← hW] at hB1 hbk HG ⊢
  clear hW
  have f0 : W.cell? ⟨w.heap.size, 0, none⟩ = some (.int .i64 s1) := hbk.cell 0
  have f1 : W.cell? ⟨w.heap.size, 1, none⟩ = some (.slice A1 n1 d1) := hbk.cell 1
  have f2 : W.cell? ⟨w.heap.size, 2, none⟩ = some (.int .i64 s2) := hbk.cell 2
  have f3 : W.cell? ⟨w.heap.size, 3, none⟩ = some (.slice A2 n2 d2) := hbk.cell 3
  go_wp2_with fail
  clear f0 f1 f2 f3 hbk
  (with_reducible refine HG.out.mono ?_)
  rintro e u1 ⟨rfl, hb9⟩
  have hT := hB1.trans (hb9.mono hB1.size)
  go_upto_region 2 with fail
  have hT := hT.alloc hT.size (.cells #[.int .i64 0, .slice none 0 0] 38)
  go_quiet (fail)
  go_wp2_with fail
  go_ret
  exact ⟨rfl, ⟨hT.os, hT.tape, hT.output, hT.size, hT.block⟩⟩

end Go.Proofs.Ytlbjaimgoiimgaa

namespace Go.Proofs.Ytlbjaimgoiimgaa
open Go.RowKit

/-- A box of four cells. -/
structure Bz (W : World) (g : Nat) (a0 a1 a2 a3 : Value) : Prop where
  blk : Blk W g 40 #[a0, a1, a2, a3]
section
variable {w w' W W' : World} {B g g' : Nat} {a0 a1 a2 a3 r : Value} {s1 s2 z p q : Int} {A1 A2 : Option Addr} {n1 d1 n2 d2 : Nat}
theorem Bz.below (h : Bz W g a0 a1 a2 a3) (hb : Below W.heap.size W W') : Bz W' g a0 a1 a2 a3 := ⟨h.blk.below hb h.blk.lt⟩
theorem Bz.set2 (h : Bz W g' a0 a1 a2 a3) (hg : g' ≠ g) (_ : True) (u u' : Value) : Bz ((W.setCell ⟨g, 0, none⟩ u).setCell ⟨g, 1, none⟩ u') g' a0 a1 a2 a3 :=
  ⟨(h.blk.far (p := ⟨g, 0, none⟩) hg u).far (p := ⟨g, 1, none⟩) hg u'⟩
theorem BO.far1 (h : BO w B r z) (hg : g < B) (k : Nat) (u : Value) : BO (w.setCell ⟨g, k, none⟩ u) B r z := by
  obtain ⟨v, rfl, ho⟩ := h
  exact ⟨v, rfl, ho.far hg u⟩
theorem BO.far4 (h : BO w B r z) (hg : g < B) (u0 u1 u2 u3 : Value) : BO ((((w.setCell ⟨g, 0, none⟩ u0).setCell ⟨g, 1, none⟩ u1).setCell ⟨g, 2, none⟩ u2).setCell ⟨g, 3, none⟩ u3) B r z :=
  (((h.far1 hg 0 u0).far1 hg 1 u1).far1 hg 2 u2).far1 hg 3 u3
theorem below_st4 (h : Below B w W) (hg : B ≤ g) (u0 u1 u2 u3 : Value) : Below B w ((((W.setCell ⟨g, 0, none⟩ u0).setCell ⟨g, 1, none⟩ u1).setCell ⟨g, 2, none⟩ u2).setCell ⟨g, 3, none⟩ u3) :=
  (((h.setCell (p := ⟨g, 0, none⟩) hg u0).setCell (p := ⟨g, 1, none⟩) hg u1).setCell (p := ⟨g, 2, none⟩) hg u2).setCell (p := ⟨g, 3, none⟩) hg u3
theorem FO.mk2 (h1 : BO w B (.agg #[.int .i64 s1, .slice A1 n1 d1]) p) (h2 : BO w B (.agg #[.int .i64 s2, .slice A2 n2 d2]) q) : FO w B (.agg #[.int .i64 s1, .slice A1 n1 d1, .int .i64 s2, .slice A2 n2 d2]) p q :=
  ⟨s1, A1, n1, d1, s2, A2, n2, d2, rfl, h1, h2⟩
theorem nboxes (h1 : BV w w.heap.size (.agg #[.int .i64 s1, .slice A1 n1 d1]) p) (h2 : BV w w.heap.size (.agg #[.int .i64 s2, .slice A2 n2 d2]) q) :
    ∃ W, W = ((w.alloc (.cells #[.int .i64 s1, .slice A1 n1 d1] 38)).alloc (.cells #[.int .i64 s2, .slice A2 n2 d2] 38)).alloc (.cells #[.int .i64 0, .slice none 0 0, .int .i64 0, .slice none 0 0] 40) ∧ Below w.heap.size w W ∧
      Bx W w.heap.size s1 A1 n1 d1 p ∧ Bx W (w.heap.size + 1) s2 A2 n2 d2 q ∧ Bz W (w.heap.size + 1 + 1) (.int .i64 0) (.slice none 0 0) (.int .i64 0) (.slice none 0 0) := by
  obtain ⟨W, hW, hb, k1, k2, hs⟩ := boxes2 w #[.int .i64 s1, .slice A1 n1 d1] #[.int .i64 s2, .slice A2 n2 d2]
  rw [← hW]
  have hb3 : Below w.heap.size w (W.alloc (.cells #[.int .i64 0, .slice none 0 0, .int .i64 0, .slice none 0 0] 40)) := hb.alloc hb.size _
  have h3 := Blk.new W 40 #[.int .i64 0, .slice none 0 0, .int .i64 0, .slice none 0 0]
  rw [hs] at h3
  exact ⟨_, rfl, hb3, ⟨k1.alloc _, h1.later hb3⟩, ⟨k2.alloc _, h2.later hb3⟩, ⟨h3⟩⟩
end

end Go.Proofs.Ytlbjaimgoiimgaa
