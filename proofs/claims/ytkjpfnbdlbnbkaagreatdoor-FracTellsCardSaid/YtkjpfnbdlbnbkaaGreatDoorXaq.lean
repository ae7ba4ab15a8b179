/- Walks: the reference's kept, Neg and Compare. Plain: fractions as rational numbers. No program. Plain: the order of two fractions by Euclid's algorithm. No program. -/
import Derived.Test.YtkjpfnbdlbnbkaaGreatDoorXap
import Derived.Test.YtkjpfnbdlbnbkaaGreatDoorXao

namespace Go.Proofs.YtkjpfnbdlbnbkaaGreatDoor
open Go.RowKit

theorem BO.len {w : World} {B : Nat} {s : Int} {A : Option Addr} {n c : Nat} {z : Int} (h : BO w B (.agg #[.int .i64 s, .slice A n c]) z) : (D (ab z)).length = n ∧ s = sgn z := by
  obtain ⟨v, e, ho⟩ := h
  injection e with e
  have e0 := congrArg (fun (a : Array Value) => a[0]?) e
  have e1 := congrArg (fun (a : Array Value) => a[1]?) e
  simp at e0 e1
  obtain ⟨A', c', rfl⟩ := ho.form
  injection e1 with _ e2 _
  exact ⟨e2.symm, e0⟩

set_option maxRecDepth 100000 in
set_option maxHeartbeats 2000000 in
theorem rkept_any (z : Int) (v : Value) (w : World) (B : Nat) (h : BO w B v z) :
    Calls Tryz.prog 61 #[v] w fun e w' => ∃ r, e = .returned (.tuple #[r, .int .i64 (fite z)]) ∧ BO w' B r (fitz z) ∧ Below w.heap.size w w' := by
  obtain ⟨s, A, n, c, rfl⟩ := h.form
  have hl := (D_len_le (z := ab z) (ab_nonneg z) (k := 60))
  rw [h.len.1] at hl
  have hb2 := fun (o1 o2 : Obj) => ((Below.refl w.heap.size w).alloc (Nat.le_refl _) o1).alloc (by simp) o2
  have HB2 := Lib.hid hb2; clear hb2
  have ho := fun (o1 o2 : Obj) => h.below (HB2.out o1 o2)
  have HO := Lib.hid ho; clear ho h
  by_cases hf : ab z < pw 60
  · rw [(fits hf).1, (fits hf).2]
    have hn : decide ((60 : Int) < (n : Int)) = false := decide_eq_false (by have := hl.2 hf; omega)
    clear hf hl
    go_enter Tryz.func61, Tryz.ntmps61
    go_wp2_with fail
    refine bodyPost_ret (v := .tuple #[.agg #[.int .i64 s, .slice A n c], .int .i64 0]) (by simp [results, Tryz.results61, go_sem]) rfl ?_
    exact ⟨_, rfl, HO.out _ _, HB2.out _ _⟩
  · have e1 : fite z = 6 := if_neg hf
    have e2 : fitz z = 0 := if_neg hf
    rw [e1, e2]
    have hn : decide ((60 : Int) < (n : Int)) = true := decide_eq_true (by
      rcases Nat.lt_or_ge 60 n with g | g
      · omega
      · exact absurd (hl.1 g) hf)
    clear hf hl e1 e2
    go_enter Tryz.func61, Tryz.ntmps61
    go_wp2_with fail
    refine bodyPost_ret (v := .tuple #[.agg #[.int .i64 0, .slice none 0 0], .int .i64 6]) (by simp [results, Tryz.results61, go_sem]) rfl ?_
    exact ⟨_, rfl, BO.zero _ _, HB2.out _ _⟩

/-- Neg of a right big integer. -/
theorem bv_sv {w : World} {s : Int} {A : Option Addr} {n c : Nat} {z : Int} (h : BV w w.heap.size (.agg #[.int .i64 s, .slice A n c]) z) : Sv w (.slice A n c) (D (ab z)) ∧ s = sgn z ∧ (D (ab z)).length = n := by
  obtain ⟨A', c', e, h1, h2, h3⟩ := h
  injection e with e
  have e0 := congrArg (fun (a : Array Value) => a[0]?) e
  have e1 := congrArg (fun (a : Array Value) => a[1]?) e
  simp at e0 e1
  obtain ⟨rfl, rfl, rfl⟩ := e1
  exact ⟨⟨_, _, rfl, h1, h2, h3⟩, e0, rfl⟩
theorem bv_ar {w : World} {s : Int} {A : Option Addr} {n c : Nat} {z : Int} (h : BV w w.heap.size (.agg #[.int .i64 s, .slice A n c]) z) : Ar w s (D (ab z)) A n c := by
  obtain ⟨A', c', e, h1, h2, h3⟩ := h
  injection e with e
  have e1 := congrArg (fun (a : Array Value) => a[1]?) e
  simp at e1
  obtain ⟨rfl, rfl, rfl⟩ := e1
  exact ⟨rfl, h3, h1, h2⟩
theorem rRight_yes {w : World} {s : Int} {A : Option Addr} {n c : Nat} {z : Int} (h : BV w w.heap.size (.agg #[.int .i64 s, .slice A n c]) z) (hz : ab z < pw 60) :
    Calls Tryz.prog 23 #[.agg #[.int .i64 s, .slice A n c]] w fun e w' => e = .returned (.bool true) ∧ Below w.heap.size w w' :=
  rRight_any s (D (ab z)) A n c w (bv_ar h) true (by simp only [true_iff]; exact ⟨z, (bv_sv h).2.1, rfl, hz⟩)
theorem sgn_nv (z : Int) : sgn z * nv (D (ab z)) = z := by rw [nv_D (ab_nonneg z)]; exact sgn_ab z
theorem sgn_or (z : Int) : sgn z = 1 ∨ sgn z = -1 ∨ nv (D (ab z)) = 0 := by
  rw [nv_D (ab_nonneg z)]
  unfold sgn ab
  split
  · exact .inr (.inl rfl)
  · split
    · exact .inr (.inr (by omega))
    · exact .inl rfl

set_option maxRecDepth 100000 in
set_option maxHeartbeats 2000000 in
theorem rneg_any {s : Int} {A : Option Addr} {n c : Nat} {z : Int} (w : World) (h : BV w w.heap.size (.agg #[.int .i64 s, .slice A n c]) z) (hz : ab z < pw 60) :
    Calls Tryz.prog 30 #[.agg #[.int .i64 s, .slice A n c]] w fun e w' => ∃ r, e = .returned r ∧ BO w' w.heap.size r (-z) ∧ Below w.heap.size w w' := by
  have hsb := sgn_bd z
  have hs := (bv_sv h).2.1
  have hn60 : (D (ab z)).length ≤ 60 := (D_len_le (ab_nonneg z)).2 hz
  have hmd := fun (w' : World) (hb : Below w.heap.size w w') => rmade_any (D (ab z)) (-s) (-z) (.slice A n c) w' (bv_sv (h.later hb)).1 (Dig_D _) (by omega) (by rw [hs, Int.neg_mul, sgn_nv]) (by rw [hs]; rcases sgn_or z with h | h | h <;> omega)
  have hrt := fun (w' : World) (hb : Below w.heap.size w w') => rRight_yes (h.later hb) hz
  rw [← hs] at hsb
  obtain ⟨hs0, hs1⟩ := hsb
  have HMD := Lib.hid hmd; clear hmd
  have HRT := Lib.hid hrt; clear hrt
  clear hs hn60 hz h
  obtain ⟨W, hW, hbx, k1, k2, hsz⟩ := boxes2 w #[.int .i64 s, .slice A n c] #[.int .i64 0, .slice none 0 0]
  have hlt : w.heap.size + 1 < W.heap.size := k2.lt
  go_enter Tryz.func30, Tryz.ntmps30
  go_wp2_with fail
  rw [← hW]
  clear hW hsz
  have hT := hbx
  have a0 := k1.cell 0
  have a1 := k1.cell 1
  simp at a0 a1
  go_wp2_with fail
  clear a0 a1
  (with_reducible refine (HRT.out _ hT).mono ?_)
  rintro e u1 ⟨rfl, hb9⟩
  have hT := hT.trans (hb9.mono hT.size)
  have k1 := k1.below hb9 k1.lt
  have k2 := k2.below hb9 k2.lt
  have a0 := k1.cell 0
  have a1 := k1.cell 1
  simp at a0 a1
  have hl2 := k2.lt
  go_wp2_with fail
  clear a0 a1
  (with_reducible refine (HMD.out _ hT).mono ?_)
  rintro e u2 ⟨r, rfl, hr, hb9⟩
  have hT := hT.trans (hb9.mono hT.size)
  have k2 := k2.below hb9 hl2
  obtain ⟨s', A', n', c', rfl⟩ := hr.form
  have gR : w.heap.size ≤ w.heap.size + 1 := by omega
  have r0 := k2.cell 0
  have r1 := k2.cell 1
  have f0 := k2.frozen 0
  have f1 := k2.frozen 1
  simp at r0 r1
  have hbs := k2.set2 (.int .i64 s') (.slice A' n' c')
  have x0 := hbs.cell 0
  have x1 := hbs.cell 1
  simp at x0 x1
  go_wp2_with fail
  refine bodyPost_ret (v := .agg #[.int .i64 s', .slice A' n' c']) (by simp [results, Tryz.results30, go_sem, x0, x1]) rfl ?_
  exact ⟨_, rfl, (hr.far2 hl2 _ _).mono (by omega), below_st hT gR _ _⟩

end Go.Proofs.YtkjpfnbdlbnbkaaGreatDoor

namespace Go.Proofs.YtkjpfnbdlbnbkaaGreatDoor
open Go.RowKit

/-- The fraction of two integers, as a rational number. -/
theorem new_num {p q a r : Int} (hq : q ≠ 0) (h : QR p (if q < 0 then -((Int.gcd p q : Nat) : Int) else ((Int.gcd p q : Nat) : Int)) a r) : a = (Rat.divInt p q).num := by
  have hg : 0 < ((Int.gcd p q : Nat) : Int) := gcd_pos (.inr hq)
  have hr : r = 0 := qr_dvd h (by
    split
    · exact Int.neg_dvd.2 (Int.gcd_dvd_left p q)
    · exact Int.gcd_dvd_left p q)
  have h1 := h.1
  rw [hr, Int.add_zero] at h1
  rw [Rat.num_divInt, Int.gcd_comm q p]
  split at h1
  · rename_i hn
    rw [Int.sign_eq_neg_one_of_neg hn]
    refine Int.eq_ediv_of_mul_eq_right (by omega) ?_
    rw [Int.mul_neg] at h1
    have h2 : a * ((Int.gcd p q : Nat) : Int) = -1 * p := by omega
    rw [Int.mul_comm]
    exact h2
  · rename_i hn
    rw [Int.sign_eq_one_of_pos (by omega)]
    refine Int.eq_ediv_of_mul_eq_right (by omega) ?_
    rw [Int.one_mul]
    rw [Int.mul_comm]
    exact h1.symm
theorem new_den {p q a r : Int} (hq : q ≠ 0) (h : QR q (if q < 0 then -((Int.gcd p q : Nat) : Int) else ((Int.gcd p q : Nat) : Int)) a r) : a = (((Rat.divInt p q).den : Nat) : Int) := by
  have hg : 0 < ((Int.gcd p q : Nat) : Int) := gcd_pos (.inr hq)
  have hr : r = 0 := qr_dvd h (by
    split
    · exact Int.neg_dvd.2 (Int.gcd_dvd_right p q)
    · exact Int.gcd_dvd_right p q)
  have h1 := h.1
  rw [hr, Int.add_zero] at h1
  rw [Rat.den_divInt, if_neg hq, Int.gcd_comm q p, Int.natCast_ediv]
  refine Int.eq_ediv_of_mul_eq_right (by omega) ?_
  split at h1
  · rename_i hn
    have : ((q.natAbs : Nat) : Int) = -q := by omega
    rw [this]
    rw [Int.mul_neg] at h1
    have h2 : a * ((Int.gcd p q : Nat) : Int) = -q := by omega
    rw [Int.mul_comm]
    exact h2
  · rename_i hn
    have : ((q.natAbs : Nat) : Int) = q := by omega
    rw [this, Int.mul_comm]
    exact h1.symm

/-- Two integers that are the parts of a right fraction. -/
def FR (p q : Int) : Prop := 0 < q ∧ ((Int.gcd p q : Nat) : Int) = 1
theorem FR.rat {p q : Int} (h : FR p q) : ∃ r : Rat, p = r.num ∧ q = (r.den : Int) := by
  obtain ⟨h1, h2⟩ := h
  refine ⟨Rat.divInt p q, ?_, ?_⟩
  · rw [Rat.num_divInt, Int.sign_eq_one_of_pos h1, Int.gcd_comm, h2]; omega
  · rw [Rat.den_divInt, if_neg (by omega), Int.gcd_comm]
    have : Int.gcd p q = 1 := by omega
    rw [this, Nat.div_one]; omega
theorem FR.of (r : Rat) : FR r.num (r.den : Int) := by
  refine ⟨by have := r.den_nz; omega, ?_⟩
  have := r.reduced
  unfold Nat.Coprime at this
  have h : Int.gcd r.num (r.den : Int) = Nat.gcd r.num.natAbs r.den := rfl
  omega
theorem divInt_self (r : Rat) : Rat.divInt r.num (r.den : Int) = r := Rat.num_divInt_den r
theorem den_ne (r : Rat) : (r.den : Int) ≠ 0 := by have := r.den_nz; omega
theorem rat_add (a b : Rat) : Rat.divInt (a.num * b.den + b.num * a.den) (a.den * b.den) = a + b := by
  rw [← Rat.divInt_add_divInt _ _ (den_ne a) (den_ne b), divInt_self, divInt_self]
theorem rat_sub (a b : Rat) : Rat.divInt (a.num * b.den - b.num * a.den) (a.den * b.den) = a - b := by
  rw [← Rat.divInt_sub_divInt _ _ (den_ne a) (den_ne b), divInt_self, divInt_self]
theorem rat_mul (a b : Rat) : Rat.divInt (a.num * b.num) (a.den * b.den) = a * b := by
  rw [← Rat.divInt_mul_divInt, divInt_self, divInt_self]
theorem rat_div (a b : Rat) : Rat.divInt (a.num * b.den) (a.den * b.num) = a / b := by
  rw [← Rat.divInt_mul_divInt, divInt_self, Rat.div_def]
  conv => rhs; rw [← divInt_self b, Rat.inv_divInt]

/-- What is reduced is not longer. -/
theorem num_lt {p q : Int} {k : Nat} (hq : q ≠ 0) (h : ab p < pw k) : ab (Rat.divInt p q).num < pw k := by
  rw [Rat.num_divInt]
  have hg : 0 < ((Int.gcd q p : Nat) : Int) := gcd_pos (.inl hq)
  have h1 : (q.sign * p / ((Int.gcd q p : Nat) : Int)).natAbs ≤ (q.sign * p).natAbs := Int.natAbs_ediv_le_natAbs _ _
  rw [Int.natAbs_mul] at h1
  have h2 : q.sign.natAbs ≤ 1 := by
    rcases Int.lt_trichotomy q 0 with h | h | h
    · rw [Int.sign_eq_neg_one_of_neg h]; decide
    · omega
    · rw [Int.sign_eq_one_of_pos h]; decide
  have h3 : q.sign.natAbs * p.natAbs ≤ 1 * p.natAbs := Nat.mul_le_mul_right _ h2
  unfold ab at *
  omega
theorem den_lt {p q : Int} {k : Nat} (hq : q ≠ 0) (h : ab q < pw k) : ab (((Rat.divInt p q).den : Nat) : Int) < pw k := by
  rw [Rat.den_divInt, if_neg hq]
  have h1 : q.natAbs / Int.gcd q p ≤ q.natAbs := Nat.div_le_self _ _
  obtain ⟨m, hm⟩ : ∃ m, q.natAbs / Int.gcd q p = m := ⟨_, rfl⟩
  rw [hm] at h1 ⊢
  unfold ab at *
  omega

/-- The order of two fractions. -/
def cmpR (a b : Rat) : Int := if a < b then -1 else if b < a then 1 else 0
theorem cmpR_int (a b : Rat) : cmpR a b = Lib.compareInt (a.num * b.den) (b.num * a.den) := by
  unfold cmpR Lib.compareInt
  simp only [Rat.lt_iff, gt_iff_lt]
theorem floor_of {n d q r : Int} (hd : 0 < d) (h : QR n d q r) : n = q * d + r ∧ 0 ≤ r ∧ r < d := by
  obtain ⟨h1, h2, h3, _⟩ := h
  have h4 : sgn d = 1 := sgn_pos hd
  have h5 : 0 ≤ r := by
    rcases h2 with h2 | h2
    · omega
    · rw [h4] at h2
      unfold sgn at h2
      split at h2
      · omega
      · omega
  exact ⟨h1, h5, by unfold ab at h3; omega⟩
theorem rat_floor (a : Rat) {q r : Int} (h : QR a.num a.den q r) : q = a.floor := by
  have hd := (FR.of a).1
  obtain ⟨h1, h2, h3⟩ := floor_of hd h
  have key : ∀ x : Int, x ≤ a.floor ↔ x * a.den ≤ a.num := fun x => by
    rw [Rat.le_floor_iff, Rat.le_iff, Rat.num_intCast, Rat.den_intCast]
    simp
  have k1 := (key q).2 (by omega)
  have k2 : ¬ q + 1 ≤ a.floor := fun h' => by
    have := (key (q + 1)).1 h'
    rw [Int.add_mul, Int.one_mul] at this
    omega
  omega

end Go.Proofs.YtkjpfnbdlbnbkaaGreatDoor

namespace Go.Proofs.YtkjpfnbdlbnbkaaGreatDoor
open Go.RowKit

/-- The order of two fractions with numbers above 0 below. -/
def ordI (p1 q1 p2 q2 : Int) : Int := Lib.compareInt (p1 * q2) (p2 * q1)
theorem cmp_of_lt {x y : Int} (h : x < y) : Lib.compareInt x y = -1 := by unfold Lib.compareInt; rw [if_pos h]
theorem cmp_of_gt {x y : Int} (h : y < x) : Lib.compareInt x y = 1 := by unfold Lib.compareInt; rw [if_neg (by omega), if_pos (by omega)]
theorem cmp_of_eq {x y : Int} (h : x = y) : Lib.compareInt x y = 0 := by unfold Lib.compareInt; rw [if_neg (by omega), if_neg (by omega)]

theorem floor_lt {p1 q1 p2 q2 x r1 y r2 : Int} (hq1 : 0 < q1) (hq2 : 0 < q2) (h1 : QR p1 q1 x r1) (h2 : QR p2 q2 y r2) (h : x < y) : p1 * q2 < p2 * q1 := by
  obtain ⟨a1, a2, a3⟩ := floor_of hq1 h1
  obtain ⟨b1, b2, b3⟩ := floor_of hq2 h2
  have c1 : p1 < y * q1 := by
    have : (x + 1) * q1 ≤ y * q1 := Int.mul_le_mul_of_nonneg_right (by omega) (by omega)
    rw [Int.add_mul, Int.one_mul] at this
    omega
  have c2 : y * q2 ≤ p2 := by omega
  have c3 : p1 * q2 < (y * q1) * q2 := Int.mul_lt_mul_of_pos_right c1 hq2
  have c4 : (y * q2) * q1 ≤ p2 * q1 := Int.mul_le_mul_of_nonneg_right c2 (by omega)
  have c5 : (y * q1) * q2 = (y * q2) * q1 := by rw [Int.mul_assoc, Int.mul_comm q1 q2, ← Int.mul_assoc]
  omega
theorem ord_ne {p1 q1 p2 q2 x r1 y r2 : Int} (hq1 : 0 < q1) (hq2 : 0 < q2) (h1 : QR p1 q1 x r1) (h2 : QR p2 q2 y r2) (h : x ≠ y) : ordI p1 q1 p2 q2 = Lib.compareInt x y := by
  unfold ordI
  rcases Int.lt_or_gt_of_ne h with h' | h'
  · rw [cmp_of_lt h', cmp_of_lt (floor_lt hq1 hq2 h1 h2 h')]
  · rw [cmp_of_gt h', cmp_of_gt (floor_lt hq2 hq1 h2 h1 h')]
theorem ord_eq {p1 q1 p2 q2 x r1 r2 : Int} (h1 : QR p1 q1 x r1) (h2 : QR p2 q2 x r2) : ordI p1 q1 p2 q2 = ordI r1 q1 r2 q2 := by
  unfold ordI
  rw [← cmp_sub, ← cmp_sub]
  congr 1
  rw [h1.1, h2.1, Int.add_mul, Int.add_mul]
  have : x * q1 * q2 = x * q2 * q1 := by rw [Int.mul_assoc, Int.mul_comm q1 q2, ← Int.mul_assoc]
  omega
theorem ord_zero {q1 q2 r1 r2 : Int} (hq1 : 0 < q1) (hq2 : 0 < q2) (h1 : 0 ≤ r1) (h2 : 0 ≤ r2) (h : r1 = 0 ∨ r2 = 0) : ordI r1 q1 r2 q2 = Lib.compareInt (sgn r1) (sgn r2) := by
  unfold ordI
  rcases Int.lt_or_eq_of_le h1 with a | a
  · rcases Int.lt_or_eq_of_le h2 with b | b
    · omega
    · subst b
      rw [sgn_pos a, Int.zero_mul, sgn_zero, cmp_of_gt (Int.mul_pos a hq2)]; rfl
  · subst a
    rcases Int.lt_or_eq_of_le h2 with b | b
    · rw [sgn_pos b, Int.zero_mul, sgn_zero, cmp_of_lt (Int.mul_pos b hq1)]; rfl
    · subst b
      rw [Int.zero_mul, Int.zero_mul, sgn_zero]
theorem ord_turn (q1 q2 r1 r2 : Int) : ordI q1 r1 q2 r2 = -ordI r1 q1 r2 q2 := by
  unfold ordI
  rw [← cmp_neg, Int.mul_comm q1 r2, Int.mul_comm q2 r1]
theorem ordR (a b : Rat) : ordI a.num a.den b.num b.den = cmpR a b := (cmpR_int a b).symm

end Go.Proofs.YtkjpfnbdlbnbkaaGreatDoor
