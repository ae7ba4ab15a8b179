/- Plain: how long fractions become; their order and their integral parts. No program. Walks: Add and Sub of fractions, where there is no room, and any right ones. Printed by a program (fcomb2.py). Walks: the reference's Same and Few. Walks: Text of a right fraction. Walks: Right of a fraction as it came in; Text of what is not right. Opening of the laws' arguments: a fraction as it came in. -/
import Derived.Test.YtlbjaimgoiimgaaXah
import Derived.Test.YtlbjaimgoiimgaaXai
import Derived.Test.YtlbjaimgoiimgaaXae
import Derived.Laws.Concat
import Derived.Test.YtlbjaimgoiimgaaXad

namespace Go.Proofs.Ytlbjaimgoiimgaa
open Go.RowKit

/-- A fraction with so many digits at most above and below. -/
structure Rb (x : Rat) (k m : Nat) : Prop where
  n : ab x.num < pw k
  d : ab (x.den : Int) < pw m
section
variable {x y z : Rat} {k m k' m' e f : Nat}
theorem Rb.n60 (h : Rb x k m) (h1 : k ≤ 60) : ab x.num < pw 60 := up h.n h1
theorem Rb.d60 (h : Rb x k m) (h1 : m ≤ 60) : ab (x.den : Int) < pw 60 := up h.d h1
theorem den2_ne (x y : Rat) : (x.den : Int) * y.den ≠ 0 := Int.mul_ne_zero (den_ne x) (den_ne y)
theorem Rb.add (hx : Rb x k m) (hy : Rb y k' m') (h1 : k + m' < e) (h2 : k' + m < e) (h3 : f = m + m') : Rb (x + y) e f := by
  rw [← rat_add]
  exact ⟨num_lt (den2_ne x y) (ab_add_lt (ab_mul_lt hx.n hy.d rfl) (ab_mul_lt hy.n hx.d rfl) h1 h2), den_lt (den2_ne x y) (ab_mul_lt hx.d hy.d h3)⟩
theorem Rb.sub (hx : Rb x k m) (hy : Rb y k' m') (h1 : k + m' < e) (h2 : k' + m < e) (h3 : f = m + m') : Rb (x - y) e f := by
  rw [← rat_sub]
  exact ⟨num_lt (den2_ne x y) (ab_sub_lt (ab_mul_lt hx.n hy.d rfl) (ab_mul_lt hy.n hx.d rfl) h1 h2), den_lt (den2_ne x y) (ab_mul_lt hx.d hy.d h3)⟩
theorem Rb.mul (hx : Rb x k m) (hy : Rb y k' m') (h1 : e = k + k') (h3 : f = m + m') : Rb (x * y) e f := by
  rw [← rat_mul]
  exact ⟨num_lt (den2_ne x y) (ab_mul_lt hx.n hy.n h1), den_lt (den2_ne x y) (ab_mul_lt hx.d hy.d h3)⟩
theorem num_ne {x : Rat} (h : x ≠ 0) : x.num ≠ 0 := fun h' => h (Rat.num_eq_zero.1 h')
theorem Rb.div (hx : Rb x k m) (hy : Rb y k' m') (h0 : y ≠ 0) (h1 : e = k + m') (h3 : f = m + k') : Rb (x / y) e f := by
  rw [← rat_div]
  have hn : (x.den : Int) * y.num ≠ 0 := Int.mul_ne_zero (den_ne x) (num_ne h0)
  exact ⟨num_lt hn (ab_mul_lt hx.n hy.d h1), den_lt hn (ab_mul_lt hx.d hy.n h3)⟩
theorem Rb.neg (hx : Rb x k m) : Rb (-x) k m := ⟨by rw [Rat.neg_num, ab_neg]; exact hx.n, hx.d⟩

theorem cmpR_lt (h : x < y) : cmpR x y = -1 := by unfold cmpR; rw [if_pos h]
theorem cmpR_gt (h : y < x) : cmpR x y = 1 := by unfold cmpR; rw [if_neg (by grind), if_pos h]
theorem cmpR_self (x : Rat) : cmpR x x = 0 := by unfold cmpR; rw [if_neg (by grind), if_neg (by grind)]
theorem cmpR_cases (x y : Rat) : (x < y ∧ cmpR x y = -1) ∨ (x = y ∧ cmpR x y = 0) ∨ (y < x ∧ cmpR x y = 1) := by
  by_cases h : x < y
  · exact .inl ⟨h, cmpR_lt h⟩
  · by_cases h2 : y < x
    · exact .inr (.inr ⟨h2, cmpR_gt h2⟩)
    · obtain rfl : x = y := by grind
      exact .inr (.inl ⟨rfl, cmpR_self x⟩)
theorem cmpR_bd (x y : Rat) : -1 ≤ cmpR x y ∧ cmpR x y ≤ 1 := by rcases cmpR_cases x y with ⟨_, h⟩ | ⟨_, h⟩ | ⟨_, h⟩ <;> omega
theorem cmpR_zero : cmpR x y = 0 ↔ x = y := by
  rcases cmpR_cases x y with ⟨a, h⟩ | ⟨a, h⟩ | ⟨a, h⟩
  · constructor
    · intro; omega
    · rintro rfl; grind
  · exact ⟨fun _ => a, fun _ => h⟩
  · constructor
    · intro; omega
    · rintro rfl; grind
theorem cmpR_turn (x y : Rat) : cmpR y x = -cmpR x y := by
  rcases cmpR_cases x y with ⟨a, h⟩ | ⟨rfl, h⟩ | ⟨a, h⟩
  · rw [h, cmpR_gt a]; rfl
  · rw [h]; rfl
  · rw [h, cmpR_lt a]
theorem cmpR_trans (h1 : cmpR x y ≤ 0) (h2 : cmpR y z ≤ 0) : cmpR x z ≤ 0 := by
  rcases cmpR_cases x y with ⟨a, h⟩ | ⟨rfl, h⟩ | ⟨a, h⟩
  · rcases cmpR_cases y z with ⟨b, h'⟩ | ⟨rfl, h'⟩ | ⟨b, h'⟩
    · rw [cmpR_lt (by grind)]; omega
    · rw [cmpR_lt a]; omega
    · omega
  · exact h2
  · omega
theorem cmpR_of {u v : Rat} (h1 : x < y → u < v) (h2 : x = y → u = v) (h3 : y < x → v < u) : cmpR u v = cmpR x y := by
  rcases cmpR_cases x y with ⟨a, h⟩ | ⟨a, h⟩ | ⟨a, h⟩
  · rw [h, cmpR_lt (h1 a)]
  · rw [h, h2 a, cmpR_self]
  · rw [h, cmpR_gt (h3 a)]
theorem cmpR_add (x y z : Rat) : cmpR (x + z) (y + z) = cmpR x y := cmpR_of (by grind) (by grind) (by grind)
theorem sgn_num (x : Rat) : sgn x.num = cmpR x 0 := by
  have k1 : 0 ≤ x.num ↔ 0 ≤ x := Rat.num_nonneg
  have k2 : x.num = 0 ↔ x = 0 := Rat.num_eq_zero
  rcases cmpR_cases x 0 with ⟨a, h⟩ | ⟨a, h⟩ | ⟨a, h⟩
  · have : ¬ 0 ≤ x := by grind
    rw [← k1] at this
    rw [h, sgn_of_neg (by omega)]
  · rw [h, a]; rfl
  · have h1 : 0 ≤ x := by grind
    have h2 : x ≠ 0 := by grind
    rw [← k1] at h1
    rw [Ne, ← k2] at h2
    rw [h, sgn_pos (by omega)]
theorem sgn_sub (x y : Rat) : sgn (x - y).num = cmpR x y := by
  rw [sgn_num]; exact cmpR_of (by grind) (by grind) (by grind)
theorem mul_neg_lt (h : x < y) (hz : z < 0) : y * z < x * z := by
  have := Rat.mul_lt_mul_of_pos_right h (show 0 < -z by grind)
  grind
theorem cmpR_mul (x y z : Rat) : cmpR (x * z) (y * z) = cmpR x y * sgn z.num := by
  rw [sgn_num]
  rcases cmpR_cases z 0 with ⟨a, h⟩ | ⟨a, h⟩ | ⟨a, h⟩
  · rw [h, Int.mul_neg, Int.mul_one, ← cmpR_turn]
    exact cmpR_of (fun h => mul_neg_lt h a) (by grind) (fun h => mul_neg_lt h a)
  · rw [h, a, Rat.mul_zero, Rat.mul_zero, Int.mul_zero, cmpR_self]
  · rw [h, Int.mul_one]
    exact cmpR_of (fun h => Rat.mul_lt_mul_of_pos_right h a) (by grind) (fun h => Rat.mul_lt_mul_of_pos_right h a)
theorem same_rat (x y : Rat) : decide (x.num = y.num ∧ (x.den : Int) = y.den) = decide (x = y) := by
  rw [decide_eq_decide]
  constructor
  · rintro ⟨a, b⟩; exact Rat.ext a (by omega)
  · rintro rfl; exact ⟨rfl, rfl⟩

/-- The integral part of the opposite. -/
theorem floor_neg_int {x : Rat} (h : x = (x.floor : Rat)) : (-x).floor = -x.floor := by
  conv => lhs; rw [h]
  rw [← Rat.intCast_neg, Rat.floor_intCast]
theorem floor_neg_not {x : Rat} (h : x ≠ (x.floor : Rat)) : (-x).floor = -(x.floor + 1) := by
  have h1 : (x.floor : Rat) < x := by have := Rat.floor_le x; grind
  have h2 := Rat.lt_floor_add_one x
  rw [Rat.intCast_add] at h2
  have key : ∀ z : Int, z ≤ (-x).floor ↔ (z : Rat) ≤ -x := fun z => Rat.le_floor_iff
  have k1 : -(x.floor + 1) ≤ (-x).floor := by
    rw [key, Rat.intCast_neg, Rat.intCast_add]; grind
  have k2 : ¬ -(x.floor + 1) + 1 ≤ (-x).floor := by
    rw [key, show -(x.floor + 1) + 1 = -x.floor by omega, Rat.intCast_neg]; grind
  omega
theorem ab_floor {x : Rat} (h : ab x.num < pw k) : ab x.floor < pw (k + 1) := by
  have h1 := pw_le (show k ≤ k + 1 by omega)
  have hs := pw_succ k
  have hp := pw_pos k
  have hd := (FR.of x).1
  have key : x.floor = x.num / x.den := Rat.floor_def x
  have h2 : (x.num / (x.den : Int)).natAbs ≤ x.num.natAbs := Int.natAbs_ediv_le_natAbs _ _
  rw [← key] at h2
  unfold ab at *
  omega
end

end Go.Proofs.Ytlbjaimgoiimgaa

namespace Go.Proofs.Ytlbjaimgoiimgaa
open Go.RowKit

theorem fite_06 {z e : Int} (h : fite z = e) : e = 0 ∨ e = 6 := by
  subst h; unfold fite; split
  · exact .inl rfl
  · exact .inr rfl
theorem fite_0 {z : Int} (h : fite z = 0) : ab z < pw 60 := by
  unfold fite at h; split at h
  · assumption
  · cases h
theorem max4_full (P : Program) (W : World) (ts : Array TypeId) (t : TypeId) {a b c d : Int} (ha : a = 0 ∨ a = 6) (hb : b = 0 ∨ b = 6) (hc : c = 0 ∨ c = 6) (hd : d = 0 ∨ d = 6) (h : ¬ (a = 0 ∧ b = 0 ∧ c = 0 ∧ d = 0)) :
    (Builtin.max_ ts t #[.int .i64 a, .int .i64 b, .int .i64 c, .int .i64 d]).run P W = .ok (.int .i64 6) W := by
  rcases ha with rfl | rfl <;> rcases hb with rfl | rfl <;> rcases hc with rfl | rfl <;> rcases hd with rfl | rfl <;> first | exact absurd ⟨rfl, rfl, rfl, rfl⟩ h | simp [Builtin.max_, Builtin.max2]

set_option maxRecDepth 100000 in
set_option maxHeartbeats 8000000 in
theorem combine_add_full (s1 s2 s3 s4 : Int) (A1 A2 A3 A4 : Option Addr) (n1 d1 n2 d2 n3 d3 n4 d4 : Nat) (p1 q1 p2 q2 : Int) (w : World) (ha : FV w w.heap.size s1 A1 n1 d1 s2 A2 n2 d2 p1 q1) (hb : FV w w.heap.size s3 A3 n3 d3 s4 A4 n4 d4 p2 q2) (h1 : ab p1 < pw 60) (h2 : ab q1 < pw 60) (h3 : ab p2 < pw 60) (h4 : ab q2 < pw 60) (f1 : FR p1 q1) (f2 : FR p2 q2) (hf : ¬ (ab (p1 * q2) < pw 60 ∧ ab (p2 * q1) < pw 60 ∧ ab (p1 * q2 + p2 * q1) < pw 60 ∧ ab (q1 * q2) < pw 60)) :
    Calls Try.prog 37 #[.agg #[.int .i64 s1, .slice A1 n1 d1, .int .i64 s2, .slice A2 n2 d2], .agg #[.int .i64 s3, .slice A3 n3 d3, .int .i64 s4, .slice A4 n4 d4], .func (.func 38) #[] #[]] w fun e w' => e = .returned (.tuple #[.agg #[.int .i64 0, .slice none 0 0, .int .i64 0, .slice none 0 0], .int .i64 6]) ∧ Below w.heap.size w w' := by
  have H1 := Lib.hid h1; clear h1
  have H2 := Lib.hid h2; clear h2
  have H3 := Lib.hid h3; clear h3
  have H4 := Lib.hid h4; clear h4
  have F1 := Lib.hid f1; clear f1
  have F2 := Lib.hid f2; clear f2
  obtain ⟨Em, hEm⟩ : ∃ z, fite (p1 * q2) = z := ⟨_, rfl⟩
  obtain ⟨Zm, hZm⟩ : ∃ z, fitz (p1 * q2) = z := ⟨_, rfl⟩
  obtain ⟨En, hEn⟩ : ∃ z, fite (p2 * q1) = z := ⟨_, rfl⟩
  obtain ⟨Zn, hZn⟩ : ∃ z, fitz (p2 * q1) = z := ⟨_, rfl⟩
  obtain ⟨Es, hEs⟩ : ∃ z, fite (Zm + Zn) = z := ⟨_, rfl⟩
  obtain ⟨Zs, hZs⟩ : ∃ z, fitz (Zm + Zn) = z := ⟨_, rfl⟩
  obtain ⟨Et, hEt⟩ : ∃ z, fite (q1 * q2) = z := ⟨_, rfl⟩
  obtain ⟨Zt, hZt⟩ : ∃ z, fitz (q1 * q2) = z := ⟨_, rfl⟩
  have hz1 : ab Zm < pw 60 := by rw [← hZm]; exact fitz_lt _
  have hz2 : ab Zn < pw 60 := by rw [← hZn]; exact fitz_lt _
  have hmx := fun (W : World) (ts : Array TypeId) (t : TypeId) => max4_full Try.prog W ts t (fite_06 hEm) (fite_06 hEn) (fite_06 hEs) (fite_06 hEt) (fun ⟨a, b, c, d⟩ => hf (by
    subst a b c d
    have k1 := fite_0 hEm
    have k2 := fite_0 hEn
    have k3 := fite_0 hEs
    have k4 := fite_0 hEt
    rw [(fits k1).2] at hZm
    rw [(fits k2).2] at hZn
    subst hZm hZn
    exact ⟨k1, k2, k3, k4⟩))
  clear hf
  have HZ1 := Lib.hid hz1; clear hz1
  have HZ2 := Lib.hid hz2; clear hz2
  have HEm := Lib.hid hEm; clear hEm
  have HZm := Lib.hid hZm; clear hZm
  have HEn := Lib.hid hEn; clear hEn
  have HZn := Lib.hid hZn; clear hZn
  have HEs := Lib.hid hEs; clear hEs
  have HZs := Lib.hid hZs; clear hZs
  have HEt := Lib.hid hEt; clear hEt
  have HZt := Lib.hid hZt; clear hZt
  have HMX := Lib.hid hmx; clear hmx
  go_enter Try.func37, Try.ntmps37
  go_wp2_with fail
  obtain ⟨W0, hW, hbx, ka, kb, kR⟩ := fboxes2 ha hb
  rw [← hW]
  clear hW ha hb
  have hT := hbx
  have za0 := ka.c0
  have za1 := ka.c1
  have za2 := ka.c2
  have za3 := ka.c3
  go_wp2_with fail
  clear za0 za1 za2 za3
  (with_reducible refine (fright_pos _ ka.fv H1.out H2.out (FR.pos F1.out) true (decide_eq_true (FR.one F1.out))).mono ?_)
  rintro e u1 ⟨rfl, hb9⟩
  have hT := hT.trans (hb9.mono hT.size)
  have ka := ka.below hb9
  have kb := kb.below hb9
  have kR := kR.below hb9
  have zb0 := kb.c0
  have zb1 := kb.c1
  have zb2 := kb.c2
  have zb3 := kb.c3
  go_wp2_with fail
  clear zb0 zb1 zb2 zb3
  (with_reducible refine (fright_pos _ kb.fv H3.out H4.out (FR.pos F2.out) true (decide_eq_true (FR.one F2.out))).mono ?_)
  rintro e u2 ⟨rfl, hb9⟩
  have hT := hT.trans (hb9.mono hT.size)
  have ka := ka.below hb9
  have kb := kb.below hb9
  have kR := kR.below hb9
  have za0 := ka.c0
  have za1 := ka.c1
  have zb2 := kb.c2
  have zb3 := kb.c3
  go_wp2_with fail
  clear za0 za1
  clear zb2 zb3
  (with_reducible refine (mul_any _ _ _ _ _ ka.fv.a kb.fv.b H1.out H4.out).mono ?_)
  rintro e u3 ⟨rm, rfl, hrm, hb9⟩
  have hT := hT.trans (hb9.mono hT.size)
  have ka := ka.below hb9
  have kb := kb.below hb9
  have kR := kR.below hb9
  rw [HEm.out]
  rw [HZm.out] at hrm
  obtain ⟨sm, Am, nm, cm, rfl⟩ := hrm.form
  have kby := kb.below ((Below.refl _ u3).alloc (Nat.le_refl _) (.cells #[.int .i64 sm, .slice Am nm cm] 38))
  have zb0y := kby.c0
  have zb1y := kby.c1
  have kay := ka.below ((Below.refl _ u3).alloc (Nat.le_refl _) (.cells #[.int .i64 sm, .slice Am nm cm] 38))
  have za2y := kay.c2
  have za3y := kay.c3
  go_wp2_with fail
  clear zb0y zb1y
  clear kby
  clear za2y za3y
  clear kay
  obtain ⟨Wm, hW, hbx, km⟩ := box1 hrm
  rw [← hW]
  clear hW
  have hT := hT.trans (hbx.mono hT.size)
  have ka := ka.below hbx
  have kb := kb.below hbx
  have kR := kR.below hbx
  (with_reducible refine (mul_any _ _ _ _ _ kb.fv.a ka.fv.b H3.out H2.out).mono ?_)
  rintro e u4 ⟨rn, rfl, hrn, hb9⟩
  have hT := hT.trans (hb9.mono hT.size)
  have ka := ka.below hb9
  have kb := kb.below hb9
  have kR := kR.below hb9
  have km := km.below hb9
  rw [HEn.out]
  rw [HZn.out] at hrn
  obtain ⟨sn, An, nn, cn, rfl⟩ := hrn.form
  have kmy := km.below ((Below.refl _ u4).alloc (Nat.le_refl _) (.cells #[.int .i64 sn, .slice An nn cn] 38))
  have zm0y := kmy.c0
  have zm1y := kmy.c1
  go_wp2_with fail
  clear zm0y zm1y
  clear kmy
  obtain ⟨Wn, hW, hbx, kn⟩ := box1 hrn
  rw [← hW]
  clear hW
  have hT := hT.trans (hbx.mono hT.size)
  have ka := ka.below hbx
  have kb := kb.below hbx
  have kR := kR.below hbx
  have km := km.below hbx
  (with_reducible refine (add_any _ _ _ _ _ km.bv kn.bv HZ1.out HZ2.out).mono ?_)
  rintro e u5 ⟨rs, rfl, hrs, hb9⟩
  have hT := hT.trans (hb9.mono hT.size)
  have ka := ka.below hb9
  have kb := kb.below hb9
  have kR := kR.below hb9
  have km := km.below hb9
  have kn := kn.below hb9
  rw [HEs.out]
  rw [HZs.out] at hrs
  obtain ⟨ss, As, ns, cs, rfl⟩ := hrs.form
  have kay := ka.below ((Below.refl _ u5).alloc (Nat.le_refl _) (.cells #[.int .i64 ss, .slice As ns cs] 38))
  have za2y := kay.c2
  have za3y := kay.c3
  have kby := kb.below ((Below.refl _ u5).alloc (Nat.le_refl _) (.cells #[.int .i64 ss, .slice As ns cs] 38))
  have zb2y := kby.c2
  have zb3y := kby.c3
  go_wp2_with fail
  clear za2y za3y
  clear kay
  clear zb2y zb3y
  clear kby
  obtain ⟨Ws, hW, hbx, ks⟩ := box1 hrs
  rw [← hW]
  clear hW
  have hT := hT.trans (hbx.mono hT.size)
  have ka := ka.below hbx
  have kb := kb.below hbx
  have kR := kR.below hbx
  have km := km.below hbx
  have kn := kn.below hbx
  (with_reducible refine (mul_any _ _ _ _ _ ka.fv.b kb.fv.b H2.out H4.out).mono ?_)
  rintro e u6 ⟨rt, rfl, hrt, hb9⟩
  have hT := hT.trans (hb9.mono hT.size)
  have ka := ka.below hb9
  have kb := kb.below hb9
  have kR := kR.below hb9
  have km := km.below hb9
  have kn := kn.below hb9
  have ks := ks.below hb9
  rw [HEt.out]
  rw [HZt.out] at hrt
  obtain ⟨st, At, nt, ct, rfl⟩ := hrt.form
  clear ka kb km kn ks
  have kR := kR.below ((Below.refl _ u6).alloc (Nat.le_refl _) (.cells #[.int .i64 st, .slice At nt ct] 38))
  have hT := hT.alloc hT.size (.cells #[.int .i64 st, .slice At nt ct] 38)
  have hmx := HMX.out; clear HMX
  have gR : w.heap.size ≤ w.heap.size + 1 + 1 := by omega
  have r0 := kR.blk.cell 0
  have r1 := kR.blk.cell 1
  have r2 := kR.blk.cell 2
  have r3 := kR.blk.cell 3
  have q0' := kR.blk.frozen 0
  have q1' := kR.blk.frozen 1
  have q2' := kR.blk.frozen 2
  have q3' := kR.blk.frozen 3
  simp at r0 r1 r2 r3
  have hbs := kR.blk.set4 (.int .i64 0) (.slice none 0 0) (.int .i64 0) (.slice none 0 0)
  have x0 := hbs.cell 0
  have x1 := hbs.cell 1
  have x2 := hbs.cell 2
  have x3 := hbs.cell 3
  simp at x0 x1 x2 x3
  go_wp2_with fail
  refine bodyPost_ret (v := .tuple #[.agg #[.int .i64 0, .slice none 0 0, .int .i64 0, .slice none 0 0], .int .i64 6]) (by simp [results, Try.results37, go_sem, x0, x1, x2, x3]) rfl ?_
  exact ⟨rfl, below_st4 hT gR _ _ _ _⟩

set_option maxRecDepth 100000 in
set_option maxHeartbeats 8000000 in
theorem combine_sub_full (s1 s2 s3 s4 : Int) (A1 A2 A3 A4 : Option Addr) (n1 d1 n2 d2 n3 d3 n4 d4 : Nat) (p1 q1 p2 q2 : Int) (w : World) (ha : FV w w.heap.size s1 A1 n1 d1 s2 A2 n2 d2 p1 q1) (hb : FV w w.heap.size s3 A3 n3 d3 s4 A4 n4 d4 p2 q2) (h1 : ab p1 < pw 60) (h2 : ab q1 < pw 60) (h3 : ab p2 < pw 60) (h4 : ab q2 < pw 60) (f1 : FR p1 q1) (f2 : FR p2 q2) (hf : ¬ (ab (p1 * q2) < pw 60 ∧ ab (p2 * q1) < pw 60 ∧ ab (p1 * q2 - p2 * q1) < pw 60 ∧ ab (q1 * q2) < pw 60)) :
    Calls Try.prog 37 #[.agg #[.int .i64 s1, .slice A1 n1 d1, .int .i64 s2, .slice A2 n2 d2], .agg #[.int .i64 s3, .slice A3 n3 d3, .int .i64 s4, .slice A4 n4 d4], .func (.func 44) #[] #[]] w fun e w' => e = .returned (.tuple #[.agg #[.int .i64 0, .slice none 0 0, .int .i64 0, .slice none 0 0], .int .i64 6]) ∧ Below w.heap.size w w' := by
  have H1 := Lib.hid h1; clear h1
  have H2 := Lib.hid h2; clear h2
  have H3 := Lib.hid h3; clear h3
  have H4 := Lib.hid h4; clear h4
  have F1 := Lib.hid f1; clear f1
  have F2 := Lib.hid f2; clear f2
  obtain ⟨Em, hEm⟩ : ∃ z, fite (p1 * q2) = z := ⟨_, rfl⟩
  obtain ⟨Zm, hZm⟩ : ∃ z, fitz (p1 * q2) = z := ⟨_, rfl⟩
  obtain ⟨En, hEn⟩ : ∃ z, fite (p2 * q1) = z := ⟨_, rfl⟩
  obtain ⟨Zn, hZn⟩ : ∃ z, fitz (p2 * q1) = z := ⟨_, rfl⟩
  obtain ⟨Es, hEs⟩ : ∃ z, fite (Zm - Zn) = z := ⟨_, rfl⟩
  obtain ⟨Zs, hZs⟩ : ∃ z, fitz (Zm - Zn) = z := ⟨_, rfl⟩
  obtain ⟨Et, hEt⟩ : ∃ z, fite (q1 * q2) = z := ⟨_, rfl⟩
  obtain ⟨Zt, hZt⟩ : ∃ z, fitz (q1 * q2) = z := ⟨_, rfl⟩
  have hz1 : ab Zm < pw 60 := by rw [← hZm]; exact fitz_lt _
  have hz2 : ab Zn < pw 60 := by rw [← hZn]; exact fitz_lt _
  have hmx := fun (W : World) (ts : Array TypeId) (t : TypeId) => max4_full Try.prog W ts t (fite_06 hEm) (fite_06 hEn) (fite_06 hEs) (fite_06 hEt) (fun ⟨a, b, c, d⟩ => hf (by
    subst a b c d
    have k1 := fite_0 hEm
    have k2 := fite_0 hEn
    have k3 := fite_0 hEs
    have k4 := fite_0 hEt
    rw [(fits k1).2] at hZm
    rw [(fits k2).2] at hZn
    subst hZm hZn
    exact ⟨k1, k2, k3, k4⟩))
  clear hf
  have HZ1 := Lib.hid hz1; clear hz1
  have HZ2 := Lib.hid hz2; clear hz2
  have HEm := Lib.hid hEm; clear hEm
  have HZm := Lib.hid hZm; clear hZm
  have HEn := Lib.hid hEn; clear hEn
  have HZn := Lib.hid hZn; clear hZn
  have HEs := Lib.hid hEs; clear hEs
  have HZs := Lib.hid hZs; clear hZs
  have HEt := Lib.hid hEt; clear hEt
  have HZt := Lib.hid hZt; clear hZt
  have HMX := Lib.hid hmx; clear hmx
  go_enter Try.func37, Try.ntmps37
  go_wp2_with fail
  obtain ⟨W0, hW, hbx, ka, kb, kR⟩ := fboxes2 ha hb
  rw [← hW]
  clear hW ha hb
  have hT := hbx
  have za0 := ka.c0
  have za1 := ka.c1
  have za2 := ka.c2
  have za3 := ka.c3
  go_wp2_with fail
  clear za0 za1 za2 za3
  (with_reducible refine (fright_pos _ ka.fv H1.out H2.out (FR.pos F1.out) true (decide_eq_true (FR.one F1.out))).mono ?_)
  rintro e u1 ⟨rfl, hb9⟩
  have hT := hT.trans (hb9.mono hT.size)
  have ka := ka.below hb9
  have kb := kb.below hb9
  have kR := kR.below hb9
  have zb0 := kb.c0
  have zb1 := kb.c1
  have zb2 := kb.c2
  have zb3 := kb.c3
  go_wp2_with fail
  clear zb0 zb1 zb2 zb3
  (with_reducible refine (fright_pos _ kb.fv H3.out H4.out (FR.pos F2.out) true (decide_eq_true (FR.one F2.out))).mono ?_)
  rintro e u2 ⟨rfl, hb9⟩
  have hT := hT.trans (hb9.mono hT.size)
  have ka := ka.below hb9
  have kb := kb.below hb9
  have kR := kR.below hb9
  have za0 := ka.c0
  have za1 := ka.c1
  have zb2 := kb.c2
  have zb3 := kb.c3
  go_wp2_with fail
  clear za0 za1
  clear zb2 zb3
  (with_reducible refine (mul_any _ _ _ _ _ ka.fv.a kb.fv.b H1.out H4.out).mono ?_)
  rintro e u3 ⟨rm, rfl, hrm, hb9⟩
  have hT := hT.trans (hb9.mono hT.size)
  have ka := ka.below hb9
  have kb := kb.below hb9
  have kR := kR.below hb9
  rw [HEm.out]
  rw [HZm.out] at hrm
  obtain ⟨sm, Am, nm, cm, rfl⟩ := hrm.form
  have kby := kb.below ((Below.refl _ u3).alloc (Nat.le_refl _) (.cells #[.int .i64 sm, .slice Am nm cm] 38))
  have zb0y := kby.c0
  have zb1y := kby.c1
  have kay := ka.below ((Below.refl _ u3).alloc (Nat.le_refl _) (.cells #[.int .i64 sm, .slice Am nm cm] 38))
  have za2y := kay.c2
  have za3y := kay.c3
  go_wp2_with fail
  clear zb0y zb1y
  clear kby
  clear za2y za3y
  clear kay
  obtain ⟨Wm, hW, hbx, km⟩ := box1 hrm
  rw [← hW]
  clear hW
  have hT := hT.trans (hbx.mono hT.size)
  have ka := ka.below hbx
  have kb := kb.below hbx
  have kR := kR.below hbx
  (with_reducible refine (mul_any _ _ _ _ _ kb.fv.a ka.fv.b H3.out H2.out).mono ?_)
  rintro e u4 ⟨rn, rfl, hrn, hb9⟩
  have hT := hT.trans (hb9.mono hT.size)
  have ka := ka.below hb9
  have kb := kb.below hb9
  have kR := kR.below hb9
  have km := km.below hb9
  rw [HEn.out]
  rw [HZn.out] at hrn
  obtain ⟨sn, An, nn, cn, rfl⟩ := hrn.form
  have kmy := km.below ((Below.refl _ u4).alloc (Nat.le_refl _) (.cells #[.int .i64 sn, .slice An nn cn] 38))
  have zm0y := kmy.c0
  have zm1y := kmy.c1
  go_wp2_with fail
  clear zm0y zm1y
  clear kmy
  obtain ⟨Wn, hW, hbx, kn⟩ := box1 hrn
  rw [← hW]
  clear hW
  have hT := hT.trans (hbx.mono hT.size)
  have ka := ka.below hbx
  have kb := kb.below hbx
  have kR := kR.below hbx
  have km := km.below hbx
  (with_reducible refine (sub_any _ _ _ _ _ km.bv kn.bv HZ1.out HZ2.out).mono ?_)
  rintro e u5 ⟨rs, rfl, hrs, hb9⟩
  have hT := hT.trans (hb9.mono hT.size)
  have ka := ka.below hb9
  have kb := kb.below hb9
  have kR := kR.below hb9
  have km := km.below hb9
  have kn := kn.below hb9
  rw [HEs.out]
  rw [HZs.out] at hrs
  obtain ⟨ss, As, ns, cs, rfl⟩ := hrs.form
  have kay := ka.below ((Below.refl _ u5).alloc (Nat.le_refl _) (.cells #[.int .i64 ss, .slice As ns cs] 38))
  have za2y := kay.c2
  have za3y := kay.c3
  have kby := kb.below ((Below.refl _ u5).alloc (Nat.le_refl _) (.cells #[.int .i64 ss, .slice As ns cs] 38))
  have zb2y := kby.c2
  have zb3y := kby.c3
  go_wp2_with fail
  clear za2y za3y
  clear kay
  clear zb2y zb3y
  clear kby
  obtain ⟨Ws, hW, hbx, ks⟩ := box1 hrs
  rw [← hW]
  clear hW
  have hT := hT.trans (hbx.mono hT.size)
  have ka := ka.below hbx
  have kb := kb.below hbx
  have kR := kR.below hbx
  have km := km.below hbx
  have kn := kn.below hbx
  (with_reducible refine (mul_any _ _ _ _ _ ka.fv.b kb.fv.b H2.out H4.out).mono ?_)
  rintro e u6 ⟨rt, rfl, hrt, hb9⟩
  have hT := hT.trans (hb9.mono hT.size)
  have ka := ka.below hb9
  have kb := kb.below hb9
  have kR := kR.below hb9
  have km := km.below hb9
  have kn := kn.below hb9
  have ks := ks.below hb9
  rw [HEt.out]
  rw [HZt.out] at hrt
  obtain ⟨st, At, nt, ct, rfl⟩ := hrt.form
  clear ka kb km kn ks
  have kR := kR.below ((Below.refl _ u6).alloc (Nat.le_refl _) (.cells #[.int .i64 st, .slice At nt ct] 38))
  have hT := hT.alloc hT.size (.cells #[.int .i64 st, .slice At nt ct] 38)
  have hmx := HMX.out; clear HMX
  have gR : w.heap.size ≤ w.heap.size + 1 + 1 := by omega
  have r0 := kR.blk.cell 0
  have r1 := kR.blk.cell 1
  have r2 := kR.blk.cell 2
  have r3 := kR.blk.cell 3
  have q0' := kR.blk.frozen 0
  have q1' := kR.blk.frozen 1
  have q2' := kR.blk.frozen 2
  have q3' := kR.blk.frozen 3
  simp at r0 r1 r2 r3
  have hbs := kR.blk.set4 (.int .i64 0) (.slice none 0 0) (.int .i64 0) (.slice none 0 0)
  have x0 := hbs.cell 0
  have x1 := hbs.cell 1
  have x2 := hbs.cell 2
  have x3 := hbs.cell 3
  simp at x0 x1 x2 x3
  go_wp2_with fail
  refine bodyPost_ret (v := .tuple #[.agg #[.int .i64 0, .slice none 0 0, .int .i64 0, .slice none 0 0], .int .i64 6]) (by simp [results, Try.results37, go_sem, x0, x1, x2, x3]) rfl ?_
  exact ⟨rfl, below_st4 hT gR _ _ _ _⟩

set_option maxRecDepth 100000 in
set_option maxHeartbeats 8000000 in
theorem fadd_full (s1 s2 s3 s4 : Int) (A1 A2 A3 A4 : Option Addr) (n1 d1 n2 d2 n3 d3 n4 d4 : Nat) (p1 q1 p2 q2 : Int) (w : World) (ha : FV w w.heap.size s1 A1 n1 d1 s2 A2 n2 d2 p1 q1) (hb : FV w w.heap.size s3 A3 n3 d3 s4 A4 n4 d4 p2 q2) (h1 : ab p1 < pw 60) (h2 : ab q1 < pw 60) (h3 : ab p2 < pw 60) (h4 : ab q2 < pw 60) (f1 : FR p1 q1) (f2 : FR p2 q2) (hf : ¬ (ab (p1 * q2) < pw 60 ∧ ab (p2 * q1) < pw 60 ∧ ab (p1 * q2 + p2 * q1) < pw 60 ∧ ab (q1 * q2) < pw 60)) :
    Calls Try.prog 21 #[.agg #[.int .i64 s1, .slice A1 n1 d1, .int .i64 s2, .slice A2 n2 d2], .agg #[.int .i64 s3, .slice A3 n3 d3, .int .i64 s4, .slice A4 n4 d4]] w fun e w' => e = .returned (.tuple #[.agg #[.int .i64 0, .slice none 0 0, .int .i64 0, .slice none 0 0], .int .i64 6]) ∧ Below w.heap.size w w' := by
  have HI := Lib.hid (fun (w' : World) (hw : Below w.heap.size w w') => combine_add_full s1 s2 s3 s4 A1 A2 A3 A4 n1 d1 n2 d2 n3 d3 n4 d4 p1 q1 p2 q2 w' (ha.later hw) (hb.later hw) h1 h2 h3 h4 f1 f2 hf)
  clear h1 h2 h3 h4 f1 f2 hf
  go_enter Try.func21, Try.ntmps21
  go_wp2_with fail
  obtain ⟨W0, hW, hbx, ka, kb, kR⟩ := fboxes2 ha hb
  rw [← hW]
  clear hW ha hb
  have hT := hbx
  have za0 := ka.c0
  have za1 := ka.c1
  have za2 := ka.c2
  have za3 := ka.c3
  have zb0 := kb.c0
  have zb1 := kb.c1
  have zb2 := kb.c2
  have zb3 := kb.c3
  go_wp2_with fail
  clear za0 za1 za2 za3
  clear zb0 zb1 zb2 zb3
  (with_reducible refine (HI.out _ hT).mono ?_)
  rintro e u3 ⟨rfl, hb9⟩
  have hT := hT.trans (hb9.mono hT.size)
  have kR := kR.below hb9
  clear ka kb HI
  have gR : w.heap.size ≤ w.heap.size + 1 + 1 := by omega
  have r0 := kR.blk.cell 0
  have r1 := kR.blk.cell 1
  have r2 := kR.blk.cell 2
  have r3 := kR.blk.cell 3
  have q0' := kR.blk.frozen 0
  have q1' := kR.blk.frozen 1
  have q2' := kR.blk.frozen 2
  have q3' := kR.blk.frozen 3
  simp at r0 r1 r2 r3
  have hbs := kR.blk.set4 (.int .i64 0) (.slice none 0 0) (.int .i64 0) (.slice none 0 0)
  have x0 := hbs.cell 0
  have x1 := hbs.cell 1
  have x2 := hbs.cell 2
  have x3 := hbs.cell 3
  simp at x0 x1 x2 x3
  go_wp2_with fail
  refine bodyPost_ret (v := .tuple #[.agg #[.int .i64 0, .slice none 0 0, .int .i64 0, .slice none 0 0], .int .i64 6]) (by simp [results, Try.results21, go_sem, x0, x1, x2, x3]) rfl ?_
  exact ⟨rfl, below_st4 hT gR _ _ _ _⟩

set_option maxRecDepth 100000 in
set_option maxHeartbeats 8000000 in
theorem fsub_full (s1 s2 s3 s4 : Int) (A1 A2 A3 A4 : Option Addr) (n1 d1 n2 d2 n3 d3 n4 d4 : Nat) (p1 q1 p2 q2 : Int) (w : World) (ha : FV w w.heap.size s1 A1 n1 d1 s2 A2 n2 d2 p1 q1) (hb : FV w w.heap.size s3 A3 n3 d3 s4 A4 n4 d4 p2 q2) (h1 : ab p1 < pw 60) (h2 : ab q1 < pw 60) (h3 : ab p2 < pw 60) (h4 : ab q2 < pw 60) (f1 : FR p1 q1) (f2 : FR p2 q2) (hf : ¬ (ab (p1 * q2) < pw 60 ∧ ab (p2 * q1) < pw 60 ∧ ab (p1 * q2 - p2 * q1) < pw 60 ∧ ab (q1 * q2) < pw 60)) :
    Calls Try.prog 30 #[.agg #[.int .i64 s1, .slice A1 n1 d1, .int .i64 s2, .slice A2 n2 d2], .agg #[.int .i64 s3, .slice A3 n3 d3, .int .i64 s4, .slice A4 n4 d4]] w fun e w' => e = .returned (.tuple #[.agg #[.int .i64 0, .slice none 0 0, .int .i64 0, .slice none 0 0], .int .i64 6]) ∧ Below w.heap.size w w' := by
  have HI := Lib.hid (fun (w' : World) (hw : Below w.heap.size w w') => combine_sub_full s1 s2 s3 s4 A1 A2 A3 A4 n1 d1 n2 d2 n3 d3 n4 d4 p1 q1 p2 q2 w' (ha.later hw) (hb.later hw) h1 h2 h3 h4 f1 f2 hf)
  clear h1 h2 h3 h4 f1 f2 hf
  go_enter Try.func30, Try.ntmps30
  go_wp2_with fail
  obtain ⟨W0, hW, hbx, ka, kb, kR⟩ := fboxes2 ha hb
  rw [← hW]
  clear hW ha hb
  have hT := hbx
  have za0 := ka.c0
  have za1 := ka.c1
  have za2 := ka.c2
  have za3 := ka.c3
  have zb0 := kb.c0
  have zb1 := kb.c1
  have zb2 := kb.c2
  have zb3 := kb.c3
  go_wp2_with fail
  clear za0 za1 za2 za3
  clear zb0 zb1 zb2 zb3
  (with_reducible refine (HI.out _ hT).mono ?_)
  rintro e u3 ⟨rfl, hb9⟩
  have hT := hT.trans (hb9.mono hT.size)
  have kR := kR.below hb9
  clear ka kb HI
  have gR : w.heap.size ≤ w.heap.size + 1 + 1 := by omega
  have r0 := kR.blk.cell 0
  have r1 := kR.blk.cell 1
  have r2 := kR.blk.cell 2
  have r3 := kR.blk.cell 3
  have q0' := kR.blk.frozen 0
  have q1' := kR.blk.frozen 1
  have q2' := kR.blk.frozen 2
  have q3' := kR.blk.frozen 3
  simp at r0 r1 r2 r3
  have hbs := kR.blk.set4 (.int .i64 0) (.slice none 0 0) (.int .i64 0) (.slice none 0 0)
  have x0 := hbs.cell 0
  have x1 := hbs.cell 1
  have x2 := hbs.cell 2
  have x3 := hbs.cell 3
  simp at x0 x1 x2 x3
  go_wp2_with fail
  refine bodyPost_ret (v := .tuple #[.agg #[.int .i64 0, .slice none 0 0, .int .i64 0, .slice none 0 0], .int .i64 6]) (by simp [results, Try.results30, go_sem, x0, x1, x2, x3]) rfl ?_
  exact ⟨rfl, below_st4 hT gR _ _ _ _⟩

end Go.Proofs.Ytlbjaimgoiimgaa

namespace Go.Proofs.Ytlbjaimgoiimgaa
open Go.RowKit

/-- The reference's Same, at big integers that are right. -/
theorem sameBig_len {x y : Int} (h : (D (ab x)).length ≠ (D (ab y)).length) : decide (x = y) = false := by
  rw [decide_eq_false_iff_not]; rintro rfl; exact h rfl
theorem sameBig_sgn {x y : Int} (h : sgn x ≠ sgn y) : decide (x = y) = false := by
  rw [decide_eq_false_iff_not]; rintro rfl; exact h rfl


set_option maxRecDepth 100000 in
set_option maxHeartbeats 2000000 in
theorem sameBig_any (x y : Int) (vx vy : Value) (w : World) (hx : BV w w.heap.size vx x) (hy : BV w w.heap.size vy y) :
    Calls Try.prog 39 #[vx, vy] w fun e w' => e = .returned (.bool (decide (x = y))) ∧ Below w.heap.size w w' := by
  obtain ⟨A1, c1, rfl, hc1, hm1, hI1⟩ := hx
  obtain ⟨A2, c2, rfl, hc2, hm2, hI2⟩ := hy
  have hbx : Below w.heap.size w ((w.alloc (.cells #[.int .i64 (sgn x), .slice A1 (D (ab x)).length c1] 38)).alloc (.cells #[.int .i64 (sgn y), .slice A2 (D (ab y)).length c2] 38)) := ((Below.refl _ _).alloc (Nat.le_refl _) _).alloc (by simp) _
  by_cases hss : sgn x = sgn y
  · by_cases hll : (D (ab x)).length = (D (ab y)).length
    · have hdec : ∀ b : Bool, (D (ab x) = D (ab y) → b = true) → (D (ab x) ≠ D (ab y) → b = false) → b = decide (x = y) := by
        intro b h1 h2
        by_cases hd : D (ab x) = D (ab y)
        · rw [h1 hd]; symm; rw [decide_eq_true_iff]; exact same_iff.1 ⟨hss, hd⟩
        · rw [h2 hd]; symm; rw [decide_eq_false_iff_not]; exact fun h => hd (same_iff.2 h).2
      rw [← hss, ← hll] at hbx ⊢
      obtain ⟨lx, hlx⟩ : ∃ l, D (ab x) = l := ⟨_, rfl⟩
      obtain ⟨ly, hly⟩ : ∃ l, D (ab y) = l := ⟨_, rfl⟩
      rw [hlx, hly] at hdec hll
      rw [hlx] at hbx hI1 hc1 ⊢
      rw [hly] at hI2 hc2
      obtain ⟨n, hn⟩ : ∃ n, lx.length = n := ⟨_, rfl⟩
      have hnn : lx.length ≤ n ∧ n ≤ lx.length ∧ ly.length ≤ n ∧ n ≤ ly.length := by omega
      rw [hn] at hbx hc1 ⊢
      obtain ⟨s, hs⟩ : ∃ s, sgn x = s := ⟨_, rfl⟩
      rw [hs] at hbx ⊢
      have hnm : n ≤ 9223372036854775807 := by omega
      obtain ⟨W, hW⟩ : ∃ W, W = (w.alloc (.cells #[.int .i64 s, .slice A1 n c1] 38)).alloc (.cells #[.int .i64 s, .slice A2 n c2] 38) := ⟨_, rfl⟩
      obtain ⟨W', hW', _, k1, k2, _⟩ := boxes2 w #[.int .i64 s, .slice A1 n c1] #[.int .i64 s, .slice A2 n c2]
      rw [← hW'] at hW
      subst hW
      have HDEC := Lib.hid hdec
      clear hdec hn hs hll hlx hly hss hc1 hc2
      go_enter Try.func39, Try.ntmps39
      go_wp2_with fail
      rw [← hW'] at hbx ⊢
      clear hW'
      go_loopw [5] (fun i wr => ∃ k : Nat, k ≤ n ∧ i = .int .i64 k ∧ Hid (lx.take k = ly.take k) ∧ ∃ q, wr = W.drewN q) (fun i _ => n - (intOf i).toNat)
      case atStart => exact ⟨0, Nat.zero_le _, rfl, Lib.hid rfl, 0, rfl⟩
      case round =>
        obtain ⟨k, hk, rfl, ht, q, rfl⟩ := hrel
        have j1 : (W.drewN q).cell? ⟨w.heap.size, 1, none⟩ = some (.slice A1 n c1) := k1.cell 1
        have j2 : (W.drewN q).cell? ⟨w.heap.size + 1, 1, none⟩ = some (.slice A2 n c2) := k2.cell 1
        by_cases hlt : k < n
        · obtain ⟨b1, o1, hA1, hB1, hk1⟩ := hI1 k (by omega)
          obtain ⟨b2, o2, hA2, hB2, hk2⟩ := hI2 k (by omega)
          subst hA1; subst hA2
          have hk1 : (W.drewN q).cell? ⟨b1, o1 + k, none⟩ = some (.int .i64 (lx.getD k 0)) := (hbx.cell (p := ⟨b1, o1 + k, none⟩) hB1).trans hk1
          have hk2 : (W.drewN q).cell? ⟨b2, o2 + k, none⟩ = some (.int .i64 (ly.getD k 0)) := (hbx.cell (p := ⟨b2, o2 + k, none⟩) hB2).trans hk2
          have jW1 : W.cell? ⟨w.heap.size, 1, none⟩ = some (.slice (some ⟨b1, o1, none⟩) n c1) := k1.cell 1
          have jW2 : W.cell? ⟨w.heap.size + 1, 1, none⟩ = some (.slice (some ⟨b2, o2, none⟩) n c2) := k2.cell 1
          have hkW1 : W.cell? ⟨b1, o1 + k, none⟩ = some (.int .i64 (lx.getD k 0)) := hk1
          have hkW2 : W.cell? ⟨b2, o2 + k, none⟩ = some (.int .i64 (ly.getD k 0)) := hk2
          have e1 := take_snoc (l := lx) (k := k) (by omega)
          have e2 := take_snoc (l := ly) (k := k) (by omega)
          have hne : lx.getD k 0 ≠ ly.getD k 0 → lx ≠ ly := fun h e => h (by rw [e])
          obtain ⟨u, hu⟩ : ∃ u, lx.getD k 0 = u := ⟨_, rfl⟩
          obtain ⟨v, hv⟩ : ∃ u, ly.getD k 0 = u := ⟨_, rfl⟩
          rw [hu] at hk1 e1 hne hkW1
          rw [hv] at hk2 e2 hne hkW2
          clear hu hv
          have HE1 := Lib.hid e1; clear e1
          have HE2 := Lib.hid e2; clear e2
          have HNE := Lib.hid hne; clear hne
          by_cases huv : u = v
          · subst huv
            go_wp2_with fail
            go_quiet (fail)
            go_wp2_with fail
            go_roundw
            case rel => exact ⟨k + 1, by omega, by go_num, Lib.hid (by rw [HE1.out, HE2.out, ht.out]), _, rfl⟩
            case measure => simp [intOf]; omega
          · have huv' : (u != v) = true := by simpa using huv
            go_wp2_with fail
            go_quiet (fail)
            go_wp2_with fail
            go_ret
            exact ⟨by rw [← HDEC.out false (fun h => absurd h (HNE.out huv)) (fun _ => rfl)]; rfl, below_drewN (below_drewN hbx _) _⟩
        · have : k = n := by omega
          subst this
          have he := ht.out
          rw [List.take_of_length_le (l := lx) (by omega), List.take_of_length_le (l := ly) (by omega)] at he
          have HE := Lib.hid he; clear he
          go_wp2_with fail
          go_ret
          exact ⟨by rw [← HDEC.out true (fun _ => rfl) (fun h => absurd HE.out h)]; rfl, below_drewN hbx _⟩
    · rw [sameBig_len hll]
      obtain ⟨n1, hn1⟩ : ∃ n, (D (ab x)).length = n := ⟨_, rfl⟩
      obtain ⟨n2, hn2⟩ : ∃ n, (D (ab y)).length = n := ⟨_, rfl⟩
      rw [hn1, hn2] at hll hbx
      rw [hn1, hn2]
      rw [← hss] at hbx ⊢
      obtain ⟨s, hs⟩ : ∃ s, sgn x = s := ⟨_, rfl⟩
      rw [hs] at hbx ⊢
      have hd : decide (n1 = n2) = false := by simpa using hll
      have HBX := Lib.hid hbx
      clear hn1 hn2 hs hss hbx hI1 hI2 hc1 hc2
      go_enter Try.func39, Try.ntmps39
      go_wp2_with fail
      go_ret
      exact ⟨rfl, HBX.out⟩
  · rw [sameBig_sgn hss]
    obtain ⟨n1, hn1⟩ : ∃ n, (D (ab x)).length = n := ⟨_, rfl⟩
    obtain ⟨n2, hn2⟩ : ∃ n, (D (ab y)).length = n := ⟨_, rfl⟩
    rw [hn1, hn2] at hbx
    rw [hn1, hn2]
    obtain ⟨s1, hs1⟩ : ∃ s, sgn x = s := ⟨_, rfl⟩
    obtain ⟨s2, hs2⟩ : ∃ s, sgn y = s := ⟨_, rfl⟩
    rw [hs1, hs2] at hss hbx
    rw [hs1, hs2]
    have hd : (s1 != s2) = true := by simpa using hss
    have HBX := Lib.hid hbx
    clear hn1 hn2 hs1 hs2 hss hbx hI1 hI2 hc1 hc2
    go_enter Try.func39, Try.ntmps39
    go_wp2_with fail
    go_ret
    exact ⟨rfl, HBX.out⟩


theorem fboxes1 {w : World} {s1 s2 s3 s4 : Int} {A1 A2 A3 A4 : Option Addr} {n1 d1 n2 d2 n3 d3 n4 d4 : Nat} {p1 q1 p2 q2 : Int} (h1 : FV w w.heap.size s1 A1 n1 d1 s2 A2 n2 d2 p1 q1) (h2 : FV w w.heap.size s3 A3 n3 d3 s4 A4 n4 d4 p2 q2) :
    ∃ W, W = (w.alloc (.cells #[.int .i64 s1, .slice A1 n1 d1, .int .i64 s2, .slice A2 n2 d2] 40)).alloc (.cells #[.int .i64 s3, .slice A3 n3 d3, .int .i64 s4, .slice A4 n4 d4] 40) ∧ Below w.heap.size w W ∧
      Bf 40 W w.heap.size s1 A1 n1 d1 s2 A2 n2 d2 p1 q1 ∧ Bf 40 W (w.heap.size + 1) s3 A3 n3 d3 s4 A4 n4 d4 p2 q2 := by
  have hb1 : Below w.heap.size w (w.alloc (.cells #[.int .i64 s1, .slice A1 n1 d1, .int .i64 s2, .slice A2 n2 d2] 40)) := (Below.refl _ _).alloc (Nat.le_refl _) _
  have hb2 := hb1.alloc hb1.size (.cells #[.int .i64 s3, .slice A3 n3 d3, .int .i64 s4, .slice A4 n4 d4] 40)
  have k1 := Blk.new w 40 #[.int .i64 s1, .slice A1 n1 d1, .int .i64 s2, .slice A2 n2 d2]
  have k2 := Blk.new (w.alloc (.cells #[.int .i64 s1, .slice A1 n1 d1, .int .i64 s2, .slice A2 n2 d2] 40)) 40 #[.int .i64 s3, .slice A3 n3 d3, .int .i64 s4, .slice A4 n4 d4]
  simp only [World.size_alloc] at k2
  exact ⟨_, rfl, hb2, ⟨k1.alloc _, h1.later hb2⟩, ⟨k2, h2.later hb2⟩⟩

set_option maxRecDepth 100000 in
set_option maxHeartbeats 4000000 in
theorem fsame_any (s1 s2 s3 s4 : Int) (A1 A2 A3 A4 : Option Addr) (n1 d1 n2 d2 n3 d3 n4 d4 : Nat) (p1 q1 p2 q2 : Int) (w : World) (ha : FV w w.heap.size s1 A1 n1 d1 s2 A2 n2 d2 p1 q1) (hb : FV w w.heap.size s3 A3 n3 d3 s4 A4 n4 d4 p2 q2) (b : Bool) (hbb : decide (p1 = p2 ∧ q1 = q2) = b) :
    Calls Try.prog 22 #[.agg #[.int .i64 s1, .slice A1 n1 d1, .int .i64 s2, .slice A2 n2 d2], .agg #[.int .i64 s3, .slice A3 n3 d3, .int .i64 s4, .slice A4 n4 d4]] w fun e w' => e = .returned (.bool b) ∧ Below w.heap.size w w' := by
  have HBB := Lib.hid hbb; clear hbb
  go_enter Try.func22, Try.ntmps22
  go_wp2_with fail
  obtain ⟨W0, hW, hbx, ka, kb⟩ := fboxes1 ha hb
  rw [← hW]
  clear hW ha hb
  have hT := hbx
  have a0 := ka.c0
  have a1 := ka.c1
  have b0 := kb.c0
  have b1 := kb.c1
  go_wp2_with fail
  clear a0 a1 b0 b1
  (with_reducible refine (sameBig_any _ _ _ _ _ ka.fv.a kb.fv.a).mono ?_)
  rintro e u1 ⟨rfl, hb9⟩
  have hT := hT.trans (hb9.mono hT.size)
  have ka := ka.below hb9
  have kb := kb.below hb9
  by_cases h : p1 = p2
  · rw [decide_eq_true h]
    have a2 := ka.c2
    have a3 := ka.c3
    have b2 := kb.c2
    have b3 := kb.c3
    have hb1 : decide (q1 = q2) = b := by rw [← HBB.out]; simp [h]
    have HB1 := Lib.hid hb1; clear hb1 h
    go_wp2_with fail
    clear a2 a3 b2 b3
    (with_reducible refine (sameBig_any _ _ _ _ _ ka.fv.b kb.fv.b).mono ?_)
    rintro e u2 ⟨rfl, hb9⟩
    have hT := hT.trans (hb9.mono hT.size)
    rw [HB1.out]
    go_wp2_with fail
    go_ret
    exact ⟨rfl, hT⟩
  · rw [decide_eq_false h]
    have hb0 : b = false := by rw [← HBB.out]; simp [h]
    subst hb0
    clear h HBB
    go_wp2_with fail
    go_ret
    exact ⟨rfl, hT⟩

set_option maxRecDepth 100000 in
set_option maxHeartbeats 4000000 in
theorem ffew_any (s1 s2 n : Int) (A1 A2 : Option Addr) (n1 d1 n2 d2 : Nat) (w : World) (b : Bool) (hbb : decide ((n1 : Int) ≤ n ∧ (n2 : Int) ≤ n) = b) :
    Calls Try.prog 17 #[.agg #[.int .i64 s1, .slice A1 n1 d1, .int .i64 s2, .slice A2 n2 d2], .int .i64 n] w fun e w' => e = .returned (.bool b) ∧ Below w.heap.size w w' := by
  have HBB := Lib.hid hbb; clear hbb
  by_cases h : (n1 : Int) ≤ n
  · by_cases h2 : (n2 : Int) ≤ n
    · have hb0 : b = true := by rw [← HBB.out]; simp [h, h2]
      subst hb0
      clear HBB
      go_enter Try.func17, Try.ntmps17
      go_wp2_with fail
      go_ret
      exact ⟨rfl, (Below.refl _ _).alloc (Nat.le_refl _) _⟩
    · have hb0 : b = false := by rw [← HBB.out]; simp [h2]
      subst hb0
      clear HBB
      go_enter Try.func17, Try.ntmps17
      go_wp2_with fail
      go_ret
      exact ⟨rfl, (Below.refl _ _).alloc (Nat.le_refl _) _⟩
  · have hb0 : b = false := by rw [← HBB.out]; simp [h]
    subst hb0
    clear HBB
    go_enter Try.func17, Try.ntmps17
    go_wp2_with fail
    go_ret
    exact ⟨rfl, (Below.refl _ _).alloc (Nat.le_refl _) _⟩

end Go.Proofs.Ytlbjaimgoiimgaa

namespace Go.Proofs.Ytlbjaimgoiimgaa
open Go.RowKit

theorem text_size {z : Int} (h : ab z < pw 60) : (byt (Lib.itoa z)).size ≤ 1000 := by
  rw [byt_size, itoa_ab]
  have := dd_len_pw 60 (by decide) (ab z) (ab_nonneg z) h
  split <;> simp <;> omega

end Go.Proofs.Ytlbjaimgoiimgaa

namespace Go.Proofs.Ytlbjaimgoiimgaa
open Go.RowKit

/-- Signs and digits that are a right fraction. -/
def RF (s1 : Int) (l1 : List Int) (s2 : Int) (l2 : List Int) : Prop := ∃ p q, (s1 = sgn p ∧ l1 = D (ab p) ∧ ab p < pw 60) ∧ (s2 = sgn q ∧ l2 = D (ab q) ∧ ab q < pw 60) ∧ FR p q
theorem int_of_parts {x y : Int} (h1 : sgn x = sgn y) (h2 : D (ab x) = D (ab y)) : x = y := by
  have h3 := congrArg nv h2
  rw [nv_D (ab_nonneg x), nv_D (ab_nonneg y)] at h3
  have h4 := sgn_ab x
  have h5 := sgn_ab y
  rw [h1, h3] at h4
  exact h4.symm.trans h5
theorem RF.iff {p q : Int} (h1 : ab p < pw 60) (h2 : ab q < pw 60) : RF (sgn p) (D (ab p)) (sgn q) (D (ab q)) ↔ FR p q := by
  constructor
  · rintro ⟨p', q', ⟨a1, a2, _⟩, ⟨b1, b2, _⟩, h⟩
    obtain rfl := int_of_parts a1 a2
    obtain rfl := int_of_parts b1 b2
    exact h
  · intro h
    exact ⟨p, q, ⟨rfl, rfl, h1⟩, ⟨rfl, rfl, h2⟩, h⟩
theorem RF.right {s1 s2 : Int} {l1 l2 : List Int} (h : RF s1 l1 s2 l2) : RightP s1 l1 ∧ RightP s2 l2 := by
  obtain ⟨p, q, ⟨a1, a2, a3⟩, ⟨b1, b2, b3⟩, _⟩ := h
  exact ⟨⟨p, a1, a2, a3⟩, ⟨q, b1, b2, b3⟩⟩
theorem Ar.bv {w : World} {s z : Int} {l : List Int} {A : Option Addr} {n c : Nat} (h : Ar w s l A n c) (hs : s = sgn z) (hl : l = D (ab z)) : BV w w.heap.size (.agg #[.int .i64 s, .slice A n c]) z := by
  obtain ⟨rfl, hI, hc, hm⟩ := h
  subst hs hl
  exact ⟨A, c, rfl, hc, hm, hI⟩
theorem Ar.lt {w : World} {s z : Int} {l : List Int} {A : Option Addr} {n c k : Nat} (h : Ar w s l A n c) (hl : l = D (ab z)) (hk : n ≤ k) : ab z < pw k := by
  obtain ⟨rfl, _, _, _⟩ := h
  subst hl
  exact (D_len_le (ab_nonneg z)).1 hk
/-- A fraction as it came in, that is right, reads as one. -/
theorem RF.fv {s1 s2 : Int} {l1 l2 : List Int} {A1 A2 : Option Addr} {n1 d1 n2 d2 : Nat} {w : World} (h : RF s1 l1 s2 l2) (h1 : Ar w s1 l1 A1 n1 d1) (h2 : Ar w s2 l2 A2 n2 d2) :
    ∃ r : Rat, FV w w.heap.size s1 A1 n1 d1 s2 A2 n2 d2 r.num r.den ∧ s1 = sgn r.num ∧ ab r.num < pw 60 ∧ ab (r.den : Int) < pw 60 ∧ (∀ k : Nat, n1 ≤ k → ab r.num < pw k) ∧ (∀ k : Nat, n2 ≤ k → ab (r.den : Int) < pw k) := by
  obtain ⟨p, q, ⟨a1, a2, a3⟩, ⟨b1, b2, b3⟩, hf⟩ := h
  obtain ⟨r, rfl, rfl⟩ := hf.rat
  exact ⟨r, ⟨h1.bv a1 a2, h2.bv b1 b2⟩, a1, a3, b3, fun k hk => h1.lt a2 hk, fun k hk => h2.lt b2 hk⟩

/-- Right, at whatever came in. -/
theorem fright_any {s1 s2 : Int} {l1 l2 : List Int} {A1 A2 : Option Addr} {n1 d1 n2 d2 : Nat} (w : World) (h1 : Ar w s1 l1 A1 n1 d1) (h2 : Ar w s2 l2 A2 n2 d2) (b : Bool) (hb : b = true ↔ RF s1 l1 s2 l2) :
    Calls Try.prog 18 #[.agg #[.int .i64 s1, .slice A1 n1 d1, .int .i64 s2, .slice A2 n2 d2]] w fun e w' => e = .returned (.bool b) ∧ Below w.heap.size w w' := by
  by_cases hr : RightP s1 l1 ∧ RightP s2 l2
  · obtain ⟨⟨p, rfl, rfl, a3⟩, ⟨q, rfl, rfl, b3⟩⟩ := hr
    have hf : FV w w.heap.size (sgn p) A1 n1 d1 (sgn q) A2 n2 d2 p q := ⟨h1.bv rfl rfl, h2.bv rfl rfl⟩
    rw [RF.iff a3 b3] at hb
    by_cases h0 : 0 < q
    · refine fright_pos w hf a3 b3 h0 b ?_
      rw [Bool.eq_iff_iff, hb]
      simp only [decide_eq_true_eq]
      exact ⟨fun h => ⟨h0, h⟩, fun h => FR.one h⟩
    · have : b = false := by
        rcases b with _ | _
        · rfl
        · exact absurd (FR.pos (hb.1 rfl)) h0
      subst this
      exact fright_low w hf a3 b3 h0
  · have : b = false := by
      rcases b with _ | _
      · rfl
      · exact absurd (hb.1 rfl).right hr
    subst this
    exact fright_bad w h1 h2 hr

end Go.Proofs.Ytlbjaimgoiimgaa

namespace Go.Proofs.Ytlbjaimgoiimgaa
open Go.ChangeShapes Go.WideShapes Go.ChangeAt Go.RowKit Go.Joins Go.Deep

theorem Try.cells40 : Try.prog.cellsOf 40 = 4 := by kernel_rfl
theorem Try.cells36 : Try.prog.cellsOf 36 = 1 := by kernel_rfl
section
variable {H : Type} {enc : TypeId × Value → H} {w : World}
set_option maxRecDepth 100000 in
theorem open_part {n : Nat} {v0 v1 : Value} {y0 y1 : DataW H × List MemPlace} (h0 : DataW.trod enc Try.prog w 0 (fun _ => true) true n 3 [v0] = some y0) (h1 : DataW.trod enc Try.prog w 0 (fun _ => true) true n 36 [v1] = some y1) :
    ∃ (s : Int) (l : List Int) (A : Option Addr) (n c : Nat), v0 = .int .i64 s ∧ v1 = .slice A n c ∧ Ar w s l A n c := by
  obtain ⟨K, e0, _, _⟩ := DataW.trod_int Try.underlying3 h0
  simp only [List.cons.injEq, and_true] at e0
  subst e0
  rcases open_ints Try.underlying36 Try.underlying3 Try.cells3 h1 with ⟨hcs, _⟩ | ⟨a, len, cap, zs, hcs, _, hl, hm, hz, _, hcell, hwf⟩
  · simp only [List.cons.injEq, and_true] at hcs
    subst hcs
    exact ⟨K, [], none, 0, 0, rfl, rfl, rfl, fun k hk => (by cases hk), Nat.le_refl _, by omega⟩
  · simp only [List.cons.injEq, and_true] at hcs
    subst hcs
    simp only [if_true] at hz
    have hlen : (zs.take len).length = len := by rw [List.length_take]; omega
    refine ⟨K, zs.take len, some a, len, cap, rfl, rfl, hlen, fun k hk => ?_, hl, by unfold maxLen at hm; omega⟩
    rw [hlen] at hk
    obtain ⟨b, off, rfl, hc⟩ := ints_at hcell (by omega)
    have h1 := hc k (by omega)
    refine ⟨b, off, rfl, World.block_lt_of_cell? w _ h1, ?_⟩
    rw [h1, List.getD_eq_getElem?_getD, List.getD_eq_getElem?_getD, List.getElem?_take_of_lt hk]

set_option maxRecDepth 100000 in
theorem open_Frac {r : Reach} {b0 : Nat} {v : Value} {d : DataW H} {p : List MemPlace} (hv : Value.okWide Try.prog w r b0 40 v) (h : DataW.Trod enc Try.prog w 0 (fun _ => true) true 40 v d p) :
    ∃ (s1 s2 : Int) (l1 l2 : List Int) (A1 A2 : Option Addr) (n1 c1 n2 c2 : Nat), v = .agg #[.int .i64 s1, .slice A1 n1 c1, .int .i64 s2, .slice A2 n2 c2] ∧ Ar w s1 l1 A1 n1 c1 ∧ Ar w s2 l2 A2 n2 c2 := by
  obtain ⟨cs, rfl, hsz⟩ := okWide_struct Try.underlying40 hv
  obtain ⟨l⟩ := cs
  match l, hsz.trans Try.cells40 with
  | [e0, e1, e2, e3], _ =>
    obtain ⟨fuel, hf⟩ := h
    obtain ⟨y0, y1, n, _, _, g0, g1⟩ := trod_struct2 Try.underlying40 hf
    have g0' : DataW.trod enc Try.prog w 0 (fun _ => true) true n 38 [e0, e1] = some y0 := by simpa [Value.cells, Try.cells38] using g0
    have g1' : DataW.trod enc Try.prog w 0 (fun _ => true) true n 38 [e2, e3] = some y1 := by simpa [Value.cells, Try.cells38] using g1
    obtain ⟨z0, z1, m, _, _, k0, k1⟩ := trod_struct2 Try.underlying38 g0'
    obtain ⟨z2, z3, m', _, _, k2, k3⟩ := trod_struct2 Try.underlying38 g1'
    obtain ⟨s1, l1, A1, n1, c1, rfl, rfl, a1⟩ := open_part (by simpa [Try.cells3] using k0) (by simpa [Try.cells36] using k1)
    obtain ⟨s2, l2, A2, n2, c2, rfl, rfl, a2⟩ := open_part (by simpa [Try.cells3] using k2) (by simpa [Try.cells36] using k3)
    exact ⟨s1, s2, l1, l2, A1, A2, n1, c1, n2, c2, rfl, a1, a2⟩
end

end Go.Proofs.Ytlbjaimgoiimgaa
