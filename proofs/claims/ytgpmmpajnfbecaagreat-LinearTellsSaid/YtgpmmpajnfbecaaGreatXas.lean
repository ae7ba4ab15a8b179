/- Plain: how long fractions become; their order and their integral parts. No program. Walks: Add and Sub of fractions, where there is no room, and any right ones. Printed by a program (fcomb2.py). Walks: the reference's Same and Few. -/
import Derived.Test.YtgpmmpajnfbecaaGreatXap
import Derived.Test.YtgpmmpajnfbecaaGreatXar

namespace Go.Proofs.YtgpmmpajnfbecaaGreat
open Go.RowKit

/-- A fraction with so many digits at most above and below. -/
structure Rb (x : Rat) (k m : Nat) : Prop where
  n : ab x.num < pw k
  d : ab (x.den : Int) < pw m
section
variable {x y z : Rat} {k m k' m' e f : Nat}
theorem den2_ne (x y : Rat) : (x.den : Int) * y.den ≠ 0 := Int.mul_ne_zero (den_ne x) (den_ne y)
theorem Rb.add (hx : Rb x k m) (hy : Rb y k' m') (h1 : k + m' < e) (h2 : k' + m < e) (h3 : f = m + m') : Rb (x + y) e f := by
  rw [← rat_add]
  exact ⟨num_lt (den2_ne x y) (ab_add_lt (ab_mul_lt hx.n hy.d rfl) (ab_mul_lt hy.n hx.d rfl) h1 h2), den_lt (den2_ne x y) (ab_mul_lt hx.d hy.d h3)⟩
theorem num_ne {x : Rat} (h : x ≠ 0) : x.num ≠ 0 := fun h' => h (Rat.num_eq_zero.1 h')
theorem cmpR_lt (h : x < y) : cmpR x y = -1 := by unfold cmpR; rw [if_pos h]
theorem cmpR_gt (h : y < x) : cmpR x y = 1 := by unfold cmpR; rw [if_neg (by grind), if_pos h]
theorem cmpR_self (x : Rat) : cmpR x x = 0 := by unfold cmpR; rw [if_neg (by grind), if_neg (by grind)]
theorem cmpR_cases (x y : Rat) : (x < y ∧ cmpR x y = -1) ∨ (x = y ∧ cmpR x y = 0) ∨ (y < x ∧ cmpR x y = 1) := by
  by_cases h : x < y
  · exact .inl ⟨h, cmpR_lt h⟩
  · by_cases h2 : y < x
    · exact .inr (.inr ⟨h2, cmpR_gt h2⟩)
    · obtain rfl : x = y := by grind
      exact .inr (.inl ⟨rfl, cmpR_self x⟩)
theorem cmpR_zero : cmpR x y = 0 ↔ x = y := by
  rcases cmpR_cases x y with ⟨a, h⟩ | ⟨a, h⟩ | ⟨a, h⟩
  · constructor
    · intro; omega
    · rintro rfl; grind
  · exact ⟨fun _ => a, fun _ => h⟩
  · constructor
    · intro; omega
    · rintro rfl; grind
end

end Go.Proofs.YtgpmmpajnfbecaaGreat

namespace Go.Proofs.YtgpmmpajnfbecaaGreat
open Go.RowKit

theorem fite_06 {z e : Int} (h : fite z = e) : e = 0 ∨ e = 6 := by
  subst h; unfold fite; split
  · exact .inl rfl
  · exact .inr rfl
theorem fite_0 {z : Int} (h : fite z = 0) : ab z < pw 60 := by
  unfold fite at h; split at h
  · assumption
  · cases h
theorem max4_full (P : Program) (W : World) (ts : Array TypeId) (t : TypeId) {a b c d : Int} (ha : a = 0 ∨ a = 6) (hb : b = 0 ∨ b = 6) (hc : c = 0 ∨ c = 6) (hd : d = 0 ∨ d = 6) (h : ¬ (a = 0 ∧ b = 0 ∧ c = 0 ∧ d = 0)) :
    (Builtin.max_ ts t #[.int .i64 a, .int .i64 b, .int .i64 c, .int .i64 d]).run P W = .ok (.int .i64 6) W := by
  rcases ha with rfl | rfl <;> rcases hb with rfl | rfl <;> rcases hc with rfl | rfl <;> rcases hd with rfl | rfl <;> first | exact absurd ⟨rfl, rfl, rfl, rfl⟩ h | simp [Builtin.max_, Builtin.max2]

set_option maxRecDepth 100000 in
set_option maxHeartbeats 8000000 in
theorem combine_add_full (s1 s2 s3 s4 : Int) (A1 A2 A3 A4 : Option Addr) (n1 d1 n2 d2 n3 d3 n4 d4 : Nat) (p1 q1 p2 q2 : Int) (w : World) (ha : FV w w.heap.size s1 A1 n1 d1 s2 A2 n2 d2 p1 q1) (hb : FV w w.heap.size s3 A3 n3 d3 s4 A4 n4 d4 p2 q2) (h1 : ab p1 < pw 60) (h2 : ab q1 < pw 60) (h3 : ab p2 < pw 60) (h4 : ab q2 < pw 60) (f1 : FR p1 q1) (f2 : FR p2 q2) (hf : ¬ (ab (p1 * q2) < pw 60 ∧ ab (p2 * q1) < pw 60 ∧ ab (p1 * q2 + p2 * q1) < pw 60 ∧ ab (q1 * q2) < pw 60)) :
    Calls Tryz.prog 43 #[.agg #[.int .i64 s1, .slice A1 n1 d1, .int .i64 s2, .slice A2 n2 d2], .agg #[.int .i64 s3, .slice A3 n3 d3, .int .i64 s4, .slice A4 n4 d4], .func (.func 85) #[] #[]] w fun e w' => e = .returned (.tuple #[.agg #[.int .i64 0, .slice none 0 0, .int .i64 0, .slice none 0 0], .int .i64 6]) ∧ Below w.heap.size w w' := by
  have H1 := Lib.hid h1; clear h1
  have H2 := Lib.hid h2; clear h2
  have H3 := Lib.hid h3; clear h3
  have H4 := Lib.hid h4; clear h4
  have F1 := Lib.hid f1; clear f1
  have F2 := Lib.hid f2; clear f2
  obtain ⟨Em, hEm⟩ : ∃ z, fite (p1 * q2) = z := ⟨_, rfl⟩
  obtain ⟨Zm, hZm⟩ : ∃ z, fitz (p1 * q2) = z := ⟨_, rfl⟩
  obtain ⟨En, hEn⟩ : ∃ z, fite (p2 * q1) = z := ⟨_, rfl⟩
  obtain ⟨Zn, hZn⟩ : ∃ z, fitz (p2 * q1) = z := ⟨_, rfl⟩
  obtain ⟨Es, hEs⟩ : ∃ z, fite (Zm + Zn) = z := ⟨_, rfl⟩
  obtain ⟨Zs, hZs⟩ : ∃ z, fitz (Zm + Zn) = z := ⟨_, rfl⟩
  obtain ⟨Et, hEt⟩ : ∃ z, fite (q1 * q2) = z := ⟨_, rfl⟩
  obtain ⟨Zt, hZt⟩ : ∃ z, fitz (q1 * q2) = z := ⟨_, rfl⟩
  have hz1 : ab Zm < pw 60 := by rw [← hZm]; exact fitz_lt _
  have hz2 : ab Zn < pw 60 := by rw [← hZn]; exact fitz_lt _
  have hmx := fun (W : World) (ts : Array TypeId) (t : TypeId) => max4_full Tryz.prog W ts t (fite_06 hEm) (fite_06 hEn) (fite_06 hEs) (fite_06 hEt) (fun ⟨a, b, c, d⟩ => hf (by
    subst a b c d
    have k1 := fite_0 hEm
    have k2 := fite_0 hEn
    have k3 := fite_0 hEs
    have k4 := fite_0 hEt
    rw [(fits k1).2] at hZm
    rw [(fits k2).2] at hZn
    subst hZm hZn
    exact ⟨k1, k2, k3, k4⟩))
  clear hf
  have HZ1 := Lib.hid hz1; clear hz1
  have HZ2 := Lib.hid hz2; clear hz2
  have HEm := Lib.hid hEm; clear hEm
  have HZm := Lib.hid hZm; clear hZm
  have HEn := Lib.hid hEn; clear hEn
  have HZn := Lib.hid hZn; clear hZn
  have HEs := Lib.hid hEs; clear hEs
  have HZs := Lib.hid hZs; clear hZs
  have HEt := Lib.hid hEt; clear hEt
  have HZt := Lib.hid hZt; clear hZt
  have HMX := Lib.hid hmx; clear hmx
  go_enter Tryz.func43, Tryz.ntmps43
  go_wp2_with fail
  obtain ⟨W0, hW, hbx, ka, kb, kR⟩ := fboxes2 ha hb
  rw [← hW]
  clear hW ha hb
  have hT := hbx
  have za0 := ka.c0
  have za1 := ka.c1
  have za2 := ka.c2
  have za3 := ka.c3
  go_wp2_with fail
  clear za0 za1 za2 za3
  (with_reducible refine (fright_pos _ ka.fv H1.out H2.out (FR.pos F1.out) true (decide_eq_true (FR.one F1.out))).mono ?_)
  rintro e u1 ⟨rfl, hb9⟩
  have hT := hT.trans (hb9.mono hT.size)
  have ka := ka.below hb9
  have kb := kb.below hb9
  have kR := kR.below hb9
  have zb0 := kb.c0
  have zb1 := kb.c1
  have zb2 := kb.c2
  have zb3 := kb.c3
  go_wp2_with fail
  clear zb0 zb1 zb2 zb3
  (with_reducible refine (fright_pos _ kb.fv H3.out H4.out (FR.pos F2.out) true (decide_eq_true (FR.one F2.out))).mono ?_)
  rintro e u2 ⟨rfl, hb9⟩
  have hT := hT.trans (hb9.mono hT.size)
  have ka := ka.below hb9
  have kb := kb.below hb9
  have kR := kR.below hb9
  have za0 := ka.c0
  have za1 := ka.c1
  have zb2 := kb.c2
  have zb3 := kb.c3
  go_wp2_with fail
  clear za0 za1
  clear zb2 zb3
  (with_reducible refine (mul_any _ _ _ _ _ ka.fv.a kb.fv.b H1.out H4.out).mono ?_)
  rintro e u3 ⟨rm, rfl, hrm, hb9⟩
  have hT := hT.trans (hb9.mono hT.size)
  have ka := ka.below hb9
  have kb := kb.below hb9
  have kR := kR.below hb9
  rw [HEm.out]
  rw [HZm.out] at hrm
  obtain ⟨sm, Am, nm, cm, rfl⟩ := hrm.form
  have kby := kb.below ((Below.refl _ u3).alloc (Nat.le_refl _) (.cells #[.int .i64 sm, .slice Am nm cm] 39))
  have zb0y := kby.c0
  have zb1y := kby.c1
  have kay := ka.below ((Below.refl _ u3).alloc (Nat.le_refl _) (.cells #[.int .i64 sm, .slice Am nm cm] 39))
  have za2y := kay.c2
  have za3y := kay.c3
  go_wp2_with fail
  clear zb0y zb1y
  clear kby
  clear za2y za3y
  clear kay
  obtain ⟨Wm, hW, hbx, km⟩ := box1 hrm
  rw [← hW]
  clear hW
  have hT := hT.trans (hbx.mono hT.size)
  have ka := ka.below hbx
  have kb := kb.below hbx
  have kR := kR.below hbx
  (with_reducible refine (mul_any _ _ _ _ _ kb.fv.a ka.fv.b H3.out H2.out).mono ?_)
  rintro e u4 ⟨rn, rfl, hrn, hb9⟩
  have hT := hT.trans (hb9.mono hT.size)
  have ka := ka.below hb9
  have kb := kb.below hb9
  have kR := kR.below hb9
  have km := km.below hb9
  rw [HEn.out]
  rw [HZn.out] at hrn
  obtain ⟨sn, An, nn, cn, rfl⟩ := hrn.form
  have kmy := km.below ((Below.refl _ u4).alloc (Nat.le_refl _) (.cells #[.int .i64 sn, .slice An nn cn] 39))
  have zm0y := kmy.c0
  have zm1y := kmy.c1
  go_wp2_with fail
  clear zm0y zm1y
  clear kmy
  obtain ⟨Wn, hW, hbx, kn⟩ := box1 hrn
  rw [← hW]
  clear hW
  have hT := hT.trans (hbx.mono hT.size)
  have ka := ka.below hbx
  have kb := kb.below hbx
  have kR := kR.below hbx
  have km := km.below hbx
  (with_reducible refine (add_any _ _ _ _ _ km.bv kn.bv HZ1.out HZ2.out).mono ?_)
  rintro e u5 ⟨rs, rfl, hrs, hb9⟩
  have hT := hT.trans (hb9.mono hT.size)
  have ka := ka.below hb9
  have kb := kb.below hb9
  have kR := kR.below hb9
  have km := km.below hb9
  have kn := kn.below hb9
  rw [HEs.out]
  rw [HZs.out] at hrs
  obtain ⟨ss, As, ns, cs, rfl⟩ := hrs.form
  have kay := ka.below ((Below.refl _ u5).alloc (Nat.le_refl _) (.cells #[.int .i64 ss, .slice As ns cs] 39))
  have za2y := kay.c2
  have za3y := kay.c3
  have kby := kb.below ((Below.refl _ u5).alloc (Nat.le_refl _) (.cells #[.int .i64 ss, .slice As ns cs] 39))
  have zb2y := kby.c2
  have zb3y := kby.c3
  go_wp2_with fail
  clear za2y za3y
  clear kay
  clear zb2y zb3y
  clear kby
  obtain ⟨Ws, hW, hbx, ks⟩ := box1 hrs
  rw [← hW]
  clear hW
  have hT := hT.trans (hbx.mono hT.size)
  have ka := ka.below hbx
  have kb := kb.below hbx
  have kR := kR.below hbx
  have km := km.below hbx
  have kn := kn.below hbx
  (with_reducible refine (mul_any _ _ _ _ _ ka.fv.b kb.fv.b H2.out H4.out).mono ?_)
  rintro e u6 ⟨rt, rfl, hrt, hb9⟩
  have hT := hT.trans (hb9.mono hT.size)
  have ka := ka.below hb9
  have kb := kb.below hb9
  have kR := kR.below hb9
  have km := km.below hb9
  have kn := kn.below hb9
  have ks := ks.below hb9
  rw [HEt.out]
  rw [HZt.out] at hrt
  obtain ⟨st, At, nt, ct, rfl⟩ := hrt.form
  clear ka kb km kn ks
  have kR := kR.below ((Below.refl _ u6).alloc (Nat.le_refl _) (.cells #[.int .i64 st, .slice At nt ct] 39))
  have hT := hT.alloc hT.size (.cells #[.int .i64 st, .slice At nt ct] 39)
  have hmx := HMX.out; clear HMX
  have gR : w.heap.size ≤ w.heap.size + 1 + 1 := by omega
  have r0 := kR.blk.cell 0
  have r1 := kR.blk.cell 1
  have r2 := kR.blk.cell 2
  have r3 := kR.blk.cell 3
  have q0' := kR.blk.frozen 0
  have q1' := kR.blk.frozen 1
  have q2' := kR.blk.frozen 2
  have q3' := kR.blk.frozen 3
  simp at r0 r1 r2 r3
  have hbs := kR.blk.set4 (.int .i64 0) (.slice none 0 0) (.int .i64 0) (.slice none 0 0)
  have x0 := hbs.cell 0
  have x1 := hbs.cell 1
  have x2 := hbs.cell 2
  have x3 := hbs.cell 3
  simp at x0 x1 x2 x3
  go_wp2_with fail
  refine bodyPost_ret (v := .tuple #[.agg #[.int .i64 0, .slice none 0 0, .int .i64 0, .slice none 0 0], .int .i64 6]) (by simp [results, Tryz.results43, go_sem, x0, x1, x2, x3]) rfl ?_
  exact ⟨rfl, below_st4 hT gR _ _ _ _⟩

set_option maxRecDepth 100000 in
set_option maxHeartbeats 8000000 in
theorem combine_sub_full (s1 s2 s3 s4 : Int) (A1 A2 A3 A4 : Option Addr) (n1 d1 n2 d2 n3 d3 n4 d4 : Nat) (p1 q1 p2 q2 : Int) (w : World) (ha : FV w w.heap.size s1 A1 n1 d1 s2 A2 n2 d2 p1 q1) (hb : FV w w.heap.size s3 A3 n3 d3 s4 A4 n4 d4 p2 q2) (h1 : ab p1 < pw 60) (h2 : ab q1 < pw 60) (h3 : ab p2 < pw 60) (h4 : ab q2 < pw 60) (f1 : FR p1 q1) (f2 : FR p2 q2) (hf : ¬ (ab (p1 * q2) < pw 60 ∧ ab (p2 * q1) < pw 60 ∧ ab (p1 * q2 - p2 * q1) < pw 60 ∧ ab (q1 * q2) < pw 60)) :
    Calls Tryz.prog 43 #[.agg #[.int .i64 s1, .slice A1 n1 d1, .int .i64 s2, .slice A2 n2 d2], .agg #[.int .i64 s3, .slice A3 n3 d3, .int .i64 s4, .slice A4 n4 d4], .func (.func 44) #[] #[]] w fun e w' => e = .returned (.tuple #[.agg #[.int .i64 0, .slice none 0 0, .int .i64 0, .slice none 0 0], .int .i64 6]) ∧ Below w.heap.size w w' := by
  have H1 := Lib.hid h1; clear h1
  have H2 := Lib.hid h2; clear h2
  have H3 := Lib.hid h3; clear h3
  have H4 := Lib.hid h4; clear h4
  have F1 := Lib.hid f1; clear f1
  have F2 := Lib.hid f2; clear f2
  obtain ⟨Em, hEm⟩ : ∃ z, fite (p1 * q2) = z := ⟨_, rfl⟩
  obtain ⟨Zm, hZm⟩ : ∃ z, fitz (p1 * q2) = z := ⟨_, rfl⟩
  obtain ⟨En, hEn⟩ : ∃ z, fite (p2 * q1) = z := ⟨_, rfl⟩
  obtain ⟨Zn, hZn⟩ : ∃ z, fitz (p2 * q1) = z := ⟨_, rfl⟩
  obtain ⟨Es, hEs⟩ : ∃ z, fite (Zm - Zn) = z := ⟨_, rfl⟩
  obtain ⟨Zs, hZs⟩ : ∃ z, fitz (Zm - Zn) = z := ⟨_, rfl⟩
  obtain ⟨Et, hEt⟩ : ∃ z, fite (q1 * q2) = z := ⟨_, rfl⟩
  obtain ⟨Zt, hZt⟩ : ∃ z, fitz (q1 * q2) = z := ⟨_, rfl⟩
  have hz1 : ab Zm < pw 60 := by rw [← hZm]; exact fitz_lt _
  have hz2 : ab Zn < pw 60 := by rw [← hZn]; exact fitz_lt _
  have hmx := fun (W : World) (ts : Array TypeId) (t : TypeId) => max4_full Tryz.prog W ts t (fite_06 hEm) (fite_06 hEn) (fite_06 hEs) (fite_06 hEt) (fun ⟨a, b, c, d⟩ => hf (by
    subst a b c d
    have k1 := fite_0 hEm
    have k2 := fite_0 hEn
    have k3 := fite_0 hEs
    have k4 := fite_0 hEt
    rw [(fits k1).2] at hZm
    rw [(fits k2).2] at hZn
    subst hZm hZn
    exact ⟨k1, k2, k3, k4⟩))
  clear hf
  have HZ1 := Lib.hid hz1; clear hz1
  have HZ2 := Lib.hid hz2; clear hz2
  have HEm := Lib.hid hEm; clear hEm
  have HZm := Lib.hid hZm; clear hZm
  have HEn := Lib.hid hEn; clear hEn
  have HZn := Lib.hid hZn; clear hZn
  have HEs := Lib.hid hEs; clear hEs
  have HZs := Lib.hid hZs; clear hZs
  have HEt := Lib.hid hEt; clear hEt
  have HZt := Lib.hid hZt; clear hZt
  have HMX := Lib.hid hmx; clear hmx
  go_enter Tryz.func43, Tryz.ntmps43
  go_wp2_with fail
  obtain ⟨W0, hW, hbx, ka, kb, kR⟩ := fboxes2 ha hb
  rw [← hW]
  clear hW ha hb
  have hT := hbx
  have za0 := ka.c0
  have za1 := ka.c1
  have za2 := ka.c2
  have za3 := ka.c3
  go_wp2_with fail
  clear za0 za1 za2 za3
  (with_reducible refine (fright_pos _ ka.fv H1.out H2.out (FR.pos F1.out) true (decide_eq_true (FR.one F1.out))).mono ?_)
  rintro e u1 ⟨rfl, hb9⟩
  have hT := hT.trans (hb9.mono hT.size)
  have ka := ka.below hb9
  have kb := kb.below hb9
  have kR := kR.below hb9
  have zb0 := kb.c0
  have zb1 := kb.c1
  have zb2 := kb.c2
  have zb3 := kb.c3
  go_wp2_with fail
  clear zb0 zb1 zb2 zb3
  (with_reducible refine (fright_pos _ kb.fv H3.out H4.out (FR.pos F2.out) true (decide_eq_true (FR.one F2.out))).mono ?_)
  rintro e u2 ⟨rfl, hb9⟩
  have hT := hT.trans (hb9.mono hT.size)
  have ka := ka.below hb9
  have kb := kb.below hb9
  have kR := kR.below hb9
  have za0 := ka.c0
  have za1 := ka.c1
  have zb2 := kb.c2
  have zb3 := kb.c3
  go_wp2_with fail
  clear za0 za1
  clear zb2 zb3
  (with_reducible refine (mul_any _ _ _ _ _ ka.fv.a kb.fv.b H1.out H4.out).mono ?_)
  rintro e u3 ⟨rm, rfl, hrm, hb9⟩
  have hT := hT.trans (hb9.mono hT.size)
  have ka := ka.below hb9
  have kb := kb.below hb9
  have kR := kR.below hb9
  rw [HEm.out]
  rw [HZm.out] at hrm
  obtain ⟨sm, Am, nm, cm, rfl⟩ := hrm.form
  have kby := kb.below ((Below.refl _ u3).alloc (Nat.le_refl _) (.cells #[.int .i64 sm, .slice Am nm cm] 39))
  have zb0y := kby.c0
  have zb1y := kby.c1
  have kay := ka.below ((Below.refl _ u3).alloc (Nat.le_refl _) (.cells #[.int .i64 sm, .slice Am nm cm] 39))
  have za2y := kay.c2
  have za3y := kay.c3
  go_wp2_with fail
  clear zb0y zb1y
  clear kby
  clear za2y za3y
  clear kay
  obtain ⟨Wm, hW, hbx, km⟩ := box1 hrm
  rw [← hW]
  clear hW
  have hT := hT.trans (hbx.mono hT.size)
  have ka := ka.below hbx
  have kb := kb.below hbx
  have kR := kR.below hbx
  (with_reducible refine (mul_any _ _ _ _ _ kb.fv.a ka.fv.b H3.out H2.out).mono ?_)
  rintro e u4 ⟨rn, rfl, hrn, hb9⟩
  have hT := hT.trans (hb9.mono hT.size)
  have ka := ka.below hb9
  have kb := kb.below hb9
  have kR := kR.below hb9
  have km := km.below hb9
  rw [HEn.out]
  rw [HZn.out] at hrn
  obtain ⟨sn, An, nn, cn, rfl⟩ := hrn.form
  have kmy := km.below ((Below.refl _ u4).alloc (Nat.le_refl _) (.cells #[.int .i64 sn, .slice An nn cn] 39))
  have zm0y := kmy.c0
  have zm1y := kmy.c1
  go_wp2_with fail
  clear zm0y zm1y
  clear kmy
  obtain ⟨Wn, hW, hbx, kn⟩ := box1 hrn
  rw [← hW]
  clear hW
  have hT := hT.trans (hbx.mono hT.size)
  have ka := ka.below hbx
  have kb := kb.below hbx
  have kR := kR.below hbx
  have km := km.below hbx
  (with_reducible refine (sub_any _ _ _ _ _ km.bv kn.bv HZ1.out HZ2.out).mono ?_)
  rintro e u5 ⟨rs, rfl, hrs, hb9⟩
  have hT := hT.trans (hb9.mono hT.size)
  have ka := ka.below hb9
  have kb := kb.below hb9
  have kR := kR.below hb9
  have km := km.below hb9
  have kn := kn.below hb9
  rw [HEs.out]
  rw [HZs.out] at hrs
  obtain ⟨ss, As, ns, cs, rfl⟩ := hrs.form
  have kay := ka.below ((Below.refl _ u5).alloc (Nat.le_refl _) (.cells #[.int .i64 ss, .slice As ns cs] 39))
  have za2y := kay.c2
  have za3y := kay.c3
  have kby := kb.below ((Below.refl _ u5).alloc (Nat.le_refl _) (.cells #[.int .i64 ss, .slice As ns cs] 39))
  have zb2y := kby.c2
  have zb3y := kby.c3
  go_wp2_with fail
  clear za2y za3y
  clear kay
  clear zb2y zb3y
  clear kby
  obtain ⟨Ws, hW, hbx, ks⟩ := box1 hrs
  rw [← hW]
  clear hW
  have hT := hT.trans (hbx.mono hT.size)
  have ka := ka.below hbx
  have kb := kb.below hbx
  have kR := kR.below hbx
  have km := km.below hbx
  have kn := kn.below hbx
  (with_reducible refine (mul_any _ _ _ _ _ ka.fv.b kb.fv.b H2.out H4.out).mono ?_)
  rintro e u6 ⟨rt, rfl, hrt, hb9⟩
  have hT := hT.trans (hb9.mono hT.size)
  have ka := ka.below hb9
  have kb := kb.below hb9
  have kR := kR.below hb9
  have km := km.below hb9
  have kn := kn.below hb9
  have ks := ks.below hb9
  rw [HEt.out]
  rw [HZt.out] at hrt
  obtain ⟨st, At, nt, ct, rfl⟩ := hrt.form
  clear ka kb km kn ks
  have kR := kR.below ((Below.refl _ u6).alloc (Nat.le_refl _) (.cells #[.int .i64 st, .slice At nt ct] 39))
  have hT := hT.alloc hT.size (.cells #[.int .i64 st, .slice At nt ct] 39)
  have hmx := HMX.out; clear HMX
  have gR : w.heap.size ≤ w.heap.size + 1 + 1 := by omega
  have r0 := kR.blk.cell 0
  have r1 := kR.blk.cell 1
  have r2 := kR.blk.cell 2
  have r3 := kR.blk.cell 3
  have q0' := kR.blk.frozen 0
  have q1' := kR.blk.frozen 1
  have q2' := kR.blk.frozen 2
  have q3' := kR.blk.frozen 3
  simp at r0 r1 r2 r3
  have hbs := kR.blk.set4 (.int .i64 0) (.slice none 0 0) (.int .i64 0) (.slice none 0 0)
  have x0 := hbs.cell 0
  have x1 := hbs.cell 1
  have x2 := hbs.cell 2
  have x3 := hbs.cell 3
  simp at x0 x1 x2 x3
  go_wp2_with fail
  refine bodyPost_ret (v := .tuple #[.agg #[.int .i64 0, .slice none 0 0, .int .i64 0, .slice none 0 0], .int .i64 6]) (by simp [results, Tryz.results43, go_sem, x0, x1, x2, x3]) rfl ?_
  exact ⟨rfl, below_st4 hT gR _ _ _ _⟩

set_option maxRecDepth 100000 in
set_option maxHeartbeats 8000000 in
theorem fadd_full (s1 s2 s3 s4 : Int) (A1 A2 A3 A4 : Option Addr) (n1 d1 n2 d2 n3 d3 n4 d4 : Nat) (p1 q1 p2 q2 : Int) (w : World) (ha : FV w w.heap.size s1 A1 n1 d1 s2 A2 n2 d2 p1 q1) (hb : FV w w.heap.size s3 A3 n3 d3 s4 A4 n4 d4 p2 q2) (h1 : ab p1 < pw 60) (h2 : ab q1 < pw 60) (h3 : ab p2 < pw 60) (h4 : ab q2 < pw 60) (f1 : FR p1 q1) (f2 : FR p2 q2) (hf : ¬ (ab (p1 * q2) < pw 60 ∧ ab (p2 * q1) < pw 60 ∧ ab (p1 * q2 + p2 * q1) < pw 60 ∧ ab (q1 * q2) < pw 60)) :
    Calls Tryz.prog 62 #[.agg #[.int .i64 s1, .slice A1 n1 d1, .int .i64 s2, .slice A2 n2 d2], .agg #[.int .i64 s3, .slice A3 n3 d3, .int .i64 s4, .slice A4 n4 d4]] w fun e w' => e = .returned (.tuple #[.agg #[.int .i64 0, .slice none 0 0, .int .i64 0, .slice none 0 0], .int .i64 6]) ∧ Below w.heap.size w w' := by
  have HI := Lib.hid (fun (w' : World) (hw : Below w.heap.size w w') => combine_add_full s1 s2 s3 s4 A1 A2 A3 A4 n1 d1 n2 d2 n3 d3 n4 d4 p1 q1 p2 q2 w' (ha.later hw) (hb.later hw) h1 h2 h3 h4 f1 f2 hf)
  clear h1 h2 h3 h4 f1 f2 hf
  go_enter Tryz.func62, Tryz.ntmps62
  go_wp2_with fail
  obtain ⟨W0, hW, hbx, ka, kb, kR⟩ := fboxes2 ha hb
  rw [← hW]
  clear hW ha hb
  have hT := hbx
  have za0 := ka.c0
  have za1 := ka.c1
  have za2 := ka.c2
  have za3 := ka.c3
  have zb0 := kb.c0
  have zb1 := kb.c1
  have zb2 := kb.c2
  have zb3 := kb.c3
  go_wp2_with fail
  clear za0 za1 za2 za3
  clear zb0 zb1 zb2 zb3
  (with_reducible refine (HI.out _ hT).mono ?_)
  rintro e u3 ⟨rfl, hb9⟩
  have hT := hT.trans (hb9.mono hT.size)
  have kR := kR.below hb9
  clear ka kb HI
  have gR : w.heap.size ≤ w.heap.size + 1 + 1 := by omega
  have r0 := kR.blk.cell 0
  have r1 := kR.blk.cell 1
  have r2 := kR.blk.cell 2
  have r3 := kR.blk.cell 3
  have q0' := kR.blk.frozen 0
  have q1' := kR.blk.frozen 1
  have q2' := kR.blk.frozen 2
  have q3' := kR.blk.frozen 3
  simp at r0 r1 r2 r3
  have hbs := kR.blk.set4 (.int .i64 0) (.slice none 0 0) (.int .i64 0) (.slice none 0 0)
  have x0 := hbs.cell 0
  have x1 := hbs.cell 1
  have x2 := hbs.cell 2
  have x3 := hbs.cell 3
  simp at x0 x1 x2 x3
  go_wp2_with fail
  refine bodyPost_ret (v := .tuple #[.agg #[.int .i64 0, .slice none 0 0, .int .i64 0, .slice none 0 0], .int .i64 6]) (by simp [results, Tryz.results62, go_sem, x0, x1, x2, x3]) rfl ?_
  exact ⟨rfl, below_st4 hT gR _ _ _ _⟩

set_option maxRecDepth 100000 in
set_option maxHeartbeats 8000000 in
theorem fsub_full (s1 s2 s3 s4 : Int) (A1 A2 A3 A4 : Option Addr) (n1 d1 n2 d2 n3 d3 n4 d4 : Nat) (p1 q1 p2 q2 : Int) (w : World) (ha : FV w w.heap.size s1 A1 n1 d1 s2 A2 n2 d2 p1 q1) (hb : FV w w.heap.size s3 A3 n3 d3 s4 A4 n4 d4 p2 q2) (h1 : ab p1 < pw 60) (h2 : ab q1 < pw 60) (h3 : ab p2 < pw 60) (h4 : ab q2 < pw 60) (f1 : FR p1 q1) (f2 : FR p2 q2) (hf : ¬ (ab (p1 * q2) < pw 60 ∧ ab (p2 * q1) < pw 60 ∧ ab (p1 * q2 - p2 * q1) < pw 60 ∧ ab (q1 * q2) < pw 60)) :
    Calls Tryz.prog 25 #[.agg #[.int .i64 s1, .slice A1 n1 d1, .int .i64 s2, .slice A2 n2 d2], .agg #[.int .i64 s3, .slice A3 n3 d3, .int .i64 s4, .slice A4 n4 d4]] w fun e w' => e = .returned (.tuple #[.agg #[.int .i64 0, .slice none 0 0, .int .i64 0, .slice none 0 0], .int .i64 6]) ∧ Below w.heap.size w w' := by
  have HI := Lib.hid (fun (w' : World) (hw : Below w.heap.size w w') => combine_sub_full s1 s2 s3 s4 A1 A2 A3 A4 n1 d1 n2 d2 n3 d3 n4 d4 p1 q1 p2 q2 w' (ha.later hw) (hb.later hw) h1 h2 h3 h4 f1 f2 hf)
  clear h1 h2 h3 h4 f1 f2 hf
  go_enter Tryz.func25, Tryz.ntmps25
  go_wp2_with fail
  obtain ⟨W0, hW, hbx, ka, kb, kR⟩ := fboxes2 ha hb
  rw [← hW]
  clear hW ha hb
  have hT := hbx
  have za0 := ka.c0
  have za1 := ka.c1
  have za2 := ka.c2
  have za3 := ka.c3
  have zb0 := kb.c0
  have zb1 := kb.c1
  have zb2 := kb.c2
  have zb3 := kb.c3
  go_wp2_with fail
  clear za0 za1 za2 za3
  clear zb0 zb1 zb2 zb3
  (with_reducible refine (HI.out _ hT).mono ?_)
  rintro e u3 ⟨rfl, hb9⟩
  have hT := hT.trans (hb9.mono hT.size)
  have kR := kR.below hb9
  clear ka kb HI
  have gR : w.heap.size ≤ w.heap.size + 1 + 1 := by omega
  have r0 := kR.blk.cell 0
  have r1 := kR.blk.cell 1
  have r2 := kR.blk.cell 2
  have r3 := kR.blk.cell 3
  have q0' := kR.blk.frozen 0
  have q1' := kR.blk.frozen 1
  have q2' := kR.blk.frozen 2
  have q3' := kR.blk.frozen 3
  simp at r0 r1 r2 r3
  have hbs := kR.blk.set4 (.int .i64 0) (.slice none 0 0) (.int .i64 0) (.slice none 0 0)
  have x0 := hbs.cell 0
  have x1 := hbs.cell 1
  have x2 := hbs.cell 2
  have x3 := hbs.cell 3
  simp at x0 x1 x2 x3
  go_wp2_with fail
  refine bodyPost_ret (v := .tuple #[.agg #[.int .i64 0, .slice none 0 0, .int .i64 0, .slice none 0 0], .int .i64 6]) (by simp [results, Tryz.results25, go_sem, x0, x1, x2, x3]) rfl ?_
  exact ⟨rfl, below_st4 hT gR _ _ _ _⟩

end Go.Proofs.YtgpmmpajnfbecaaGreat

namespace Go.Proofs.YtgpmmpajnfbecaaGreat
open Go.RowKit

/-- The reference's Same, at big integers that are right. -/
theorem sameBig_len {x y : Int} (h : (D (ab x)).length ≠ (D (ab y)).length) : decide (x = y) = false := by
  rw [decide_eq_false_iff_not]; rintro rfl; exact h rfl
theorem sameBig_sgn {x y : Int} (h : sgn x ≠ sgn y) : decide (x = y) = false := by
  rw [decide_eq_false_iff_not]; rintro rfl; exact h rfl


set_option maxRecDepth 100000 in
set_option maxHeartbeats 2000000 in
theorem sameBig_any (x y : Int) (vx vy : Value) (w : World) (hx : BV w w.heap.size vx x) (hy : BV w w.heap.size vy y) :
    Calls Tryz.prog 60 #[vx, vy] w fun e w' => e = .returned (.bool (decide (x = y))) ∧ Below w.heap.size w w' := by
  obtain ⟨A1, c1, rfl, hc1, hm1, hI1⟩ := hx
  obtain ⟨A2, c2, rfl, hc2, hm2, hI2⟩ := hy
  have hbx : Below w.heap.size w ((w.alloc (.cells #[.int .i64 (sgn x), .slice A1 (D (ab x)).length c1] 39)).alloc (.cells #[.int .i64 (sgn y), .slice A2 (D (ab y)).length c2] 39)) := ((Below.refl _ _).alloc (Nat.le_refl _) _).alloc (by simp) _
  by_cases hss : sgn x = sgn y
  · by_cases hll : (D (ab x)).length = (D (ab y)).length
    · have hdec : ∀ b : Bool, (D (ab x) = D (ab y) → b = true) → (D (ab x) ≠ D (ab y) → b = false) → b = decide (x = y) := by
        intro b h1 h2
        by_cases hd : D (ab x) = D (ab y)
        · rw [h1 hd]; symm; rw [decide_eq_true_iff]; exact same_iff.1 ⟨hss, hd⟩
        · rw [h2 hd]; symm; rw [decide_eq_false_iff_not]; exact fun h => hd (same_iff.2 h).2
      rw [← hss, ← hll] at hbx ⊢
      obtain ⟨lx, hlx⟩ : ∃ l, D (ab x) = l := ⟨_, rfl⟩
      obtain ⟨ly, hly⟩ : ∃ l, D (ab y) = l := ⟨_, rfl⟩
      rw [hlx, hly] at hdec hll
      rw [hlx] at hbx hI1 hc1 ⊢
      rw [hly] at hI2 hc2
      obtain ⟨n, hn⟩ : ∃ n, lx.length = n := ⟨_, rfl⟩
      have hnn : lx.length ≤ n ∧ n ≤ lx.length ∧ ly.length ≤ n ∧ n ≤ ly.length := by omega
      rw [hn] at hbx hc1 ⊢
      obtain ⟨s, hs⟩ : ∃ s, sgn x = s := ⟨_, rfl⟩
      rw [hs] at hbx ⊢
      have hnm : n ≤ 9223372036854775807 := by omega
      obtain ⟨W, hW⟩ : ∃ W, W = (w.alloc (.cells #[.int .i64 s, .slice A1 n c1] 39)).alloc (.cells #[.int .i64 s, .slice A2 n c2] 39) := ⟨_, rfl⟩
      obtain ⟨W', hW', _, k1, k2, _⟩ := boxes2 w #[.int .i64 s, .slice A1 n c1] #[.int .i64 s, .slice A2 n c2]
      rw [← hW'] at hW
      subst hW
      have HDEC := Lib.hid hdec
      clear hdec hn hs hll hlx hly hss hc1 hc2
      go_enter Tryz.func60, Tryz.ntmps60
      go_wp2_with fail
      rw [← hW'] at hbx ⊢
      clear hW'
      go_loopw [5] (fun i wr => ∃ k : Nat, k ≤ n ∧ i = .int .i64 k ∧ Hid (lx.take k = ly.take k) ∧ ∃ q, wr = W.drewN q) (fun i _ => n - (intOf i).toNat)
      case atStart => exact ⟨0, Nat.zero_le _, rfl, Lib.hid rfl, 0, rfl⟩
      case round =>
        obtain ⟨k, hk, rfl, ht, q, rfl⟩ := hrel
        have j1 : (W.drewN q).cell? ⟨w.heap.size, 1, none⟩ = some (.slice A1 n c1) := k1.cell 1
        have j2 : (W.drewN q).cell? ⟨w.heap.size + 1, 1, none⟩ = some (.slice A2 n c2) := k2.cell 1
        by_cases hlt : k < n
        · obtain ⟨b1, o1, hA1, hB1, hk1⟩ := hI1 k (by omega)
          obtain ⟨b2, o2, hA2, hB2, hk2⟩ := hI2 k (by omega)
          subst hA1; subst hA2
          have hk1 : (W.drewN q).cell? ⟨b1, o1 + k, none⟩ = some (.int .i64 (lx.getD k 0)) := (hbx.cell (p := ⟨b1, o1 + k, none⟩) hB1).trans hk1
          have hk2 : (W.drewN q).cell? ⟨b2, o2 + k, none⟩ = some (.int .i64 (ly.getD k 0)) := (hbx.cell (p := ⟨b2, o2 + k, none⟩) hB2).trans hk2
          have jW1 : W.cell? ⟨w.heap.size, 1, none⟩ = some (.slice (some ⟨b1, o1, none⟩) n c1) := k1.cell 1
          have jW2 : W.cell? ⟨w.heap.size + 1, 1, none⟩ = some (.slice (some ⟨b2, o2, none⟩) n c2) := k2.cell 1
          have hkW1 : W.cell? ⟨b1, o1 + k, none⟩ = some (.int .i64 (lx.getD k 0)) := hk1
          have hkW2 : W.cell? ⟨b2, o2 + k, none⟩ = some (.int .i64 (ly.getD k 0)) := hk2
          have e1 := take_snoc (l := lx) (k := k) (by omega)
          have e2 := take_snoc (l := ly) (k := k) (by omega)
          have hne : lx.getD k 0 ≠ ly.getD k 0 → lx ≠ ly := fun h e => h (by rw [e])
          obtain ⟨u, hu⟩ : ∃ u, lx.getD k 0 = u := ⟨_, rfl⟩
          obtain ⟨v, hv⟩ : ∃ u, ly.getD k 0 = u := ⟨_, rfl⟩
          rw [hu] at hk1 e1 hne hkW1
          rw [hv] at hk2 e2 hne hkW2
          clear hu hv
          have HE1 := Lib.hid e1; clear e1
          have HE2 := Lib.hid e2; clear e2
          have HNE := Lib.hid hne; clear hne
          by_cases huv : u = v
          · subst huv
            go_wp2_with fail
            go_quiet (fail)
            go_wp2_with fail
            go_roundw
            case rel => exact ⟨k + 1, by omega, by go_num, Lib.hid (by rw [HE1.out, HE2.out, ht.out]), _, rfl⟩
            case measure => simp [intOf]; omega
          · have huv' : (u != v) = true := by simpa using huv
            go_wp2_with fail
            go_quiet (fail)
            go_wp2_with fail
            go_ret
            exact ⟨by rw [← HDEC.out false (fun h => absurd h (HNE.out huv)) (fun _ => rfl)]; rfl, below_drewN (below_drewN hbx _) _⟩
        · have : k = n := by omega
          subst this
          have he := ht.out
          rw [List.take_of_length_le (l := lx) (by omega), List.take_of_length_le (l := ly) (by omega)] at he
          have HE := Lib.hid he; clear he
          go_wp2_with fail
          go_ret
          exact ⟨by rw [← HDEC.out true (fun _ => rfl) (fun h => absurd HE.out h)]; rfl, below_drewN hbx _⟩
    · rw [sameBig_len hll]
      obtain ⟨n1, hn1⟩ : ∃ n, (D (ab x)).length = n := ⟨_, rfl⟩
      obtain ⟨n2, hn2⟩ : ∃ n, (D (ab y)).length = n := ⟨_, rfl⟩
      rw [hn1, hn2] at hll hbx
      rw [hn1, hn2]
      rw [← hss] at hbx ⊢
      obtain ⟨s, hs⟩ : ∃ s, sgn x = s := ⟨_, rfl⟩
      rw [hs] at hbx ⊢
      have hd : decide (n1 = n2) = false := by simpa using hll
      have HBX := Lib.hid hbx
      clear hn1 hn2 hs hss hbx hI1 hI2 hc1 hc2
      go_enter Tryz.func60, Tryz.ntmps60
      go_wp2_with fail
      go_ret
      exact ⟨rfl, HBX.out⟩
  · rw [sameBig_sgn hss]
    obtain ⟨n1, hn1⟩ : ∃ n, (D (ab x)).length = n := ⟨_, rfl⟩
    obtain ⟨n2, hn2⟩ : ∃ n, (D (ab y)).length = n := ⟨_, rfl⟩
    rw [hn1, hn2] at hbx
    rw [hn1, hn2]
    obtain ⟨s1, hs1⟩ : ∃ s, sgn x = s := ⟨_, rfl⟩
    obtain ⟨s2, hs2⟩ : ∃ s, sgn y = s := ⟨_, rfl⟩
    rw [hs1, hs2] at hss hbx
    rw [hs1, hs2]
    have hd : (s1 != s2) = true := by simpa using hss
    have HBX := Lib.hid hbx
    clear hn1 hn2 hs1 hs2 hss hbx hI1 hI2 hc1 hc2
    go_enter Tryz.func60, Tryz.ntmps60
    go_wp2_with fail
    go_ret
    exact ⟨rfl, HBX.out⟩


theorem fboxes1 {w : World} {s1 s2 s3 s4 : Int} {A1 A2 A3 A4 : Option Addr} {n1 d1 n2 d2 n3 d3 n4 d4 : Nat} {p1 q1 p2 q2 : Int} (h1 : FV w w.heap.size s1 A1 n1 d1 s2 A2 n2 d2 p1 q1) (h2 : FV w w.heap.size s3 A3 n3 d3 s4 A4 n4 d4 p2 q2) :
    ∃ W, W = (w.alloc (.cells #[.int .i64 s1, .slice A1 n1 d1, .int .i64 s2, .slice A2 n2 d2] 41)).alloc (.cells #[.int .i64 s3, .slice A3 n3 d3, .int .i64 s4, .slice A4 n4 d4] 41) ∧ Below w.heap.size w W ∧
      Bf 41 W w.heap.size s1 A1 n1 d1 s2 A2 n2 d2 p1 q1 ∧ Bf 41 W (w.heap.size + 1) s3 A3 n3 d3 s4 A4 n4 d4 p2 q2 := by
  have hb1 : Below w.heap.size w (w.alloc (.cells #[.int .i64 s1, .slice A1 n1 d1, .int .i64 s2, .slice A2 n2 d2] 41)) := (Below.refl _ _).alloc (Nat.le_refl _) _
  have hb2 := hb1.alloc hb1.size (.cells #[.int .i64 s3, .slice A3 n3 d3, .int .i64 s4, .slice A4 n4 d4] 41)
  have k1 := Blk.new w 41 #[.int .i64 s1, .slice A1 n1 d1, .int .i64 s2, .slice A2 n2 d2]
  have k2 := Blk.new (w.alloc (.cells #[.int .i64 s1, .slice A1 n1 d1, .int .i64 s2, .slice A2 n2 d2] 41)) 41 #[.int .i64 s3, .slice A3 n3 d3, .int .i64 s4, .slice A4 n4 d4]
  simp only [World.size_alloc] at k2
  exact ⟨_, rfl, hb2, ⟨k1.alloc _, h1.later hb2⟩, ⟨k2, h2.later hb2⟩⟩

set_option maxRecDepth 100000 in
set_option maxHeartbeats 4000000 in
theorem fsame_any (s1 s2 s3 s4 : Int) (A1 A2 A3 A4 : Option Addr) (n1 d1 n2 d2 n3 d3 n4 d4 : Nat) (p1 q1 p2 q2 : Int) (w : World) (ha : FV w w.heap.size s1 A1 n1 d1 s2 A2 n2 d2 p1 q1) (hb : FV w w.heap.size s3 A3 n3 d3 s4 A4 n4 d4 p2 q2) (b : Bool) (hbb : decide (p1 = p2 ∧ q1 = q2) = b) :
    Calls Tryz.prog 32 #[.agg #[.int .i64 s1, .slice A1 n1 d1, .int .i64 s2, .slice A2 n2 d2], .agg #[.int .i64 s3, .slice A3 n3 d3, .int .i64 s4, .slice A4 n4 d4]] w fun e w' => e = .returned (.bool b) ∧ Below w.heap.size w w' := by
  have HBB := Lib.hid hbb; clear hbb
  go_enter Tryz.func32, Tryz.ntmps32
  go_wp2_with fail
  obtain ⟨W0, hW, hbx, ka, kb⟩ := fboxes1 ha hb
  rw [← hW]
  clear hW ha hb
  have hT := hbx
  have a0 := ka.c0
  have a1 := ka.c1
  have b0 := kb.c0
  have b1 := kb.c1
  go_wp2_with fail
  clear a0 a1 b0 b1
  (with_reducible refine (sameBig_any _ _ _ _ _ ka.fv.a kb.fv.a).mono ?_)
  rintro e u1 ⟨rfl, hb9⟩
  have hT := hT.trans (hb9.mono hT.size)
  have ka := ka.below hb9
  have kb := kb.below hb9
  by_cases h : p1 = p2
  · rw [decide_eq_true h]
    have a2 := ka.c2
    have a3 := ka.c3
    have b2 := kb.c2
    have b3 := kb.c3
    have hb1 : decide (q1 = q2) = b := by rw [← HBB.out]; simp [h]
    have HB1 := Lib.hid hb1; clear hb1 h
    go_wp2_with fail
    clear a2 a3 b2 b3
    (with_reducible refine (sameBig_any _ _ _ _ _ ka.fv.b kb.fv.b).mono ?_)
    rintro e u2 ⟨rfl, hb9⟩
    have hT := hT.trans (hb9.mono hT.size)
    rw [HB1.out]
    go_wp2_with fail
    go_ret
    exact ⟨rfl, hT⟩
  · rw [decide_eq_false h]
    have hb0 : b = false := by rw [← HBB.out]; simp [h]
    subst hb0
    clear h HBB
    go_wp2_with fail
    go_ret
    exact ⟨rfl, hT⟩

set_option maxRecDepth 100000 in
set_option maxHeartbeats 4000000 in
theorem ffew_any (s1 s2 n : Int) (A1 A2 : Option Addr) (n1 d1 n2 d2 : Nat) (w : World) (b : Bool) (hbb : decide ((n1 : Int) ≤ n ∧ (n2 : Int) ≤ n) = b) :
    Calls Tryz.prog 21 #[.agg #[.int .i64 s1, .slice A1 n1 d1, .int .i64 s2, .slice A2 n2 d2], .int .i64 n] w fun e w' => e = .returned (.bool b) ∧ Below w.heap.size w w' := by
  have HBB := Lib.hid hbb; clear hbb
  by_cases h : (n1 : Int) ≤ n
  · by_cases h2 : (n2 : Int) ≤ n
    · have hb0 : b = true := by rw [← HBB.out]; simp [h, h2]
      subst hb0
      clear HBB
      go_enter Tryz.func21, Tryz.ntmps21
      go_wp2_with fail
      go_ret
      exact ⟨rfl, (Below.refl _ _).alloc (Nat.le_refl _) _⟩
    · have hb0 : b = false := by rw [← HBB.out]; simp [h2]
      subst hb0
      clear HBB
      go_enter Tryz.func21, Tryz.ntmps21
      go_wp2_with fail
      go_ret
      exact ⟨rfl, (Below.refl _ _).alloc (Nat.le_refl _) _⟩
  · have hb0 : b = false := by rw [← HBB.out]; simp [h]
    subst hb0
    clear HBB
    go_enter Tryz.func21, Tryz.ntmps21
    go_wp2_with fail
    go_ret
    exact ⟨rfl, (Below.refl _ _).alloc (Nat.le_refl _) _⟩

end Go.Proofs.YtgpmmpajnfbecaaGreat
